/- The law SignOnly: the walk. -/
import Derived.Test.YtogedlfpgoicfaaDoorSSane
namespace Go.Proofs.YtogedlfpgoicfaaDoor
open Go.RowKit

namespace G
/-- For each R exactly one S. -/
theorem ver_only (x : Nat) (m : List UInt8) (n : Int) : ver (pw 4 x : Nat) (sigR x m : Nat) n m = (n == (sigS x m : Int)) := by
  unfold ver
  rw [el_iff.2 (el4.pw x), el_iff.2 (sigR_el x m)]
  simp only [Int.toNat_natCast, Bool.true_and]
  cases h : sc n with
  | false =>
    rw [Bool.false_and]
    symm
    rw [beq_eq_false_iff_ne]
    rintro rfl
    rw [sc_nat (sigS_lt x m)] at h
    cases h
  | true =>
    obtain ⟨k, rfl, hk⟩ := sc_nat' h
    rw [Bool.true_and, Int.toNat_natCast, Bool.eq_iff_iff, decide_eq_true_iff, beq_iff_eq]
    have h1 := sig_ok x m
    constructor
    · intro e
      have e2 : pw 4 k = pw 4 (sigS x m) := by rw [h1]; exact e
      rw [pw_inj hk (sigS_lt x m) e2]
    · intro e
      have e2 : k = sigS x m := by omega
      rw [e2]; exact h1
end G

set_option maxRecDepth 100000 in
set_option maxHeartbeats 4000000 in
theorem only_walk (pr : Int) (a : Option Addr) (n cap : Nat) (bs : List UInt8) (ot : Int) (w : World) (hK : KT w) (_ : -9223372036854775808 ≤ pr) (_ : pr ≤ 9223372036854775807) (hn : bs.length = n) (_ : n ≤ cap) (hb : BytesAt w a bs) (_ : -9223372036854775808 ≤ ot) (_ : ot ≤ 9223372036854775807) :
    Calls Tryd.prog 13 #[.int .i64 pr, .slice a n cap, .int .i64 ot] w fun e w' => e = .returned (.bool true) ∧ Below w.heap.size w w' := by
  have HK := Lib.hid hK; have HB := Lib.hid hb; have HN := Lib.hid hn
  clear hK hb hn
  have HS := Lib.hid (ssane_any w HK.out)
  by_cases g1 : 1000 < n
  · have q1 : decide ((1000 : Int) < (n : Int)) = true := by rw [decide_eq_true_iff]; omega
    go_enter Tryd.func13, Tryd.ntmps13
    go_wp2_with fail
    refine HS.out.mono ?_
    rintro e w1 ⟨rfl, hb1⟩
    have HW := Lib.hid hb1
    clear hb1 HS
    go_wp2_with fail
    go_ret
    exact ⟨rfl, HW.out⟩
  have q1 : decide ((1000 : Int) < (n : Int)) = false := by rw [decide_eq_false_iff_not]; omega
  have HL := Lib.hid (show n ≤ 100000 by omega)
  clear g1
  go_enter Tryd.func13, Tryd.ntmps13
  go_wp2_with fail
  refine HS.out.mono ?_
  rintro e w1 ⟨rfl, hb1⟩
  have HW : Hid (Below w.heap.size w w1) := Lib.hid hb1
  clear hb1 HS
  go_wp2_with fail
  refine (key_any pr _).mono ?_
  rintro e w2 ⟨⟨x, hx1, hx2, rfl⟩, rfl⟩
  obtain ⟨p, hp⟩ : ∃ p, p = G.pw 4 x := ⟨_, rfl⟩
  obtain ⟨r, hr⟩ : ∃ r, r = G.sigR x bs := ⟨_, rfl⟩
  obtain ⟨s, hs⟩ : ∃ s, s = G.sigS x bs := ⟨_, rfl⟩
  have P1 : Hid (∀ W : World, Calls Tryd.prog 40 #[.int .i64 x] W fun e w' => e = .returned (.tuple #[.int .i64 p, .int .i64 0]) ∧ Below W.heap.size W w') := Lib.hid fun W => public_ok x p W hx1 hx2 (Lib.hid hp)
  have P2 : Hid (∀ W : World, Below w.heap.size w W → Calls Tryd.prog 42 #[.int .i64 x, .slice a n cap] W fun e w' => e = .returned (.tuple #[.agg #[.int .i64 r, .int .i64 s], .int .i64 0]) ∧ Below W.heap.size W w') := Lib.hid fun W hW => by
    rw [hr, hs]; exact sign_ok x a n cap bs W (HK.out.kept hW HK.out.pos) hx1 hx2 HN.out HL.out (HB.out.kept hW)
  have hsl : s < 2305843009213688669 := by rw [hs]; exact G.sigS_lt _ _
  have P5 : Hid (∀ (k : Int) (W : World), Below w.heap.size w W → Calls Tryd.prog 46 #[.int .i64 p, .slice a n cap, .agg #[.int .i64 r, .int .i64 k]] W fun e w' => e = .returned (.bool (k == (s : Int))) ∧ Below W.heap.size W w') := Lib.hid fun k W hW => by
    have h := verify_any p r k a n cap bs W (HK.out.kept hW HK.out.pos) HN.out HL.out (HB.out.kept hW)
    rw [hp, hr, G.ver_only] at h
    rw [hp, hr, hs]; exact h
  clear hp hr hs hx1 hx2
  go_wp2_with fail
  refine (P1.out _).mono ?_
  rintro e w3 ⟨rfl, hb⟩
  replace HW := step_below HW hb
  clear hb
  go_wp2_with fail
  refine (P2.out _ HW.out).mono ?_
  rintro e w4 ⟨rfl, hb⟩
  replace HW := step_below HW hb
  clear hb
  have HG : Hid (Sig (w4.alloc (.cells #[.int .i64 r, .int .i64 s] 52)) w4.heap.size r s) := Lib.hid (Sig.new w4 r s)
  have HV : Hid (Below w.heap.size w (w4.alloc (.cells #[.int .i64 r, .int .i64 s] 52))) := Lib.hid (HW.out.alloc HW.out.size _)
  clear HW P1 P2
  have k0 := HG.out.c0; have k1 := HG.out.c1
  go_wp2_with fail
  generalize w4.alloc (.cells #[.int .i64 r, .int .i64 s] 52) = W5 at HG HV k0 k1 ⊢
  generalize w4.heap.size = g at HG k0 k1 ⊢
  have e1 : IntKind.i64.wrap ((s : Int) + 2305843009213688669) = (s : Int) + 2305843009213688669 := by rw [IntKind.wrap_i64]; omega
  have e2 : IntKind.i64.wrap ((s : Int) - 2305843009213688669) = (s : Int) - 2305843009213688669 := by rw [IntKind.wrap_i64]; omega
  go_region_held3 (fun w' => w'.cell? ⟨g, 0, none⟩ = some (.int .i64 r) ∧ w'.cell? ⟨g, 1, none⟩ = some (.int .i64 s)) (first | exact ⟨HG.out.c0, HG.out.c1⟩ | exact (fun (h : Hid (Sig _ g r s)) => And.intro h.out.c0 h.out.c1) (sig_step HG ((Below.refl W5.heap.size W5).alloc (Nat.le_refl _) _)) | exact (fun (h : Hid (Sig _ g r s)) => And.intro h.out.c0 h.out.c1) (sig_step HG (((Below.refl W5.heap.size W5).alloc (Nat.le_refl _) _).drew)))
    (first
      | (go_at_call 39; refine (key_any ot _).mono ?_; rintro e wk ⟨⟨y, hy1, hy2, rfl⟩, rfl⟩; have e3 : IntKind.i64.wrap ((y : Int) - 1) = (y : Int) - 1 := (by rw [IntKind.wrap_i64]; omega)))
  all_goals
    have HL4 : Hid ((W5.alloc (.cells #[.int .i64 ot, .int .i64 ((y : Int) - 1), .int .i64 ((s : Int) + 2305843009213688669), .int .i64 ((s : Int) - 2305843009213688669)] 3)).drew.heap[W5.heap.size]? = some (.cells #[.int .i64 ot, .int .i64 ((y : Int) - 1), .int .i64 ((s : Int) + 2305843009213688669), .int .i64 ((s : Int) - 2305843009213688669)] 3 (0, 0))) := Lib.hid (heap_alloc_new W5 _)
    have HA : Below W5.heap.size W5 (W5.alloc (.cells #[.int .i64 ot, .int .i64 ((y : Int) - 1), .int .i64 ((s : Int) + 2305843009213688669), .int .i64 ((s : Int) - 2305843009213688669)] 3)).drew := ((Below.refl _ _).alloc (Nat.le_refl _) _).drew
    have HG6 := sig_step HG HA
    have HV6 := step_below HV HA
    clear HA k0 k1 e1 e2 e3 hy1 hy2 HG HV
    go_wp2_with fail
    go_simp
    generalize (W5.alloc (.cells #[.int .i64 ot, .int .i64 ((y : Int) - 1), .int .i64 ((s : Int) + 2305843009213688669), .int .i64 ((s : Int) - 2305843009213688669)] 3)).drew = W6 at HL4 HG6 HV6 ⊢
    generalize W5.heap.size = h at HL4 ⊢
    go_loopw [50] (fun ii wr => ∃ i : Nat, i ≤ 4 ∧ ii = .int .i64 i ∧ Hid (Below W6.heap.size W6 wr))
      (fun ii _ => 4 - (intOf ii).toNat)
    case atStart => exact ⟨0, Nat.zero_le _, rfl, Lib.hid (Below.refl _ _)⟩
    case round =>
      obtain ⟨i, hi, rfl, HI⟩ := hrel
      by_cases hlt : i < 4
      · obtain ⟨v, hv⟩ : ∃ v : Int, wr.cell? ⟨h, i, none⟩ = some (.int .i64 v) := by
          rw [cell_of_row _ _ _ _ _ _ ((HI.out.block _ (Array.getElem?_eq_some_iff.1 HL4.out).1).trans HL4.out)]
          have h4 : i = 0 ∨ i = 1 ∨ i = 2 ∨ i = 3 := by omega
          rcases h4 with rfl | rfl | rfl | rfl <;> exact ⟨_, rfl⟩
        have s1 : decide ((i : Int) < 4) = true := by rw [decide_eq_true_iff]; omega
        have HG7 : Hid (Sig wr g r s) := sig_step HG6 HI.out
        have HV7 : Hid (Below w.heap.size w wr) := step_below HV6 HI.out
        have k0 := HG7.out.c0; have k1 := HG7.out.c1
        obtain ⟨b, hb⟩ : ∃ b, (v == (s : Int)) = b := ⟨_, rfl⟩
        have P6 : Hid (∀ W : World, Below w.heap.size w W → Calls Tryd.prog 46 #[.int .i64 p, .slice a n cap, .agg #[.int .i64 r, .int .i64 v]] W fun e w' => e = .returned (.bool b) ∧ Below W.heap.size W w') := Lib.hid fun W hW => by
          rw [← hb]; exact P5.out v W hW
        cases b
        all_goals
          go_wp2_with fail
          go_region_held3 (fun w' => w'.cell? ⟨g, 0, none⟩ = some (.int .i64 r) ∧ w'.cell? ⟨g, 1, none⟩ = some (.int .i64 s)) (first | exact ⟨HG8.out.c0, HG8.out.c1⟩ | exact ⟨HG7.out.c0, HG7.out.c1⟩)
            (first
              | (go_at_call 46; refine (P6.out _ HV7.out.drew).mono ?_; rintro e wx ⟨rfl, hbx⟩; have HG8 := sig_step HG7 ((Below.refl _ _).drew.trans hbx); have HI8 := Lib.hid (HI.out.trans (((Below.refl _ _).drew.trans hbx).mono HI.out.size)); clear hbx))
          all_goals
            go_wp2_with fail
            refine ⟨⟨i + 1, by omega, by go_num, HI8⟩, ?_⟩
            simp [intOf]; omega
      · obtain rfl : i = 4 := by omega
        have HV7 : Hid (Below w.heap.size w wr) := step_below HV6 HI.out
        clear hi hlt
        go_wp2_with fail
        go_ret
        exact ⟨rfl, HV7.out⟩

end Go.Proofs.YtogedlfpgoicfaaDoor
