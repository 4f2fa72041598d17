/- The laws' examples hold. -/
import Derived.Test.YtogedlfpgoicfaaDoorSPrivate
namespace Go.Proofs.YtogedlfpgoicfaaDoor
open Go.RowKit

namespace G
theorem pw41 : pw 4 1 = 4 := pw_one el4
theorem ver_zero (r s : Int) (m : List UInt8) : ver 0 r s m = false := by unfold ver; rw [el_zero, Bool.false_and]
theorem ver_big (p r : Int) (m : List UInt8) : ver p r 2305843009213688669 m = false := by
  have h : sc 2305843009213688669 = false := by decide
  unfold ver; rw [h]; simp
theorem ver_sig (x : Nat) (m : List UInt8) : ver (pw 4 x : Nat) (sigR x m : Nat) (sigS x m : Nat) m = true := by
  unfold ver
  rw [el_iff.2 (el4.pw x), el_iff.2 (sigR_el x m), sc_nat (sigS_lt x m)]
  simp only [Int.toNat_natCast, Bool.true_and, decide_eq_true_eq]
  exact sig_ok x m
end G

theorem row1_bytes {w : World} {B : Nat} {fr : Nat × Nat} (h : w.heap[B]? = some (.cells #[.int .u8 7] 5 fr)) : BytesAt w (some ⟨B, 0, none⟩) [7] := fun i hi => by
  refine ⟨_, rfl, ?_⟩
  have h3 : i = 0 := by simp at hi; omega
  subst h3
  rw [show (⟨B, 0, none⟩ : Addr).add 0 = ⟨B, 0, none⟩ from rfl, cell_of_row _ _ _ _ _ _ h]; rfl

set_option maxRecDepth 100000 in
set_option maxHeartbeats 4000000 in
theorem ssane_any (w : World) (hK : KT w) :
    Calls Tryd.prog 38 #[] w fun e w' => e = .returned (.bool true) ∧ Below w.heap.size w w' := by
  have HK := Lib.hid hK
  clear hK
  obtain ⟨r, hr⟩ : ∃ r, r = G.sigR 1 [7] := ⟨_, rfl⟩
  obtain ⟨s, hs⟩ : ∃ s, s = G.sigS 1 [7] := ⟨_, rfl⟩
  obtain ⟨x, hx⟩ : ∃ x, x = G.scal G.tagPrivate (H.outn H.init 0 ++ (G.num8 0 ++ (⟨#[]⟩ : ByteArray).data.toList)) := ⟨_, rfl⟩
  have hx1 : 1 ≤ x := by rw [hx]; exact G.scal_pos _ _
  have hx2 : x < 2305843009213688669 := by rw [hx]; exact G.scal_lt _ _
  have hr1 : 1 ≤ r := by rw [hr]; exact (G.sigR_el _ _).1
  have P1 : Hid (∀ W : World, Calls Tryd.prog 40 #[.int .i64 1] W fun e w' => e = .returned (.tuple #[.int .i64 4, .int .i64 0]) ∧ Below W.heap.size W w') := Lib.hid fun W => public_ok 1 4 W (by decide) (by decide) (Lib.hid G.pw41.symm)
  have P2 : Hid (∀ W : World, Calls Tryd.prog 40 #[.int .i64 0] W fun e w' => e = .returned (.tuple #[.int .i64 0, .int .i64 40]) ∧ Below W.heap.size W w') := Lib.hid fun W => public_no 0 W (by decide)
  have P3 : Hid (∀ W : World, Calls Tryd.prog 40 #[.int .i64 2305843009213688669] W fun e w' => e = .returned (.tuple #[.int .i64 0, .int .i64 40]) ∧ Below W.heap.size W w') := Lib.hid fun W => public_no 2305843009213688669 W (by decide)
  have P4 : Hid (∀ W : World, Calls Tryd.prog 42 #[.int .i64 0, .slice none 0 0] W fun e w' => e = .returned (.tuple #[.agg #[.int .i64 0, .int .i64 0], .int .i64 40]) ∧ Below W.heap.size W w') := Lib.hid fun W => sign_no 0 _ W (by decide)
  have P5 : Hid (∀ (W : World) (q : Nat), q = W.heap.size → Below w.heap.size w W → Calls Tryd.prog 42 #[.int .i64 1, .slice (some ⟨q, 0, none⟩) 1 1] (W.alloc (.cells #[.int .u8 7] 5)) fun e w' => e = .returned (.tuple #[.agg #[.int .i64 r, .int .i64 s], .int .i64 0]) ∧ Below W.heap.size W w') := Lib.hid fun W q hq hW => by
    subst hq
    have hb : Below W.heap.size W (W.alloc (.cells #[.int .u8 7] 5)) := (Below.refl _ _).alloc (Nat.le_refl _) _
    rw [hr, hs]
    refine (sign_ok 1 (some ⟨W.heap.size, 0, none⟩) 1 1 [7] _ (HK.out.kept (hW.trans (hb.mono hW.size)) HK.out.pos) (by decide) (by decide) rfl (by decide) (row1_bytes (heap_alloc_new W _))).mono ?_
    rintro e w' ⟨rfl, h⟩
    exact ⟨rfl, hb.trans (h.mono hb.size)⟩
  have P6 : Hid (∀ W : World, Below w.heap.size w W → Calls Tryd.prog 44 #[.agg (byts (H.outn H.init 0)), .string ⟨#[]⟩, .int .i64 0] W fun e w' => e = .returned (.int .i64 x) ∧ Below W.heap.size W w') := Lib.hid fun W hW => by
    rw [hx]; exact private_any (H.outn H.init 0) ⟨#[]⟩ 0 W (HK.out.kept hW HK.out.pos) (H.outn_len _ _) (by decide)
  have P7 : Hid (∀ W : World, Below w.heap.size w W → Calls Tryd.prog 46 #[.int .i64 0, .slice none 0 0, .agg #[.int .i64 0, .int .i64 0]] W fun e w' => e = .returned (.bool false) ∧ Below W.heap.size W w') := Lib.hid fun W hW => by
    have h := verify_any 0 0 0 none 0 0 [] W (HK.out.kept hW HK.out.pos) rfl (by decide) (bytesAt_nil _ _)
    rw [G.ver_zero] at h; exact h
  have P8 : Hid (∀ W : World, Below w.heap.size w W → Calls Tryd.prog 46 #[.int .i64 4, .slice none 0 0, .agg #[.int .i64 4, .int .i64 2305843009213688669]] W fun e w' => e = .returned (.bool false) ∧ Below W.heap.size W w') := Lib.hid fun W hW => by
    have h := verify_any 4 4 2305843009213688669 none 0 0 [] W (HK.out.kept hW HK.out.pos) rfl (by decide) (bytesAt_nil _ _)
    rw [G.ver_big] at h; exact h
  have P9 : Hid (∀ (W : World) (q : Nat), q = W.heap.size → Below w.heap.size w W → Calls Tryd.prog 46 #[.int .i64 4, .slice (some ⟨q, 0, none⟩) 1 1, .agg #[.int .i64 r, .int .i64 s]] (W.alloc (.cells #[.int .u8 7] 5)) fun e w' => e = .returned (.bool true) ∧ Below W.heap.size W w') := Lib.hid fun W q hq hW => by
    subst hq
    have hb : Below W.heap.size W (W.alloc (.cells #[.int .u8 7] 5)) := (Below.refl _ _).alloc (Nat.le_refl _) _
    have h := verify_any (G.pw 4 1 : Nat) (G.sigR 1 [7] : Nat) (G.sigS 1 [7] : Nat) (some ⟨W.heap.size, 0, none⟩) 1 1 [7] _ (HK.out.kept (hW.trans (hb.mono hW.size)) HK.out.pos) rfl (by decide) (row1_bytes (heap_alloc_new W _))
    rw [G.ver_sig, G.pw41, ← hr, ← hs] at h
    refine h.mono ?_
    rintro e w' ⟨rfl, h⟩
    exact ⟨rfl, hb.trans (h.mono hb.size)⟩
  clear hr hs hx
  go_enter Tryd.func38, Tryd.ntmps38
  go_wp2_with fail
  refine (P1.out _).mono ?_
  rintro e w1 ⟨rfl, hb1⟩
  have HW := Lib.hid hb1
  clear hb1
  go_wp2_with (first
    | (go_at_call 40; (with_reducible refine (P2.out _).mono ?_); rintro e wc ⟨rfl, hb⟩; replace HW := step_below HW hb; clear hb)
    | (go_at_call 40; (with_reducible refine (P3.out _).mono ?_); rintro e wc ⟨rfl, hb⟩; replace HW := step_below HW hb; clear hb)
    | (go_at_call 42; (with_reducible refine (P4.out _).mono ?_); rintro e wc ⟨rfl, hb⟩; replace HW := step_below HW hb; clear hb))
  have HB0 : Hid (Below w.heap.size w (wc.alloc (.cells #[.int .i64 0, .int .i64 0] 52))) := Lib.hid (HW.out.alloc HW.out.size _)
  refine (P5.out (wc.alloc _) _ (by simp) HB0.out).mono ?_
  rintro e wd ⟨rfl, hb⟩
  have HB1 := step_below HB0 hb
  generalize wc.heap.size = g0
  clear hb HB0 HW
  go_wp2_with fail
  clear P1 P2 P3 P4
  have HS3 : Hid (Sig (wd.alloc (.cells #[.int .i64 r, .int .i64 s] 52)) wd.heap.size r s) := Lib.hid (Sig.new wd r s)
  have HB2 : Hid (Below w.heap.size w (wd.alloc (.cells #[.int .i64 r, .int .i64 s] 52))) := Lib.hid (HB1.out.alloc HB1.out.size _)
  refine (P5.out (wd.alloc _) _ (by simp) HB2.out).mono ?_
  rintro e we ⟨rfl, hb⟩
  have HS4 := sig_step HS3 hb
  have HB3 := step_below HB2 hb
  generalize wd.heap.size = g at HS4 ⊢
  clear hb HS3 HB1 HB2
  have HA : Below we.heap.size we (we.alloc (.cells #[.int .i64 r, .int .i64 s] 52)) := (Below.refl _ _).alloc (Nat.le_refl _) _
  have HT5 : Hid (Sig (we.alloc (.cells #[.int .i64 r, .int .i64 s] 52)) we.heap.size r s) := Lib.hid (Sig.new we r s)
  have HS5 := sig_step HS4 HA
  have HB5 := step_below HB3 HA
  go_wp2_with fail
  generalize we.alloc (.cells #[.int .i64 r, .int .i64 s] 52) = W3 at HS5 HT5 HB5 ⊢
  generalize we.heap.size = h at HT5 ⊢
  clear HA HS4 HB3 P5
  refine (P6.out _ HB5.out).mono ?_
  rintro e wf ⟨rfl, hb⟩
  have HS6 := sig_step HS5 hb
  have HT6 := sig_step HT5 hb
  have HB6 := step_below HB5 hb
  clear hb HS5 HT5 HB5 P6
  have k0 := HS6.out.c0; have k1 := HS6.out.c1; have k2 := HT6.out.c0; have k3 := HT6.out.c1
  go_wp2_with fail
  refine (P7.out _ HB6.out).mono ?_
  rintro e wg ⟨rfl, hb⟩
  have HS7 := sig_step HS6 hb
  have HT7 := sig_step HT6 hb
  have HB7 := step_below HB6 hb
  clear hb HS6 HT6 HB6 P7 k0 k1 k2 k3
  go_wp2_with fail
  refine (P8.out _ HB7.out).mono ?_
  rintro e wh ⟨rfl, hb⟩
  have HS8 := sig_step HS7 hb
  have HB8 := step_below HB7 hb
  clear hb HS7 HT7 HB7 P8
  have k0 := HS8.out.c0; have k1 := HS8.out.c1
  have HS9 := sig_step HS8 (show Below wh.heap.size wh (wh.alloc (.cells #[.int .u8 7] 5)) from (Below.refl _ _).alloc (Nat.le_refl _) _)
  have k4 := HS9.out.c0; have k5 := HS9.out.c1
  go_wp2_with fail
  refine (P9.out _ _ rfl HB8.out).mono ?_
  rintro e wi ⟨rfl, hb⟩
  have HB9 := step_below HB8 hb
  clear hb HS8 HS9 HB8 P9 k0 k1 k4 k5
  go_wp2_with fail
  go_ret
  exact ⟨rfl, HB9.out⟩

end Go.Proofs.YtogedlfpgoicfaaDoor
