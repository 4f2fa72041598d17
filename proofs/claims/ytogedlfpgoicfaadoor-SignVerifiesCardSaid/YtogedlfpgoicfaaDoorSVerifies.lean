/- The law SignVerifies: the walk. -/
import Derived.Test.YtogedlfpgoicfaaDoorSSane
namespace Go.Proofs.YtogedlfpgoicfaaDoor
open Go.RowKit

set_option maxRecDepth 100000 in
set_option maxHeartbeats 4000000 in
theorem verifies_walk (pr : Int) (a : Option Addr) (n cap : Nat) (bs : List UInt8) (w : World) (hK : KT w) (_ : -9223372036854775808 ≤ pr) (_ : pr ≤ 9223372036854775807) (hn : bs.length = n) (_ : n ≤ cap) (hb : BytesAt w a bs) :
    Calls Tryd.prog 11 #[.int .i64 pr, .slice a n cap] w fun e w' => e = .returned (.bool true) ∧ Below w.heap.size w w' := by
  have HK := Lib.hid hK; have HB := Lib.hid hb; have HN := Lib.hid hn
  clear hK hb hn
  have HS := Lib.hid (ssane_any w HK.out)
  by_cases g1 : 1000 < n
  · have q1 : decide ((1000 : Int) < (n : Int)) = true := by rw [decide_eq_true_iff]; omega
    go_enter Tryd.func11, Tryd.ntmps11
    go_wp2_with fail
    refine HS.out.mono ?_
    rintro e w1 ⟨rfl, hb1⟩
    have HW := Lib.hid hb1
    clear hb1 HS
    go_wp2_with fail
    go_ret
    exact ⟨rfl, HW.out⟩
  have q1 : decide ((1000 : Int) < (n : Int)) = false := by rw [decide_eq_false_iff_not]; omega
  have HL := Lib.hid (show n ≤ 100000 by omega)
  clear g1
  go_enter Tryd.func11, Tryd.ntmps11
  go_wp2_with fail
  refine HS.out.mono ?_
  rintro e w1 ⟨rfl, hb1⟩
  have HW : Hid (Below w.heap.size w w1) := Lib.hid hb1
  clear hb1 HS
  go_wp2_with fail
  refine (key_any pr _).mono ?_
  rintro e w2 ⟨⟨x, hx1, hx2, rfl⟩, rfl⟩
  obtain ⟨p, hp⟩ : ∃ p, p = G.pw 4 x := ⟨_, rfl⟩
  obtain ⟨r, hr⟩ : ∃ r, r = G.sigR x bs := ⟨_, rfl⟩
  obtain ⟨s, hs⟩ : ∃ s, s = G.sigS x bs := ⟨_, rfl⟩
  have P1 : Hid (∀ W : World, Calls Tryd.prog 40 #[.int .i64 x] W fun e w' => e = .returned (.tuple #[.int .i64 p, .int .i64 0]) ∧ Below W.heap.size W w') := Lib.hid fun W => public_ok x p W hx1 hx2 (Lib.hid hp)
  have P2 : Hid (∀ W : World, Below w.heap.size w W → Calls Tryd.prog 42 #[.int .i64 x, .slice a n cap] W fun e w' => e = .returned (.tuple #[.agg #[.int .i64 r, .int .i64 s], .int .i64 0]) ∧ Below W.heap.size W w') := Lib.hid fun W hW => by
    rw [hr, hs]; exact sign_ok x a n cap bs W (HK.out.kept hW HK.out.pos) hx1 hx2 HN.out HL.out (HB.out.kept hW)
  have hre : G.El r := by rw [hr]; exact G.sigR_el _ _
  have hpe : G.El p := by rw [hp]; exact G.el4.pw _
  have hsl : s < 2305843009213688669 := by rw [hs]; exact G.sigS_lt _ _
  have P3 : Hid (∀ W : World, Calls Tryd.prog 48 #[.int .i64 p] W fun e w' => e = .returned (.int .i64 0) ∧ Below W.heap.size W w') := Lib.hid fun W => check_ok p W hpe
  have P4 : Hid (∀ W : World, Calls Tryd.prog 48 #[.int .i64 r] W fun e w' => e = .returned (.int .i64 0) ∧ Below W.heap.size W w') := Lib.hid fun W => check_ok r W hre
  have P5 : Hid (∀ W : World, Below w.heap.size w W → Calls Tryd.prog 46 #[.int .i64 p, .slice a n cap, .agg #[.int .i64 r, .int .i64 s]] W fun e w' => e = .returned (.bool true) ∧ Below W.heap.size W w') := Lib.hid fun W hW => by
    have h := verify_any p r s a n cap bs W (HK.out.kept hW HK.out.pos) HN.out HL.out (HB.out.kept hW)
    rw [hp, hr, hs, G.ver_sig] at h
    rw [hp, hr, hs]; exact h
  have q2 : decide ((0 : Int) ≤ (s : Int)) = true := by rw [decide_eq_true_iff]; omega
  have q3 : decide ((s : Int) < 2305843009213688669) = true := by rw [decide_eq_true_iff]; omega
  clear hp hr hs hre hpe hx1 hx2
  go_wp2_with fail
  refine (P1.out _).mono ?_
  rintro e w3 ⟨rfl, hb⟩
  replace HW := step_below HW hb
  clear hb
  go_wp2_with fail
  refine (P2.out _ HW.out).mono ?_
  rintro e w4 ⟨rfl, hb⟩
  replace HW := step_below HW hb
  clear hb
  have HG : Hid (Sig (w4.alloc (.cells #[.int .i64 r, .int .i64 s] 52)) w4.heap.size r s) := Lib.hid (Sig.new w4 r s)
  have HV : Hid (Below w.heap.size w (w4.alloc (.cells #[.int .i64 r, .int .i64 s] 52))) := Lib.hid (HW.out.alloc HW.out.size _)
  clear HW P1 P2
  have k0 := HG.out.c0; have k1 := HG.out.c1
  go_wp2_with (first
    | (go_at_call 48; (with_reducible refine (P3.out _).mono ?_); rintro e wc ⟨rfl, hb⟩; replace HG := sig_step HG hb; have k0 := HG.out.c0; have k1 := HG.out.c1; replace HV := step_below HV hb; clear hb)
    | (go_at_call 48; (with_reducible refine (P4.out _).mono ?_); rintro e wc ⟨rfl, hb⟩; replace HG := sig_step HG hb; have k0 := HG.out.c0; have k1 := HG.out.c1; replace HV := step_below HV hb; clear hb)
    | (go_at_call 46; (with_reducible refine (P5.out _ HV.out).mono ?_); rintro e wc ⟨rfl, hb⟩; replace HG := sig_step HG hb; have k0 := HG.out.c0; have k1 := HG.out.c1; replace HV := step_below HV hb; clear hb))
  go_ret
  exact ⟨rfl, HV.out⟩

end Go.Proofs.YtogedlfpgoicfaaDoor
