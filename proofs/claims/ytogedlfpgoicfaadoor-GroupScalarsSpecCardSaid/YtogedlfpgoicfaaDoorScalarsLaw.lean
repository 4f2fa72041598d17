/- The law GroupScalarsSpec: the walk. -/
import Derived.Test.YtogedlfpgoicfaaDoorRScal
import Derived.Test.YtogedlfpgoicfaaDoorGSane
namespace Go.Proofs.YtogedlfpgoicfaaDoor
open Go.RowKit

set_option maxRecDepth 100000 in
set_option maxHeartbeats 4000000 in
theorem scalars_walk (x y : Int) (tag : ByteArray) (a : Option Addr) (n cap : Nat) (bs : List UInt8) (w : World) (hK : KT w) (_ : -9223372036854775808 ≤ x) (_ : x ≤ 9223372036854775807) (_ : -9223372036854775808 ≤ y) (_ : y ≤ 9223372036854775807) (hn : bs.length = n) (_ : n ≤ cap) (hb : BytesAt w a bs) :
    Calls Tryd.prog 7 #[.int .i64 x, .int .i64 y, .string tag, .slice a n cap] w fun e w' => e = .returned (.bool true) ∧ Below w.heap.size w w' := by
  have HK := Lib.hid hK; have HB := Lib.hid hb; have HN := Lib.hid hn
  clear hK hb hn
  have HS := Lib.hid (gsane_any w)
  by_cases g1 : 300 < tag.size
  · have q1 : decide ((300 : Int) < (tag.size : Int)) = true := by rw [decide_eq_true_iff]; omega
    go_enter Tryd.func7, Tryd.ntmps7
    go_wp2_with fail
    refine HS.out.mono ?_
    rintro e w1 ⟨rfl, hb1⟩
    have HW := Lib.hid hb1
    clear hb1 HS
    go_wp2_with fail
    go_ret
    exact ⟨rfl, HW.out⟩
  have q1 : decide ((300 : Int) < (tag.size : Int)) = false := by rw [decide_eq_false_iff_not]; omega
  by_cases g2 : 1000 < n
  · have q2 : decide ((1000 : Int) < (n : Int)) = true := by rw [decide_eq_true_iff]; omega
    go_enter Tryd.func7, Tryd.ntmps7
    go_wp2_with fail
    refine HS.out.mono ?_
    rintro e w1 ⟨rfl, hb1⟩
    have HW := Lib.hid hb1
    clear hb1 HS
    go_wp2_with fail
    go_ret
    exact ⟨rfl, HW.out⟩
  have q2 : decide ((1000 : Int) < (n : Int)) = false := by rw [decide_eq_false_iff_not]; omega
  obtain ⟨c, e, hS1, hS2⟩ := rsum_gen x y
  obtain ⟨u, g, hP1, hP2⟩ := rprod_gen x y
  have S1 := Lib.hid hS1; have S2 := Lib.hid hS2; have P1 := Lib.hid hP1; have P2 := Lib.hid hP2
  have hlt := G.scal_lt tag.data.toList bs
  obtain ⟨z, hz⟩ : ∃ z, z = G.scal tag.data.toList bs := ⟨_, rfl⟩
  have C1 : Hid (∀ W : World, Below w.heap.size w W → Calls Tryd.prog 36 #[.string tag, .slice a n cap] W fun e w' => e = .returned (.int .i64 z) ∧ Below W.heap.size W w') := Lib.hid fun W hW =>
    scalar_any tag a n cap z bs W (HK.out.kept hW HK.out.pos) (by omega) HN.out (by omega) (HB.out.kept hW) (Lib.hid hz)
  have C2 : Hid (∀ W : World, Below w.heap.size w W → Calls Tryd.prog 37 #[.string tag, .slice a n cap] W fun e w' => e = .returned (.int .i64 z) ∧ Below W.heap.size W w') := Lib.hid fun W hW => by
    rw [hz]; exact rscalar_any tag a n cap bs W (by omega) HN.out (by omega) (HB.out.kept hW)
  clear hS1 hS2 hP1 hP2 hz hlt g1 g2
  go_enter Tryd.func7, Tryd.ntmps7
  go_wp2_with fail
  refine HS.out.mono ?_
  rintro e' w1 ⟨rfl, hb1⟩
  have HW := Lib.hid hb1
  clear hb1 HS
  go_wp2_with (first
    | (go_at_call 32; (with_reducible refine (S2.out _).mono ?_); rintro e wc ⟨rfl, hb⟩; replace HW := below_step HW hb; clear hb)
    | (go_at_call 33; (with_reducible refine (S1.out _).mono ?_); rintro e wc ⟨rfl, rfl⟩)
    | (go_at_call 34; (with_reducible refine (P2.out _).mono ?_); rintro e wc ⟨rfl, hb⟩; replace HW := below_step HW hb; clear hb)
    | (go_at_call 35; (with_reducible refine (P1.out _).mono ?_); rintro e wc ⟨rfl, rfl⟩)
    | (go_at_call 36; (with_reducible refine (C1.out _ HW.out).mono ?_); rintro e wc ⟨rfl, hb⟩; replace HW := below_step HW hb; clear hb)
    | (go_at_call 37; (with_reducible refine (C2.out _ HW.out).mono ?_); rintro e wc ⟨rfl, hb⟩; replace HW := below_step HW hb; clear hb))
  go_ret
  exact ⟨by simp, HW.out⟩

end Go.Proofs.YtogedlfpgoicfaaDoor
