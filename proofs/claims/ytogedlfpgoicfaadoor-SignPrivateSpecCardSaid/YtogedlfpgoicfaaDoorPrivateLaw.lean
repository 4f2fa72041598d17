/- The law SignPrivateSpec: the walk. -/
import Derived.Test.YtogedlfpgoicfaaDoorRSign
namespace Go.Proofs.YtogedlfpgoicfaaDoor
open Go.RowKit

set_option maxRecDepth 100000 in
set_option maxHeartbeats 4000000 in
theorem private_walk (d : List UInt8) (tag : ByteArray) (x : Int) (w : World) (hK : KT w) (hd : d.length = 32) (_ : -9223372036854775808 ≤ x) (_ : x ≤ 9223372036854775807) :
    Calls Tryd.prog 9 #[.agg (byts d), .string tag, .int .i64 x] w fun e w' => e = .returned (.bool true) ∧ Below w.heap.size w w' := by
  have HK := Lib.hid hK; have HD := Lib.hid hd
  clear hK hd
  have HS : Hid (∀ W : World, Below w.heap.size w W → Calls Tryd.prog 38 #[] W fun e w' => e = .returned (.bool true) ∧ Below W.heap.size W w') := Lib.hid fun W hW => ssane_any W (HK.out.kept hW HK.out.pos)
  have HD0 : Hid (Dig (w.alloc (.cells (byts d) 26)) w.heap.size d) := Lib.hid (Dig.new w HD.out)
  have HW0 : Hid (Below w.heap.size w (w.alloc (.cells (byts d) 26))) := Lib.hid ((Below.refl _ _).alloc (Nat.le_refl _) _)
  by_cases g1 : 1000 < tag.size
  · have q1 : decide ((1000 : Int) < (tag.size : Int)) = true := by rw [decide_eq_true_iff]; omega
    go_enter Tryd.func9, Tryd.ntmps9
    go_wp2_with fail
    refine (HS.out _ HW0.out).mono ?_
    rintro e w1 ⟨rfl, hb1⟩
    have HW := step_below HW0 hb1
    clear hb1 HS
    go_wp2_with fail
    go_ret
    exact ⟨rfl, HW.out⟩
  have q1 : decide ((1000 : Int) < (tag.size : Int)) = false := by rw [decide_eq_false_iff_not]; omega
  obtain ⟨z, hz⟩ : ∃ z, z = G.scal G.tagPrivate (d ++ (G.num8 x ++ tag.data.toList)) := ⟨_, rfl⟩
  have hz1 : 1 ≤ z := by rw [hz]; exact G.scal_pos _ _
  have hz2 : z < 2305843009213688669 := by rw [hz]; exact G.scal_lt _ _
  have P1 : Hid (∀ W : World, Below w.heap.size w W → Calls Tryd.prog 44 #[.agg (byts d), .string tag, .int .i64 x] W fun e w' => e = .returned (.int .i64 z) ∧ Below W.heap.size W w') := Lib.hid fun W hW => by
    rw [hz]; exact private_any d tag x W (HK.out.kept hW HK.out.pos) HD.out (by omega)
  have P2 : Hid (∀ W : World, Calls Tryd.prog 45 #[.agg (byts d), .string tag, .int .i64 x] W fun e w' => e = .returned (.int .i64 z) ∧ Below W.heap.size W w') := Lib.hid fun W => by
    rw [hz]; exact rprivate_any d tag x W HD.out (by omega)
  have P3 : Hid (∀ W : World, Calls Tryd.prog 40 #[.int .i64 z] W fun e w' => e = .returned (.tuple #[.int .i64 (G.pw 4 z : Nat), .int .i64 0]) ∧ Below W.heap.size W w') := Lib.hid fun W => public_ok z _ W hz1 hz2 (Lib.hid rfl)
  generalize G.pw 4 z = p at P3
  clear hz hz1 hz2 g1
  go_enter Tryd.func9, Tryd.ntmps9
  go_wp2_with fail
  refine (HS.out _ HW0.out).mono ?_
  rintro e w1 ⟨rfl, hb1⟩
  have HW := step_below HW0 hb1
  have HD1 : Hid (Dig w1 w.heap.size d) := Lib.hid (HD0.out.kept hb1 HD0.out.lt)
  clear hb1 HS HD0 HW0
  go_upto_region 5 with (fail)
  refine wp_region_list ?_
  refine wpl_get rfl _ rfl w.heap.size d rfl HD1.out ?_
  go_upto_region 7 with (first
    | (go_at_call 44; (with_reducible refine (P1.out _ HW.out).mono ?_); rintro e wc ⟨rfl, hb⟩; replace HW := step_below HW hb; have HD2 : Hid (Dig wc w.heap.size d) := Lib.hid (HD1.out.kept hb HD1.out.lt); clear hb)
    | (go_at_call 40; (with_reducible refine (P3.out _).mono ?_); rintro e wc ⟨rfl, hb⟩; replace HW := step_below HW hb; have HD3 : Hid (Dig wc w.heap.size d) := Lib.hid (HD2.out.kept hb HD2.out.lt); clear hb))
  refine wp_region_list ?_
  go_step
  go_step
  refine wpl_get rfl _ rfl w.heap.size d rfl HD3.out ?_
  go_wp2_with (go_at_call 45; (with_reducible refine (P2.out _).mono ?_); rintro e wc ⟨rfl, hb⟩; replace HW := step_below HW hb; clear hb)
  go_ret
  exact ⟨rfl, HW.out⟩

end Go.Proofs.YtogedlfpgoicfaaDoor
