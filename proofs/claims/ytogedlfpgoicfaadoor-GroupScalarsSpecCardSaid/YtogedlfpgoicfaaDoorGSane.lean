/- The laws' examples hold. -/
import Derived.Test.YtogedlfpgoicfaaDoorGRef
namespace Go.Proofs.YtogedlfpgoicfaaDoor
open Go.RowKit

namespace G
theorem el1 : El 1 := ⟨by decide, by decide, by
  rw [← pm_eq 4611686018427377339 64 1 2305843009213688669 (by decide)]
  decide +kernel⟩
theorem el16 : El 16 := ⟨by decide, by decide, by
  rw [← pm_eq 4611686018427377339 64 16 2305843009213688669 (by decide)]
  decide +kernel⟩
theorem no2 : el 2 = false := by
  have h : ¬ El 2 := fun h => by
    have := h.2.2
    rw [← pm_eq 4611686018427377339 64 2 2305843009213688669 (by decide)] at this
    exact absurd this (by decide +kernel)
  rw [← Bool.not_eq_true]
  exact fun e => h (el_iff.1 e)
theorem noP1 : el 4611686018427377338 = false := by
  have h : ¬ El 4611686018427377338 := fun h => by
    have := h.2.2
    rw [← pm_eq 4611686018427377339 64 4611686018427377338 2305843009213688669 (by decide)] at this
    exact absurd this (by decide +kernel)
  rw [← Bool.not_eq_true]
  exact fun e => h (el_iff.1 e)
theorem no_out {a : Int} (h : a < 1 ∨ 4611686018427377339 ≤ a) : el a = false := by
  unfold el
  have : decide (1 ≤ a ∧ a < 4611686018427377339) = false := by rw [decide_eq_false_iff_not]; omega
  rw [this, Bool.false_and]
theorem inv4 : 1152921504606844335 = 4 ^ 2305843009213688668 % 4611686018427377339 := by
  rw [← pm_eq 4611686018427377339 64 4 2305843009213688668 (by decide)]
  decide +kernel
/-- The numbers that are no elements, one after the other. -/
def nos : List Int := [0, 4611686018427377339, 4611686018427377338, 2, -4]
theorem nos_el : ∀ j (h : j < nos.length), el nos[j] = false := by
  intro j h
  have hj : j = 0 ∨ j = 1 ∨ j = 2 ∨ j = 3 ∨ j = 4 := by simp [nos] at h; omega
  rcases hj with rfl | rfl | rfl | rfl | rfl
  · exact no_out (a := 0) (.inl (by decide))
  · exact no_out (a := 4611686018427377339) (.inr (by decide))
  · exact noP1
  · exact no2
  · exact no_out (a := -4) (.inl (by decide))
end G

set_option maxHeartbeats 400000 in
theorem is_yes (x : Int) (w : World) :
    Calls Tryd.prog 75 #[.int .i64 x, .int .i64 0, .int .i64 x] w fun e w' => e = .returned (.bool true) ∧ w = w' := by
  go_enter Tryd.func75, Tryd.ntmps75
  go_wp2
  go_ret
  exact ⟨by simp, rfl⟩

theorem below_step {a b c : World} (h : Hid (Below a.heap.size a b)) (k : Below b.heap.size b c) : Hid (Below a.heap.size a c) := Lib.hid (h.out.trans (k.mono h.out.size))

set_option maxRecDepth 100000 in
set_option maxHeartbeats 4000000 in
theorem gsane_any (w : World) :
    Calls Tryd.prog 31 #[] w fun e w' => e = .returned (.bool true) ∧ Below w.heap.size w w' := by
  have H1 : Hid (∀ W : World, Calls Tryd.prog 52 #[.int .i64 4, .int .i64 4] W fun e w' => e = .returned (.tuple #[.int .i64 16, .int .i64 0]) ∧ Below W.heap.size W w') := Lib.hid fun W => mul_ok 4 4 16 W G.el4 G.el4 (Lib.hid (by decide))
  have H2 : Hid (∀ W : World, Calls Tryd.prog 49 #[.int .i64 3] W fun e w' => e = .returned (.tuple #[.int .i64 64, .int .i64 0]) ∧ Below W.heap.size W w') := Lib.hid fun W => base_ok 3 64 W (by decide) (Lib.hid (by decide))
  have H3 : Hid (∀ W : World, Calls Tryd.prog 50 #[.int .i64 4, .int .i64 (-1)] W fun e w' => e = .returned (.tuple #[.int .i64 0, .int .i64 1]) ∧ Below W.heap.size W w') := Lib.hid fun W => exp_no 4 (-1) W G.el4 (by decide)
  have H4 : Hid (∀ W : World, Calls Tryd.prog 50 #[.int .i64 4, .int .i64 2305843009213688669] W fun e w' => e = .returned (.tuple #[.int .i64 0, .int .i64 1]) ∧ Below W.heap.size W w') := Lib.hid fun W => exp_no 4 2305843009213688669 W G.el4 (by decide)
  have H5 : Hid (∀ W : World, Calls Tryd.prog 54 #[.int .i64 4] W fun e w' => e = .returned (.tuple #[.int .i64 1152921504606844335, .int .i64 0]) ∧ Below W.heap.size W w') := Lib.hid fun W => inv_ok 4 1152921504606844335 W G.el4 (Lib.hid G.inv4)
  have H6 : Hid (∀ W : World, Calls Tryd.prog 32 #[.int .i64 2305843009213688668, .int .i64 2] W fun e w' => e = .returned (.tuple #[.int .i64 1, .int .i64 0]) ∧ Below W.heap.size W w') := Lib.hid fun W => sum_ok 2305843009213688668 2 1 W (by decide) (by decide) (Lib.hid (by decide))
  have H7 : Hid (∀ W : World, Calls Tryd.prog 34 #[.int .i64 2305843009213688668, .int .i64 2305843009213688668] W fun e w' => e = .returned (.tuple #[.int .i64 1, .int .i64 0]) ∧ Below W.heap.size W w') := Lib.hid fun W => prod_ok 2305843009213688668 2305843009213688668 1 W (by decide) (by decide) (Lib.hid (by decide))
  have H8 : Hid (∀ W : World, Calls Tryd.prog 32 #[.int .i64 2305843009213688669, .int .i64 0] W fun e w' => e = .returned (.tuple #[.int .i64 0, .int .i64 1]) ∧ Below W.heap.size W w') := Lib.hid fun W => sum_no 2305843009213688669 0 W (Lib.hid (by decide))
  have C1 : Hid (∀ W : World, Calls Tryd.prog 48 #[.int .i64 1] W fun e w' => e = .returned (.int .i64 0) ∧ Below W.heap.size W w') := Lib.hid fun W => check_ok 1 W G.el1
  have C4 : Hid (∀ W : World, Calls Tryd.prog 48 #[.int .i64 4] W fun e w' => e = .returned (.int .i64 0) ∧ Below W.heap.size W w') := Lib.hid fun W => check_ok 4 W G.el4
  have C16 : Hid (∀ W : World, Calls Tryd.prog 48 #[.int .i64 16] W fun e w' => e = .returned (.int .i64 0) ∧ Below W.heap.size W w') := Lib.hid fun W => check_ok 16 W G.el16
  have HB : Hid (Below w.heap.size w w) := Lib.hid (Below.refl _ _)
  go_enter Tryd.func31, Tryd.ntmps31
  go_wp2_with fail
  refine (H1.out _).mono ?_; rintro e w1 ⟨rfl, hb⟩; replace HB := below_step HB hb; clear hb
  go_wp2_with fail
  refine (H2.out _).mono ?_; rintro e w2 ⟨rfl, hb⟩; replace HB := below_step HB hb; clear hb
  go_wp2_with fail
  refine (H3.out _).mono ?_; rintro e w3 ⟨rfl, hb⟩; replace HB := below_step HB hb; clear hb
  go_wp2_with fail
  refine (H4.out _).mono ?_; rintro e w4 ⟨rfl, hb⟩; replace HB := below_step HB hb; clear hb
  go_wp2_with fail
  refine (H5.out _).mono ?_; rintro e w5 ⟨rfl, hb⟩; replace HB := below_step HB hb; clear hb
  go_wp2_with fail
  refine (H6.out _).mono ?_; rintro e w6 ⟨rfl, hb⟩; replace HB := below_step HB hb; clear hb
  go_wp2_with fail
  refine (H7.out _).mono ?_; rintro e w7 ⟨rfl, hb⟩; replace HB := below_step HB hb; clear hb
  go_wp2_with fail
  refine (H8.out _).mono ?_; rintro e w8 ⟨rfl, hb⟩; replace HB := below_step HB hb; clear hb
  clear H1 H2 H3 H4 H5 H6 H7 H8
  go_wp2_with fail
  have HW : Hid (Below w.heap.size w (w8.alloc (.cells #[.int .i64 0, .int .i64 4611686018427377339, .int .i64 4611686018427377338, .int .i64 2, .int .i64 (-4)] 3)) ∧
      w8.heap.size < (w8.alloc (.cells #[.int .i64 0, .int .i64 4611686018427377339, .int .i64 4611686018427377338, .int .i64 2, .int .i64 (-4)] 3)).heap.size ∧
      ∀ j (h : j < G.nos.length), (w8.alloc (.cells #[.int .i64 0, .int .i64 4611686018427377339, .int .i64 4611686018427377338, .int .i64 2, .int .i64 (-4)] 3)).cell? ⟨w8.heap.size, j, none⟩ = some (.int .i64 G.nos[j])) := Lib.hid (by
    refine ⟨HB.out.alloc HB.out.size _, by simp, ?_⟩
    intro j h
    have hj : j = 0 ∨ j = 1 ∨ j = 2 ∨ j = 3 ∨ j = 4 := by simp [G.nos] at h; omega
    rcases hj with rfl | rfl | rfl | rfl | rfl <;> simp [World.cell?_alloc_new, G.nos])
  clear HB
  generalize w8.alloc (.cells #[.int .i64 0, .int .i64 4611686018427377339, .int .i64 4611686018427377338, .int .i64 2, .int .i64 (-4)] 3) = W8 at HW ⊢
  generalize w8.heap.size = g at HW ⊢
  go_loopw [53] (fun ii wr => ∃ k : Nat, k ≤ 5 ∧ ii = .int .i64 k ∧ Hid (Below W8.heap.size W8 wr)) (fun ii _ => 5 - (intOf ii).toNat)
  case atStart => exact ⟨0, Nat.zero_le _, rfl, Lib.hid (Below.refl _ _)⟩
  case round =>
    obtain ⟨k, hk, rfl, HR⟩ := hrel
    by_cases hlt : k < 5
    · have hkl : k < G.nos.length := hlt
      have hcx := (HR.out.cell (p := ⟨g, k, none⟩) HW.out.2.1).trans (HW.out.2.2 k hkl)
      have hel := G.nos_el k hkl
      obtain ⟨x, hx⟩ : ∃ x, x = G.nos[k] := ⟨_, rfl⟩
      rw [← hx] at hcx hel
      have CN : Hid (∀ W : World, Calls Tryd.prog 48 #[.int .i64 x] W fun e w' => e = .returned (.int .i64 30) ∧ Below W.heap.size W w') := Lib.hid fun W => check_no x W hel
      clear hel hx hkl
      go_wp2_with (go_at_call 48; (with_reducible refine (CN.out _).mono ?_); rintro e wc ⟨rfl, hb⟩; replace HR := below_step HR hb; clear hb)
      go_roundw
      case rel => exact ⟨k + 1, by omega, by go_num, HR⟩
      case measure => simp [intOf]; omega
    · obtain rfl : k = 5 := by omega
      have HB : Hid (Below w.heap.size w wr) := Lib.hid (HW.out.1.trans (HR.out.mono HW.out.1.size))
      clear HW HR hlt hk
      go_wp2_with (first
        | (go_at_call 75; (with_reducible refine (is_yes _ _).mono ?_); rintro e w' ⟨rfl, rfl⟩)
        | (go_at_call_of 48 (Value.int .i64 1); (with_reducible refine (C1.out _).mono ?_); rintro e wc ⟨rfl, hb⟩; replace HB := below_step HB hb; clear hb)
        | (go_at_call_of 48 (Value.int .i64 4); (with_reducible refine (C4.out _).mono ?_); rintro e wc ⟨rfl, hb⟩; replace HB := below_step HB hb; clear hb)
        | (go_at_call_of 48 (Value.int .i64 16); (with_reducible refine (C16.out _).mono ?_); rintro e wc ⟨rfl, hb⟩; replace HB := below_step HB hb; clear hb))
      go_ret
      exact ⟨rfl, HB.out⟩

end Go.Proofs.YtogedlfpgoicfaaDoor
