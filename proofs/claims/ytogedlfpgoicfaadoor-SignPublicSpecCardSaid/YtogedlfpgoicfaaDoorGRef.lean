/- Contracts of the reference's functions, and of the laws' own. -/
import Derived.Test.YtogedlfpgoicfaaDoorGOps
namespace Go.Proofs.YtogedlfpgoicfaaDoor
open Go.RowKit

set_option maxRecDepth 100000 in
set_option maxHeartbeats 1000000 in
theorem rsum_any (a b m z : Nat) (w : World) (ha : a < m) (hb : b < m) (hm : m < 4611686018427387904) (HZ : Hid (z = (a + b) % m)) :
    Calls Tryd.prog 78 #[.int .i64 a, .int .i64 b, .int .i64 m] w fun e w' => e = .returned (.int .i64 z) ∧ w = w' := by
  obtain ⟨s, hs⟩ : ∃ s, s = a + b := ⟨_, rfl⟩
  have e1 : (a : Int) + (b : Int) = (s : Int) := by omega
  have hsl : s < 9223372036854775807 := by omega
  by_cases h : m ≤ s
  · have hz : z = s - m := by
      rw [HZ.out, ← hs]
      rw [Nat.mod_eq_sub_mod h, Nat.mod_eq_of_lt (by omega)]
    have e2 : (s : Int) - (m : Int) = (z : Int) := by omega
    have HH := Lib.hid hz
    clear hs hz
    go_enter Tryd.func78, Tryd.ntmps78
    go_wp2
    go_ret
    exact ⟨rfl, rfl⟩
  · have hz : z = s := by rw [HZ.out, ← hs, Nat.mod_eq_of_lt (by omega)]
    subst hz
    clear hs
    go_enter Tryd.func78, Tryd.ntmps78
    go_wp2
    go_ret
    exact ⟨rfl, rfl⟩

set_option maxRecDepth 100000 in
set_option maxHeartbeats 1000000 in
theorem modular_any (a b m z : Nat) (w : World) (ha : a < m) (hb : b < 4611686018427387904) (hm : m < 4611686018427387904) (HZ : Hid (z = a * b % m)) :
    Calls Tryd.prog 80 #[.int .i64 a, .int .i64 b, .int .i64 m] w fun e w' => e = .returned (.int .i64 z) ∧ w = w' := by
  have hm0 : 0 < m := by omega
  go_enter Tryd.func80, Tryd.ntmps80
  go_wp2
  go_loop [0, 1, 7] (fun aa bb cc => ∃ c x y : Nat, aa = .int .i64 x ∧ bb = .int .i64 y ∧ cc = .int .i64 c ∧ x < m ∧ c < m ∧ y < 4611686018427387904 ∧ Hid (z = (c + x * y) % m)) (fun _ bb _ => (intOf bb).toNat)
  case atStart => exact ⟨0, a, b, rfl, rfl, rfl, ha, hm0, hb, Lib.hid (by rw [Nat.zero_add]; exact HZ.out)⟩
  case round =>
    clear HZ
    obtain ⟨c, x, y, rfl, rfl, rfl, hx, hc, hy, HZ⟩ := hrel
    by_cases h0 : 0 < y
    · obtain ⟨x2, hx2⟩ : ∃ x2, x2 = (x + x) % m := ⟨_, rfl⟩
      obtain ⟨c2, hc2⟩ : ∃ c2, c2 = (c + x) % m := ⟨_, rfl⟩
      have HS1 : Hid (∀ W : World, Calls Tryd.prog 78 #[.int .i64 c, .int .i64 x, .int .i64 m] W fun e w' => e = .returned (.int .i64 c2) ∧ W = w') := Lib.hid fun W => rsum_any c x m c2 W hc hx hm (Lib.hid hc2)
      have HS2 : Hid (∀ W : World, Calls Tryd.prog 78 #[.int .i64 x, .int .i64 x, .int .i64 m] W fun e w' => e = .returned (.int .i64 x2) ∧ W = w') := Lib.hid fun W => rsum_any x x m x2 W hx hx hm (Lib.hid hx2)
      have hx2l : x2 < m := by rw [hx2]; exact Nat.mod_lt _ hm0
      have hc2l : c2 < m := by rw [hc2]; exact Nat.mod_lt _ hm0
      have key : ∀ c' : Nat, (c' + x2 * (y / 2)) % m = (c' + x * (2 * (y / 2))) % m := by
        intro c'
        rw [Nat.add_mod, hx2, Nat.mod_mul_mod, ← Nat.add_mod]
        congr 2
        rw [← Nat.mul_assoc, Nat.mul_comm x 2, Nat.two_mul]
      rcases Nat.mod_two_eq_zero_or_one y with h1 | h1
      · have HN := Lib.hid (show z = (c + x2 * (y / 2)) % m by rw [key, HZ.out]; congr 3; omega)
        have g : ((y : Int) % 2 == 1) = false := by simp; omega
        clear hx2 hc2 key h1
        go_wp2_with (go_at_call 78; (with_reducible refine (HS2.out _).mono ?_); rintro e w' ⟨rfl, rfl⟩)
        go_round
        case rel => exact ⟨c, x2, y / 2, rfl, by go_num, rfl, hx2l, hc, by omega, HN⟩
        case measure => simp [intOf]; omega
      · have HN := Lib.hid (show z = (c2 + x2 * (y / 2)) % m by
          rw [key, HZ.out, hc2, Nat.mod_add_mod]
          congr 1
          have : x * y = x + x * (2 * (y / 2)) := by
            rw [show x * y = x * (1 + 2 * (y / 2)) by congr 1; omega, Nat.mul_add, Nat.mul_one]
          omega)
        have g : ((y : Int) % 2 == 1) = true := by simp; omega
        clear hx2 hc2 key h1
        go_wp2_with (first
          | (go_at_call_of 78 (Value.int .i64 (c : Int)); (with_reducible refine (HS1.out _).mono ?_); rintro e w' ⟨rfl, rfl⟩)
          | (go_at_call 78; (with_reducible refine (HS2.out _).mono ?_); rintro e w' ⟨rfl, rfl⟩))
        go_round
        case rel => exact ⟨c2, x2, y / 2, rfl, by go_num, rfl, hx2l, hc2l, by omega, HN⟩
        case measure => simp [intOf]; omega
    · obtain rfl : y = 0 := by omega
      have hzc : z = c := by rw [HZ.out, Nat.mul_zero, Nat.add_zero, Nat.mod_eq_of_lt hc]
      subst hzc
      clear HZ
      go_wp2
      go_ret
      exact ⟨rfl, rfl⟩

end Go.Proofs.YtogedlfpgoicfaaDoor
