/- Contract of the reference's half. -/
import Derived.Test.YthamligdmfhmeaaDoorSplit
namespace Go.Proofs.YthamligdmfhmeaaDoor
open Go.RowKit

namespace H
theorem two_pow_unique {i j n : Nat} (h1 : 2 ^ i < n) (h2 : n ≤ 2 * 2 ^ i) (h3 : 2 ^ j < n) (h4 : n ≤ 2 * 2 ^ j) : 2 ^ i = 2 ^ j := by
  rcases Nat.lt_trichotomy i j with h | h | h
  · have := Nat.pow_le_pow_right (n := 2) (by decide) (show i + 1 ≤ j from h)
    rw [Nat.pow_succ] at this; omega
  · rw [h]
  · have := Nat.pow_le_pow_right (n := 2) (by decide) (show j + 1 ≤ i from h)
    rw [Nat.pow_succ] at this; omega
/-- A power of two below n, at least half of it, is where a list of n elements is cut. -/
theorem split_unique {n j : Nat} (h2 : 2 ≤ n) (hn : n ≤ 1099511627776) (h1 : 2 ^ j < n) (h3 : n ≤ 2 * 2 ^ j) : split n = 2 ^ j := by
  obtain ⟨_, b1, b2⟩ := split_bounds h2 hn
  have e : split n = 2 ^ (Lib.bitLen (n - 1) - 1) := rfl
  rw [e] at b1 b2 ⊢
  exact two_pow_unique (n := n) (by omega) (by omega) h1 h3
end H

set_option maxRecDepth 100000 in
set_option maxHeartbeats 1000000 in
theorem rhalf_any (n : Nat) (w : World) (h2 : 2 ≤ n) (hn : n ≤ 1099511627776) :
    Calls Tryd.prog 23 #[.int .i64 n] w fun e w' => e = .returned (.int .i64 (H.split n : Nat)) ∧ w = w' := by
  go_enter Tryd.func23, Tryd.ntmps23
  go_wp2
  go_loop [3] (fun kk => ∃ k j : Nat, kk = .int .i64 k ∧ k < n ∧ Hid (k = 2 ^ j)) (fun kk => n - (intOf kk).toNat)
  case atStart => exact ⟨1, 0, rfl, by omega, Lib.hid rfl⟩
  case round =>
    obtain ⟨k, j, rfl, hk, HP⟩ := hrel
    have hk0 : 0 < k := by rw [HP.out]; exact Nat.two_pow_pos _
    obtain ⟨u, hu⟩ : ∃ u, u = 2 * k := ⟨_, rfl⟩
    have e1 : 2 * (k : Int) = (u : Int) := by omega
    have hul : u < 4398046511104 := by omega
    have v1 : IntKind.i64.wrap (u : Int) = (u : Int) := by rw [IntKind.wrap_i64]; omega
    by_cases hlt : u < n
    · have q1 : decide ((u : Int) < (n : Int)) = true := by rw [decide_eq_true_iff]; omega
      have HN : Hid (u = 2 ^ (j + 1)) := Lib.hid (by rw [hu, HP.out, Nat.pow_succ, Nat.mul_comm])
      have HU := Lib.hid hu
      clear hu
      go_wp2_with fail
      go_round
      case rel => exact ⟨u, j + 1, rfl, hlt, HN⟩
      case measure => have := HU.out; simp [intOf]; omega
    · have q1 : decide ((u : Int) < (n : Int)) = false := by rw [decide_eq_false_iff_not]; omega
      have hs : H.split n = k := by
        rw [HP.out]
        exact H.split_unique h2 hn (by rw [← HP.out]; exact hk) (by rw [← HP.out]; omega)
      have HSK := Lib.hid hs
      clear hs hu
      go_wp2_with fail
      go_ret
      rw [HSK.out]
      exact ⟨rfl, rfl⟩

end Go.Proofs.YthamligdmfhmeaaDoor
