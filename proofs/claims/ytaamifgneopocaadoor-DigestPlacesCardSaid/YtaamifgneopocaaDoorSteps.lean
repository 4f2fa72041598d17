/- Contract of the law's steps. -/
import Derived.Test.YtaamifgneopocaaDoorTrail
import Derived.Deep.CutRange
import Derived.Deep.CutBlock
import Derived.Deep.DeepCutAuto
namespace Go.Proofs.YtaamifgneopocaaDoor
open Go.RowKit

namespace H
theorem split_of {n j : Nat} (h2 : 2 ≤ n) (hn : n ≤ 1099511627776) (h3 : 2 ^ j < n) (h4 : n ≤ 2 * 2 ^ j) : split n = 2 ^ j := by
  obtain ⟨_, h5, h6⟩ := split_bounds h2 hn
  unfold split at h5 h6 ⊢
  obtain ⟨e, he⟩ : ∃ e, e = Lib.bitLen (n - 1) - 1 := ⟨_, rfl⟩
  rw [← he] at h5 h6 ⊢
  rcases Nat.lt_trichotomy e j with h | h | h
  · have := Nat.pow_le_pow_right (n := 2) (by decide) (show e + 1 ≤ j by omega)
    rw [Nat.pow_succ] at this
    omega
  · rw [h]
  · have := Nat.pow_le_pow_right (n := 2) (by decide) (show j + 1 ≤ e by omega)
    rw [Nat.pow_succ] at this
    omega
/-- How many steps, at the least fuel. -/
def stN (i n : Nat) : Nat := stp n i n
theorem stN_one (i : Nat) : stN i 1 = 0 := by simp [stN, stp]
theorem stN_left {i n : Nat} (h2 : 2 ≤ n) (hn : n ≤ 1099511627776) (hi : i < split n) : stN i n = stN i (split n) + 1 := by
  obtain ⟨_, h5, _⟩ := split_bounds h2 hn
  unfold stN
  obtain ⟨f, hf⟩ : ∃ f, f + 1 = n := ⟨n - 1, by omega⟩
  obtain ⟨k, hk⟩ : ∃ k, k = split n := ⟨_, rfl⟩
  rw [← hk] at hi h5 ⊢
  have : stp n i n = stp f i k + 1 := by
    rw [← hf, stp, if_neg (by omega), hf, ← hk, if_pos hi]
  rw [this, stp_eq f k i k (by omega) (Nat.le_refl _) (by omega) hi]
theorem stN_right {i n : Nat} (h2 : 2 ≤ n) (hn : n ≤ 1099511627776) (hi : ¬ i < split n) (hin : i < n) : stN i n = stN (i - split n) (n - split n) + 1 := by
  obtain ⟨_, h5, _⟩ := split_bounds h2 hn
  have hp := split_pos n
  unfold stN
  obtain ⟨f, hf⟩ : ∃ f, f + 1 = n := ⟨n - 1, by omega⟩
  obtain ⟨k, hk⟩ : ∃ k, k = split n := ⟨_, rfl⟩
  rw [← hk] at hi h5 hp ⊢
  have : stp n i n = stp f (i - k) (n - k) + 1 := by
    rw [← hf, stp, if_neg (by omega), hf, ← hk, if_neg hi]
  rw [this, stp_eq f (n - k) (i - k) (n - k) (by omega) (Nat.le_refl _) (by omega) (by omega)]
end H

set_option maxRecDepth 100000 in
set_option maxHeartbeats 2000000 in
theorem steps_any (i n : Nat) (w : World) (hi : i < n) (hn : n ≤ 1099511627776) :
    Calls Tryd.prog 24 #[.int .i64 i, .int .i64 n] w fun e w' => e = .returned (.int .i64 (H.stN i n : Nat)) ∧ w = w' := by
  obtain ⟨z, hz⟩ : ∃ z, z = H.stN i n := ⟨_, rfl⟩
  rw [← hz]
  have HZ := Lib.hid hz
  clear hz
  go_enter Tryd.func24, Tryd.ntmps24
  go_wp2
  go_loop [0, 1, 5] (fun aa nn cc => ∃ x m c : Nat, aa = .int .i64 x ∧ nn = .int .i64 m ∧ cc = .int .i64 c ∧ x < m ∧ c + m ≤ 1099511627776 ∧ Hid (z = c + H.stN x m)) (fun _ nn _ => (intOf nn).toNat)
  case atStart => exact ⟨i, n, 0, rfl, rfl, rfl, hi, by omega, Lib.hid (by rw [HZ.out, Nat.zero_add])⟩
  case round =>
    clear HZ
    obtain ⟨x, m, c, rfl, rfl, rfl, hx, hm, HZ⟩ := hrel
    by_cases h1 : 1 < m
    · have g0 : decide ((1 : Int) < (m : Int)) = true := by rw [decide_eq_true_iff]; omega
      go_upto_block 2 with fail
      go_cut [6] from 9 to 14 (fun a6 wx => w = wx ∧ ∃ k : Nat, a6 = .int .i64 k ∧ 1 ≤ k ∧ k < m ∧ Hid (k = H.split m))
      case first =>
        go_wp2_with fail
        go_loop [6] (fun a6 => ∃ j k : Nat, a6 = .int .i64 k ∧ 1 ≤ k ∧ k < m ∧ Hid (k = 2 ^ j)) (fun a6 => m - (intOf a6).toNat)
        case atStart => exact ⟨0, 1, rfl, Nat.le_refl _, h1, Lib.hid rfl⟩
        case round =>
          obtain ⟨j, k, rfl, hk1, hkm, HK⟩ := hrel
          by_cases h2 : 2 * k < m
          · go_wp2_with fail
            go_round
            case rel => exact ⟨j + 1, k * 2, by go_num, by omega, by omega, Lib.hid (by rw [Nat.pow_succ, ← HK.out])⟩
            case measure => simp [intOf]; omega
          · have g : decide (2 * (k : Int) < (m : Int)) = false := by rw [decide_eq_false_iff_not]; omega
            go_wp2_with fail
            go_meet
            exact ⟨rfl, k, rfl, hk1, hkm, Lib.hid (by rw [HK.out]; exact (H.split_of (by omega) (by omega) (by rw [← HK.out]; exact hkm) (by rw [← HK.out]; omega)).symm)⟩
      case rest =>
        obtain ⟨rfl, k, rfl, hk1, hkm, HK⟩ := hcut
        by_cases h2 : x < k
        · go_wp2_with fail
          go_round
          case rel => exact ⟨x, k, c + 1, rfl, rfl, by go_num, h2, by omega, Lib.hid (by rw [HZ.out, H.stN_left (by omega) (by omega) (by rw [← HK.out]; exact h2), ← HK.out]; omega)⟩
          case measure => simp [intOf]; omega
        · go_wp2_with fail
          go_round
          case rel => exact ⟨x - k, m - k, c + 1, by go_num, by go_num, by go_num, by omega, by omega, Lib.hid (by rw [HZ.out, H.stN_right (by omega) (by omega) (by rw [← HK.out]; exact h2) hx, ← HK.out]; omega)⟩
          case measure => simp [intOf]; omega
    · obtain rfl : m = 1 := by omega
      have hzc : z = c := by rw [HZ.out, H.stN_one, Nat.add_zero]
      subst hzc
      clear HZ
      go_wp2
      go_ret
      exact ⟨rfl, rfl⟩

end Go.Proofs.YtaamifgneopocaaDoor
