/- Contract of the reference's length. -/
import Derived.Test.YthamligdmfhmeaaDoorTrail
import Derived.Test.YthamligdmfhmeaaDoorRHalf
namespace Go.Proofs.YthamligdmfhmeaaDoor
open Go.RowKit

namespace H
theorem stp_le : ∀ f i n, stp f i n ≤ f
  | 0, _, _ => Nat.le_refl _
  | f + 1, i, n => by
    have h1 := stp_le f i (split n)
    have h2 := stp_le f (i - split n) (n - split n)
    unfold stp
    split
    · omega
    · split <;> omega
end H

set_option maxRecDepth 100000 in
set_option maxHeartbeats 1000000 in
theorem rlength_all : ∀ (m i n : Nat) (w : World), n ≤ m → m ≤ 1099511627776 → 1 ≤ n → i < n →
    Calls Tryd.prog 28 #[.int .i64 i, .int .i64 n] w fun e w' => e = .returned (.int .i64 (H.stp m i n : Nat)) ∧ w = w'
  | 0, i, n, w, h1, _, h3, _ => by omega
  | m + 1, i, n, w, h1, h2, h3, h4 => by
    by_cases hn : n = 1
    · have q1 : ((n : Int) == 1) = true := by rw [hn]; rfl
      have HS : Hid (H.stp (m + 1) i n = 0) := Lib.hid (by rw [H.stp, if_pos (by omega)])
      clear h1 h2 h3 h4 hn
      go_enter Tryd.func28, Tryd.ntmps28
      go_wp2_with fail
      go_ret
      rw [HS.out]
      exact ⟨rfl, rfl⟩
    · have q1 : ((n : Int) == 1) = false := by simp; omega
      have HK := Lib.hid (rhalf_any n w (by omega) (by omega))
      obtain ⟨_, b1, b2⟩ := H.split_bounds (n := n) (by omega) (by omega)
      have b3 := H.split_pos n
      obtain ⟨k, hk⟩ : ∃ k, k = H.split n := ⟨_, rfl⟩
      rw [← hk] at HK b1 b2 b3
      by_cases hi : i < k
      · have q2 : decide (i < k) = true := decide_eq_true hi
        have HS : Hid (H.stp (m + 1) i n = H.stp m i k + 1) := Lib.hid (by rw [H.stp, if_neg (by omega), ← hk, if_pos hi])
        have HL := Lib.hid (rlength_all m i k w (by omega) (by omega) (by omega) hi)
        have hle := H.stp_le m i k
        obtain ⟨u, hu⟩ : ∃ u, u = H.stp m i k := ⟨_, rfl⟩
        rw [← hu] at HS HL hle
        have v1 : IntKind.i64.wrap (1 + (u : Int)) = ((u + 1 : Nat) : Int) := by rw [IntKind.wrap_i64]; omega
        clear hk hu hn h1 h3 h4 b1 b2 b3
        go_enter Tryd.func28, Tryd.ntmps28
        go_wp2_with (first
          | (go_at_call 23; (with_reducible refine HK.out.mono ?_); rintro e w' ⟨rfl, rfl⟩)
          | (go_at_call 28; (with_reducible refine HL.out.mono ?_); rintro e w' ⟨rfl, rfl⟩))
        go_ret
        rw [HS.out]
        exact ⟨by first | rfl | simp [v1] | (rw [v1]) | (congr 2; omega), rfl⟩
      · have q2 : decide (i < k) = false := decide_eq_false hi
        have HS : Hid (H.stp (m + 1) i n = H.stp m (i - k) (n - k) + 1) := Lib.hid (by rw [H.stp, if_neg (by omega), ← hk, if_neg hi])
        have HL := Lib.hid (rlength_all m (i - k) (n - k) w (by omega) (by omega) (by omega) (by omega))
        have hle := H.stp_le m (i - k) (n - k)
        obtain ⟨u, hu⟩ : ∃ u, u = H.stp m (i - k) (n - k) := ⟨_, rfl⟩
        rw [← hu] at HS HL hle
        obtain ⟨i2, hi2⟩ : ∃ i2, i2 = i - k := ⟨_, rfl⟩
        obtain ⟨n2, hn2⟩ : ∃ n2, n2 = n - k := ⟨_, rfl⟩
        rw [← hi2, ← hn2] at HL
        have e1 : (i : Int) - (k : Int) = (i2 : Int) := by omega
        have e2 : (n : Int) - (k : Int) = (n2 : Int) := by omega
        have v1 : IntKind.i64.wrap (1 + (u : Int)) = ((u + 1 : Nat) : Int) := by rw [IntKind.wrap_i64]; omega
        have v2 : i2 ≤ 1099511627776 := by omega
        have v3 : n2 ≤ 1099511627776 := by omega
        clear hk hu hn h1 h3 h4 b1 b2 b3 hi2 hn2
        go_enter Tryd.func28, Tryd.ntmps28
        go_wp2_with (first
          | (go_at_call 23; (with_reducible refine HK.out.mono ?_); rintro e w' ⟨rfl, rfl⟩)
          | (go_at_call 28; (with_reducible refine HL.out.mono ?_); rintro e w' ⟨rfl, rfl⟩))
        go_ret
        rw [HS.out]
        exact ⟨by first | rfl | simp [v1] | (rw [v1]) | (congr 2; omega), rfl⟩

end Go.Proofs.YthamligdmfhmeaaDoor
