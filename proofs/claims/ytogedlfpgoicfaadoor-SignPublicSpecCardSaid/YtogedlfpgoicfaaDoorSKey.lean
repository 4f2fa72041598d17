/- Keys: which numbers are private keys. -/
import Derived.Test.YtogedlfpgoicfaaDoorGPow
import Derived.Test.YtogedlfpgoicfaaDoorTagged
namespace Go.Proofs.YtogedlfpgoicfaaDoor
open Go.RowKit

set_option maxRecDepth 100000 in
set_option maxHeartbeats 1000000 in
theorem positive_any (k : Int) (w : World) :
    Calls Tryd.prog 107 #[.int .i64 k] w fun e w' => e = .returned (.bool (decide (1 ≤ k))) ∧ w = w' := by
  go_enter Tryd.func107, Tryd.ntmps107
  go_wp2
  go_ret
  exact ⟨rfl, rfl⟩

set_option maxRecDepth 100000 in
set_option maxHeartbeats 1000000 in
theorem small_any (k : Int) (w : World) :
    Calls Tryd.prog 108 #[.int .i64 k] w fun e w' => e = .returned (.bool (decide (k < 2305843009213688669))) ∧ w = w' := by
  go_enter Tryd.func108, Tryd.ntmps108
  go_wp2
  go_ret
  exact ⟨rfl, rfl⟩

set_option maxRecDepth 100000 in
set_option maxHeartbeats 1000000 in
theorem valid_any (k : Int) (w : World) :
    Calls Tryd.prog 83 #[.int .i64 k] w fun e w' => e = .returned (.bool (decide (1 ≤ k) && decide (k < 2305843009213688669))) ∧ Below w.heap.size w w' := by
  go_enter Tryd.func83, Tryd.ntmps83
  go_wp2_with fail
  have HP : Hid ((w.alloc (.cells #[.func (.func 107) #[.int .i64 k] #[], .func (.func 108) #[.int .i64 k] #[]] 23)).heap[w.heap.size]? = some (.cells #[.func (.func 107) #[.int .i64 k] #[], .func (.func 108) #[.int .i64 k] #[]] 23 (0, 0)) ∧ Below w.heap.size w (w.alloc (.cells #[.func (.func 107) #[.int .i64 k] #[], .func (.func 108) #[.int .i64 k] #[]] 23))) := Lib.hid
    ⟨heap_alloc_new w _, (Below.refl _ _).alloc (Nat.le_refl _) _⟩
  generalize w.alloc (.cells #[.func (.func 107) #[.int .i64 k] #[], .func (.func 108) #[.int .i64 k] #[]] 23) = W at HP ⊢
  go_loop [11] (fun ii => ∃ i : Nat, i ≤ 2 ∧ ii = .int .i64 i ∧ (1 ≤ i → 1 ≤ k) ∧ (i = 2 → k < 2305843009213688669)) (fun ii => 2 - (intOf ii).toNat)
  case atStart => exact ⟨0, Nat.zero_le _, rfl, fun h => by omega, fun h => by omega⟩
  case round =>
    obtain ⟨i, hi, rfl, h1, h2⟩ := hrel
    have h3 : i = 0 ∨ i = 1 ∨ i = 2 := by omega
    rcases h3 with rfl | rfl | rfl
    · have hc : W.cell? ⟨w.heap.size, 0, none⟩ = some (.func (.func 107) #[.int .i64 k] #[]) := by rw [cell_of_row _ _ _ _ _ _ HP.out.1]; rfl
      clear h1 h2 hi
      by_cases hk : 1 ≤ k
      · have q1 : decide (1 ≤ k) = true := decide_eq_true hk
        go_wp2_with (refine (positive_any k W).mono ?_; rintro e w' ⟨rfl, rfl⟩)
        exact ⟨⟨1, by decide, rfl, fun _ => hk, fun h => absurd h (by decide)⟩, by decide⟩
      · have q1 : decide (1 ≤ k) = false := decide_eq_false hk
        go_wp2_with (refine (positive_any k W).mono ?_; rintro e w' ⟨rfl, rfl⟩)
        go_ret
        rw [q1]
        exact ⟨rfl, HP.out.2⟩
    · have hc : W.cell? ⟨w.heap.size, 1, none⟩ = some (.func (.func 108) #[.int .i64 k] #[]) := by rw [cell_of_row _ _ _ _ _ _ HP.out.1]; rfl
      have hk1 := h1 (by decide)
      clear h1 h2 hi
      by_cases hk : k < 2305843009213688669
      · have q1 : decide (k < 2305843009213688669) = true := decide_eq_true hk
        go_wp2_with (refine (small_any k W).mono ?_; rintro e w' ⟨rfl, rfl⟩)
        exact ⟨⟨2, by decide, rfl, fun _ => hk1, fun _ => hk⟩, by decide⟩
      · have q1 : decide (k < 2305843009213688669) = false := decide_eq_false hk
        go_wp2_with (refine (small_any k W).mono ?_; rintro e w' ⟨rfl, rfl⟩)
        go_ret
        rw [q1, Bool.and_false]
        exact ⟨rfl, HP.out.2⟩
    · have hk1 := h1 (by decide); have hk2 := h2 rfl
      clear h1 h2 hi
      go_wp2_with fail
      go_ret
      exact ⟨rfl, HP.out.2⟩

end Go.Proofs.YtogedlfpgoicfaaDoor
