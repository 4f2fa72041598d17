/- Contracts of the smallest functions of layer 1: the numerals. -/
import Derived.Test.YtmhchpdogjbpmaaRows
import Derived.Test.YtmhchpdogjbpmaaShelf
import Derived.Test.YtmhchpdogjbpmaaMath
import Derived.WalkKit
import Derived.WalkSpells
import Derived.WalkLawsBesides
import Derived.Laws.EntriesVeiled
import Derived.Deep.QuietTactic
import Derived.BigQuiet
import Derived.Lib.Hide
import Derived.Lib.QuietBelow
namespace Go.Proofs.Ytmhchpdogjbpmaa
open Go.RowKit

theorem ret_int {k : IntKind} {a b : Int} (h : a = b) : Ending.returned (.int k a) = .returned (.int k b) := by rw [h]

theorem size_num (u : Nat) (h : u < 18446744073709551616) : max 1 ((Lib.bitLen u + 6) / 7) = (M.num u).length := by
  have g : ∀ f u, u < 2 ^ f → u < 18446744073709551616 → max 1 ((Lib.bitLen u + 6) / 7) = (M.num u).length := by
    intro f
    induction f with
    | zero => intro u h0 _; have : u = 0 := by omega
              subst this; decide
    | succ f ih =>
      intro u h0 hu
      by_cases hs : u < 128
      · rw [M.num_small u hs]
        have hb := Lib.bitLen_le8 ⟨u, by omega⟩
        have hb7 : ∀ n : Fin 128, Lib.bitLen n.val ≤ 7 := by decide +kernel
        have := hb7 ⟨u, hs⟩
        simp only [List.length_singleton] at *
        omega
      · rw [M.num_big u hu hs, Lib.bitLen_shift 7 u (by omega) (by omega)]
        have := ih (u / 128) (by rw [Nat.pow_succ] at h0; omega) (by omega)
        rw [show u / 2 ^ 7 = u / 128 from rfl]
        simp only [List.length_cons]
        have hp : ∀ n, 0 < n → 1 ≤ Lib.bitLen n ∨ ¬ n < 18446744073709551616 := by
          intro n hn
          by_cases hx : n < 18446744073709551616
          · left; rw [Lib.bitLen_half n (by omega) (by omega)]; omega
          · right; exact hx
        rcases hp (u / 128) (by omega) with h1 | h1
        · omega
        · omega
  exact g 64 u (by omega) h

set_option maxHeartbeats 400000 in
theorem unsigned_any (n : Int) (w : World) (h1 : -9223372036854775808 ≤ n) (h2 : n ≤ 9223372036854775807) :
    Calls Try.prog 57 #[.int .i64 n] w fun e w' => e = .returned (.int .u64 (M.unsig n)) ∧ w = w' := by
  go_enter Try.func57, Try.ntmps57
  go_wp2
  go_ret
  refine ⟨ret_int ?_, rfl⟩
  unfold wrap64
  rw [IntKind.wrap_u64, IntKind.wrap_u64, u64_xor _ _ (by omega) (by omega) (by omega) (by omega)]
  unfold M.unsig
  split
  · rename_i h0
    have e1 : n / 9223372036854775808 % 18446744073709551616 = 0 := by omega
    rw [e1]
    simp only [Int.toNat_zero, Nat.xor_zero]
    omega
  · have e1 : n / 9223372036854775808 % 18446744073709551616 = 18446744073709551615 := by omega
    rw [e1]
    have key : ∀ a : Nat, a < 2 ^ 64 → a ^^^ (2 ^ 64 - 1) = 2 ^ 64 - 1 - a := by
      intro a ha
      apply Nat.eq_of_testBit_eq
      intro i
      rw [Nat.testBit_xor, Nat.testBit_two_pow_sub_one, show 2 ^ 64 - 1 - a = 2 ^ 64 - (a + 1) from by omega, Nat.testBit_two_pow_sub_succ ha]
      by_cases hi : i < 64
      · simp [hi]
      · simp [hi, Nat.testBit_lt_two_pow (Nat.lt_of_lt_of_le ha (Nat.pow_le_pow_right (by decide) (by omega : 64 ≤ i)))]
    have := key ((((n * 2 + 9223372036854775808) % 18446744073709551616 - 9223372036854775808) % 18446744073709551616).toNat) (by omega)
    simp only [show (2 : Nat) ^ 64 - 1 = 18446744073709551615 from by decide] at this
    rw [show (18446744073709551615 : Int).toNat = 18446744073709551615 from rfl, this]
    omega

set_option maxHeartbeats 400000 in
theorem signed_any (u : Int) (w : World) (h1 : 0 ≤ u) (h2 : u ≤ 18446744073709551615) :
    Calls Try.prog 42 #[.int .u64 u] w fun e w' => e = .returned (.int .i64 (M.sig u)) ∧ w = w' := by
  by_cases hu : u % 2 = 1
  · have hb : (u % 2 == 1) = true := by simpa using hu
    go_enter Try.func42, Try.ntmps42
    go_wp2
    go_ret
    refine ⟨ret_int ?_, rfl⟩
    unfold M.sig; rw [if_pos hu]; try (unfold wrap64); omega
  · have hb : (u % 2 == 1) = false := by simpa using hu
    go_enter Try.func42, Try.ntmps42
    go_wp2
    go_ret
    refine ⟨ret_int ?_, rfl⟩
    unfold M.sig; rw [if_neg hu]; try (unfold wrap64); omega

set_option maxHeartbeats 400000 in
theorem sizeNumeral_any (u : Int) (w : World) (h1 : 0 ≤ u) (h2 : u ≤ 18446744073709551615) :
    Calls Try.prog 56 #[.int .u64 u] w fun e w' => e = .returned (.int .i64 (M.num u.toNat).length) ∧ w = w' := by
  have hs := size_num u.toNat (by omega)
  have hl : Lib.bitLen u.toNat ≤ 70 := by have := (M.num_len u.toNat (by omega)).2; omega
  go_enter Try.func56, Try.ntmps56
  go_wp2_with (go_at_call 59; refine (Try.bits_Len64 _ _ (by omega) (by omega)).mono ?_; rintro e w' ⟨rfl, rfl⟩)
  go_ret
  refine ⟨ret_int ?_, rfl⟩
  omega

end Go.Proofs.Ytmhchpdogjbpmaa
