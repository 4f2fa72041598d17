/- The plain mathematics of layer 1: reading what was written, and writing what was read. Nothing here speaks of the program. -/
import Derived.Test.YtmhchpdogjbpmaaMath
namespace Go.Proofs.Ytmhchpdogjbpmaa
namespace M

theorem or_add (acc d k : Nat) (h : acc < 2 ^ (7 * k)) : acc ||| d * 2 ^ (7 * k) = acc + d * 2 ^ (7 * k) := by
  have := Nat.two_pow_add_eq_or_of_lt h d
  rw [Nat.or_comm, Nat.mul_comm d, ← this]; omega

theorem pow_step (k : Nat) : 2 ^ (7 * (k + 1)) = 128 * 2 ^ (7 * k) := by
  rw [Nat.mul_add, Nat.pow_add, Nat.mul_comm]

theorem digAt_eq (k : Nat) (c : UInt8) (h : c.toNat % 128 * 2 ^ (7 * k) < 18446744073709551616) : digAt k c = c.toNat % 128 * 2 ^ (7 * k) := Nat.mod_eq_of_lt h

theorem byte_nat (x : Nat) (h : x < 256) : (UInt8.ofNat x).toNat = x := by simp; omega

theorem rdNum_num (r : List UInt8) : ∀ (u k acc : Nat), u * 2 ^ (7 * k) < 18446744073709551616 → (0 < k → u ≠ 0) → acc < 2 ^ (7 * k) → rdNum k acc (num u ++ r) = some (acc + u * 2 ^ (7 * k), r) := by
  intro u
  induction u using Nat.strongRecOn with
  | _ u ih =>
    intro k acc hu hk ha
    have hp : 0 < 2 ^ (7 * k) := Nat.pow_pos (by decide)
    have hu64 : u < 18446744073709551616 := Nat.lt_of_le_of_lt (Nat.le_mul_of_pos_right u hp) hu
    by_cases hs : u < 128
    · rw [num_small u hs]
      have hb := byte_nat u (by omega)
      have hd := digAt_eq k (UInt8.ofNat u) (by rw [hb, Nat.mod_eq_of_lt hs]; exact hu)
      rw [hb, Nat.mod_eq_of_lt hs] at hd
      rw [List.singleton_append, rdNum_last (by rw [hd, hb, Nat.mul_div_cancel _ hp, Nat.mod_eq_of_lt hs]) (by rw [hb]; intro h0; rcases Nat.eq_zero_or_pos k with h | h; exact h; exact absurd h0 (hk h)) (by rw [hb]; exact hs)]
      rw [hd, or_add _ _ _ ha]
    · rw [num_big u hu64 hs]
      have hb := byte_nat (u % 128 + 128) (by omega)
      have hm : (u % 128 + 128) % 128 = u % 128 := by omega
      have hle : u % 128 * 2 ^ (7 * k) ≤ u * 2 ^ (7 * k) := Nat.mul_le_mul_right _ (Nat.mod_le _ _)
      have hd := digAt_eq k (UInt8.ofNat (u % 128 + 128)) (by rw [hb, hm]; omega)
      rw [hb, hm] at hd
      rw [List.cons_append, rdNum_more (by rw [hd, hb, Nat.mul_div_cancel _ hp, hm]) (by rw [hb]; omega), hd, or_add _ _ _ ha]
      have hs1 : u * 2 ^ (7 * k) = u % 128 * 2 ^ (7 * k) + u / 128 * 2 ^ (7 * (k + 1)) := by
        rw [pow_step, ← Nat.mul_assoc, ← Nat.add_mul]; congr 1; omega
      have hlt : u % 128 * 2 ^ (7 * k) ≤ 127 * 2 ^ (7 * k) := Nat.mul_le_mul_right _ (by omega)
      rw [ih (u / 128) (by omega) (k + 1) _ (by omega) (by intro _ h0; omega) (by rw [pow_step]; omega)]
      rw [hs1]; congr 2; omega

theorem rdNum_back (u : Nat) (r : List UInt8) (h : u < 18446744073709551616) : rdNum 0 0 (num u ++ r) = some (u, r) := by
  have := rdNum_num r u 0 0 (by simpa using h) (by omega) (by simp)
  simpa using this

/-- What was read as a numeral is one. -/
theorem num_rdNum : ∀ (bs : List UInt8) (k acc v : Nat) (r : List UInt8), acc < 2 ^ (7 * k) → rdNum k acc bs = some (v, r) →
    ∃ u, u * 2 ^ (7 * k) < 18446744073709551616 ∧ v = acc + u * 2 ^ (7 * k) ∧ bs = num u ++ r ∧ (0 < k → u ≠ 0)
  | [], _, _, _, _, _, h => by simp [rdNum] at h
  | c :: l, k, acc, v, r, ha, h => by
    have hp : 0 < 2 ^ (7 * k) := Nat.pow_pos (by decide)
    have hc256 : c.toNat < 256 := UInt8.toNat_lt c
    rw [rdNum] at h
    split at h
    · simp at h
    · rename_i hno
      have h1 : digAt k c / 2 ^ (7 * k) = c.toNat % 128 := by
        rcases Decidable.em (digAt k c / 2 ^ (7 * k) = c.toNat % 128) with h | h
        · exact h
        · exact absurd (.inl h) hno
      have h2 : ¬ (c.toNat = 0 ∧ 0 < k) := fun h => hno (.inr h)
      have hfit : c.toNat % 128 * 2 ^ (7 * k) < 18446744073709551616 := by
        have hx := Nat.div_mul_le_self (digAt k c) (2 ^ (7 * k))
        rw [h1] at hx
        exact Nat.lt_of_le_of_lt hx (digAt_lt k c)
      have hd := digAt_eq k c hfit
      rw [hd, or_add _ _ _ ha] at h
      split at h
      · rename_i hs
        have hm : c.toNat % 128 = c.toNat := Nat.mod_eq_of_lt hs
        simp only [Option.some.injEq, Prod.mk.injEq] at h
        refine ⟨c.toNat, by rw [← hm]; exact hfit, by rw [← h.1, hm], ?_, fun hk h0 => h2 ⟨h0, hk⟩⟩
        rw [num_small _ hs, h.2]; simp
      · rename_i hs
        have hlt : c.toNat % 128 * 2 ^ (7 * k) ≤ 127 * 2 ^ (7 * k) := Nat.mul_le_mul_right _ (by omega)
        obtain ⟨u, h3, h4, h5, h6⟩ := num_rdNum l (k + 1) _ v r (by rw [pow_step]; omega) h
        have hu0 := h6 (by omega)
        have hs1 : (c.toNat % 128 + 128 * u) * 2 ^ (7 * k) = c.toNat % 128 * 2 ^ (7 * k) + u * 2 ^ (7 * (k + 1)) := by
          rw [pow_step, Nat.add_mul, Nat.mul_comm 128 u, Nat.mul_assoc]
        have hlt64 : (c.toNat % 128 + 128 * u) * 2 ^ (7 * k) < 18446744073709551616 := by
          have hk : 7 * (k + 1) ≤ 64 := by
            rcases Nat.lt_or_ge 64 (7 * (k + 1)) with hk | hk
            · have h7 : 2 ^ 64 ≤ 2 ^ (7 * (k + 1)) := Nat.pow_le_pow_right (by decide) (by omega)
              have h8 : 2 ^ (7 * (k + 1)) ≤ u * 2 ^ (7 * (k + 1)) := Nat.le_mul_of_pos_left _ (by omega)
              simp only [show (2 : Nat) ^ 64 = 18446744073709551616 from by decide] at h7
              omega
            · exact hk
          have hq : (18446744073709551616 : Nat) = 2 ^ (64 - 7 * (k + 1)) * 2 ^ (7 * (k + 1)) := by
            rw [← Nat.pow_add, Nat.sub_add_cancel hk]
          have hu : u + 1 ≤ 2 ^ (64 - 7 * (k + 1)) := by
            rw [hq] at h3; exact Nat.lt_of_mul_lt_mul_right h3
          have hm2 : (u + 1) * 2 ^ (7 * (k + 1)) ≤ 18446744073709551616 := by
            rw [hq]; exact Nat.mul_le_mul_right _ hu
          rw [Nat.add_mul, Nat.one_mul] at hm2
          have := pow_step k
          rw [hs1]; omega
        have hu64 : c.toNat % 128 + 128 * u < 18446744073709551616 := Nat.lt_of_le_of_lt (Nat.le_mul_of_pos_right _ hp) hlt64
        refine ⟨c.toNat % 128 + 128 * u, hlt64, by rw [h4, hs1]; omega, ?_, fun _ => by omega⟩
        rw [num_big _ hu64 (by omega), show (c.toNat % 128 + 128 * u) % 128 + 128 = c.toNat from by omega, show (c.toNat % 128 + 128 * u) / 128 = u from by omega, h5]
        simp

theorem rdNum_fore {bs r : List UInt8} {v : Nat} (h : rdNum 0 0 bs = some (v, r)) : v < 18446744073709551616 ∧ bs = num v ++ r := by
  obtain ⟨u, h1, h2, h3, _⟩ := num_rdNum bs 0 0 v r (by simp) h
  simp at h1 h2
  subst h2
  exact ⟨h1, h3⟩

/-- Longer numerals are those of greater numbers. -/
theorem num_mono : ∀ (u v : Nat), u ≤ v → v < 18446744073709551616 → (num u).length ≤ (num v).length := by
  intro u
  induction u using Nat.strongRecOn with
  | _ u ih =>
    intro v huv hv
    by_cases hs : u < 128
    · rw [num_small u hs]; have := (num_len v hv).1; simpa using this
    · rw [num_big u (by omega) hs, num_big v hv (by omega)]
      have := ih (u / 128) (by omega) (v / 128) (Nat.div_le_div_right huv) (by omega)
      simpa using this

theorem unsig_mono_pos (a b : Int) (h0 : 0 ≤ a) (h : a ≤ b) : unsig a ≤ unsig b := by unfold unsig; split <;> split <;> omega
theorem unsig_mono_neg (a b : Int) (h0 : a < 0) (h : b ≤ a) : unsig a ≤ unsig b := by unfold unsig; split <;> split <;> omega

end M
end Go.Proofs.Ytmhchpdogjbpmaa
