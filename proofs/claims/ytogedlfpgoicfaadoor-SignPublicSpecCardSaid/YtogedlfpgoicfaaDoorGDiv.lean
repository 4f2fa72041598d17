/- Division of a number of 128 bits: the two digits of the quotient. -/
namespace Go.Proofs.YtogedlfpgoicfaaDoor.G

/-- One digit: Y = y1 * 2^32 + y0 is normalized; u is the number so far, v the next digit; q * y1 + r = u. -/
structure Dg (y1 y0 u v q r : Nat) : Prop where
  y1lo : 2147483648 ≤ y1
  y1hi : y1 < 4294967296
  y0hi : y0 < 4294967296
  ult : u < y1 * 4294967296 + y0
  vlt : v < 4294967296
  eqn : q * y1 + r = u
  up : u * 4294967296 + v < (q + 1) * (y1 * 4294967296 + y0)
  qle : q ≤ 4294967297

theorem Dg.start {y1 y0 u v : Nat} (h1 : 2147483648 ≤ y1) (h2 : y1 < 4294967296) (h3 : y0 < 4294967296) (h4 : u < y1 * 4294967296 + y0) (h5 : v < 4294967296) :
    Dg y1 y0 u v (u / y1) (u % y1) := by
  have e : u / y1 * y1 + u % y1 = u := Nat.div_add_mod' u y1
  have hm := Nat.mod_lt u (show y1 > 0 by omega)
  refine ⟨h1, h2, h3, h4, h5, e, ?_, ?_⟩
  · have h6 : u + 1 ≤ (u / y1 + 1) * y1 := by rw [Nat.add_mul]; omega
    have h7 : (u + 1) * 4294967296 ≤ (u / y1 + 1) * y1 * 4294967296 := Nat.mul_le_mul_right _ h6
    rw [Nat.mul_add (u / y1 + 1), ← Nat.mul_assoc]
    omega
  · have : u / y1 < 4294967298 := (Nat.div_lt_iff_lt_mul (by omega)).2 (by omega)
    omega

theorem Dg.r_le {y1 y0 u v q r : Nat} (d : Dg y1 y0 u v q r) : q * y0 ≤ 18446744073709551615 ∧ q * y1 ≤ u := by
  have := Nat.mul_le_mul d.qle (show y0 ≤ 4294967295 by have := d.y0hi; omega)
  have := d.eqn
  exact ⟨by omega, by omega⟩

/-- The digit is too great: the next one. -/
theorem Dg.next {y1 y0 u v q r : Nat} (d : Dg y1 y0 u v q r) (h : 4294967296 ≤ q ∨ 4294967296 * r + v < q * y0) : 1 ≤ q ∧ Dg y1 y0 u v (q - 1) (r + y1) := by
  have hq : 1 ≤ q := by
    rcases h with h | h
    · omega
    · rcases Nat.eq_zero_or_pos q with e | e
      · rw [e, Nat.zero_mul] at h; omega
      · exact e
  refine ⟨hq, d.y1lo, d.y1hi, d.y0hi, d.ult, d.vlt, ?_, ?_, by have := d.qle; omega⟩
  · have e := d.eqn
    have : q * y1 = (q - 1) * y1 + y1 := by rw [← Nat.succ_mul]; congr 1; omega
    omega
  · rw [show q - 1 + 1 = q by omega]
    rcases h with h | h
    · have h1 : 4294967296 * (y1 * 4294967296 + y0) ≤ q * (y1 * 4294967296 + y0) := Nat.mul_le_mul_right _ h
      have h2 := d.ult; have h3 := d.vlt
      omega
    · have e := d.eqn
      have e2 : u * 4294967296 = q * y1 * 4294967296 + r * 4294967296 := by rw [← e, Nat.add_mul]
      rw [Nat.mul_add, ← Nat.mul_assoc]
      omega

/-- The digit is right. -/
theorem Dg.done {y1 y0 u v q r : Nat} (d : Dg y1 y0 u v q r) (h : 4294967296 ≤ r ∧ q ≤ 4294967296 ∨ q < 4294967296 ∧ q * y0 ≤ 4294967296 * r + v) : q = (u * 4294967296 + v) / (y1 * 4294967296 + y0) := by
  have e := d.eqn
  have e2 : u * 4294967296 = q * y1 * 4294967296 + r * 4294967296 := by rw [← e, Nat.add_mul]
  have e3 : q * (y1 * 4294967296 + y0) = q * y1 * 4294967296 + q * y0 := by rw [Nat.mul_add, Nat.mul_assoc]
  have h1 := d.up
  have hy := d.y1lo
  refine ((Nat.div_eq_iff (by omega)).2 ⟨?_, ?_⟩).symm
  · rcases h with ⟨h, hq⟩ | ⟨_, h⟩
    · have := Nat.mul_le_mul hq (show y0 ≤ 4294967296 by have := d.y0hi; omega)
      omega
    · omega
  · rw [Nat.add_mul, Nat.one_mul] at h1
    omega

/-- The whole division: U = ((u * 2^32) + v1) * 2^32 + v0, in digits. -/
theorem two_digits (u v1 v0 Y : Nat) (_ : 0 < Y) :
    ((u * 4294967296 + v1) % Y * 4294967296 + v0) % Y = (u * 18446744073709551616 + v1 * 4294967296 + v0) % Y := by
  rw [show u * 18446744073709551616 + v1 * 4294967296 + v0 = (u * 4294967296 + v1) * 4294967296 + v0 by omega]
  rw [Nat.add_mod, Nat.mul_mod, Nat.mod_mod, ← Nat.mul_mod, ← Nat.add_mod]

/-- A sum and a difference modulo 2^64. -/
theorem rem_wrap (n q Y : Nat) (hq : q = n / Y) : n - q * Y = n % Y := by
  have := Nat.div_add_mod' n Y
  rw [hq]; omega

theorem shift_mod (a Y s : Nat) : (a * s) % (Y * s) / s = a % Y ∨ s = 0 := by
  rcases Nat.eq_zero_or_pos s with h | h
  · exact .inr h
  · left
    rw [Nat.mul_mod_mul_right, Nat.mul_div_cancel _ h]

end Go.Proofs.YtogedlfpgoicfaaDoor.G
