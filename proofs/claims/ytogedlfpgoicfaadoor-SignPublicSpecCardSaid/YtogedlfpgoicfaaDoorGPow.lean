/- Powers of elements, and scalars, in numbers. -/
import Derived.Test.YtogedlfpgoicfaaDoorGOps
namespace Go.Proofs.YtogedlfpgoicfaaDoor

namespace G
/-- Sums and products of scalars. -/
def ad (a b : Nat) : Nat := (a + b) % 2305843009213688669
def ml (a b : Nat) : Nat := a * b % 2305843009213688669
theorem ad_lt (a b : Nat) : ad a b < 2305843009213688669 := Nat.mod_lt _ (by decide)
theorem ml_lt (a b : Nat) : ml a b < 2305843009213688669 := Nat.mod_lt _ (by decide)
theorem ad_comm (a b : Nat) : ad a b = ad b a := by unfold ad; rw [Nat.add_comm]
theorem ml_comm (a b : Nat) : ml a b = ml b a := by unfold ml; rw [Nat.mul_comm]
theorem ad_assoc (a b c : Nat) : ad a (ad b c) = ad (ad a b) c := by unfold ad; rw [Nat.add_mod_mod, Nat.mod_add_mod, Nat.add_assoc]
theorem ml_assoc (a b c : Nat) : ml a (ml b c) = ml (ml a b) c := by unfold ml; rw [Nat.mul_mod_mod, Nat.mod_mul_mod, Nat.mul_assoc]
theorem ml_ad (a b c : Nat) : ad (ml a b) (ml a c) = ml a (ad b c) := by unfold ml ad; rw [← Nat.add_mod, Nat.mul_mod_mod, Nat.mul_add]
theorem ad_zero {a : Nat} (h : a < 2305843009213688669) : ad a 0 = a := by unfold ad; rw [Nat.add_zero, Nat.mod_eq_of_lt h]
theorem ml_one {a : Nat} (h : a < 2305843009213688669) : ml a 1 = a := by unfold ml; rw [Nat.mul_one, Nat.mod_eq_of_lt h]
theorem ml_zero (a : Nat) : ml a 0 = 0 := by unfold ml; rw [Nat.mul_zero, Nat.zero_mod]
end G

namespace G
/-- Products, powers and inverses of elements. -/
def mpG (p a b : Nat) : Nat := a * b % p
def pwG (p a k : Nat) : Nat := a ^ k % p
def mp (a b : Nat) : Nat := mpG 4611686018427377339 a b
def pw (a k : Nat) : Nat := pwG 4611686018427377339 a k
def iv (a : Nat) : Nat := pwG 4611686018427377339 a 2305843009213688668
/-- An element, of whatever modulus. -/
def ElG (p q a : Nat) : Prop := 1 ≤ a ∧ a < p ∧ a ^ q % p = 1
theorem El.gen {a : Nat} (h : El a) : ElG 4611686018427377339 2305843009213688669 a := h
theorem ElG.spec {a : Nat} (h : ElG 4611686018427377339 2305843009213688669 a) : El a := h
theorem pwG_eq (p a k : Nat) : pwG p a k = a ^ k % p := rfl
theorem mpG_eq (p a b : Nat) : mpG p a b = a * b % p := rfl
theorem gpow_one {p a q : Nat} (h2 : 2 ≤ p) (h : a ^ q % p = 1) (k : Nat) : (a ^ k % p) ^ q % p = 1 := by
  rw [← Nat.pow_mod, ← Nat.pow_mul, Nat.mul_comm, Nat.pow_mul]
  exact one_pow_mod h2 h k
theorem gpos {p x q : Nat} (hq : q ≠ 0) (h : x ^ q % p = 1) : 1 ≤ x := Nat.pos_of_ne_zero fun e => by
  rw [e, Nat.zero_pow (Nat.pos_of_ne_zero hq)] at h
  simp at h
theorem gmul_one {p a b q : Nat} (h2 : 2 ≤ p) (ha : a ^ q % p = 1) (hb : b ^ q % p = 1) : (a * b % p) ^ q % p = 1 := by
  rw [← Nat.pow_mod, Nat.mul_pow, Nat.mul_mod, ha, hb, Nat.mod_eq_of_lt (by omega)]
theorem ginv {p a q : Nat} (h : a ^ (q + 1) % p = 1) : a * (a ^ q % p) % p = 1 := by
  rw [Nat.mul_mod_mod, Nat.mul_comm, ← Nat.pow_succ, h]
theorem gred {p a q : Nat} (h2 : 2 ≤ p) (h : a ^ q % p = 1) (n : Nat) : a ^ (n % q) % p = a ^ n % p := by
  have e : a ^ n = (a ^ q) ^ (n / q) * a ^ (n % q) := by rw [← Nat.pow_mul, ← Nat.pow_add, Nat.div_add_mod]
  rw [e, Nat.mul_mod, one_pow_mod h2 h, Nat.one_mul, Nat.mod_mod]
theorem gsq {p x q : Nat} (h : x ^ (2 * q) % p = 1) : (x * x % p) ^ q % p = 1 := by
  rw [← Nat.pow_mod, ← Nat.pow_two, ← Nat.pow_mul, h]
theorem ElG.pw {p q a : Nat} (h2 : 2 ≤ p) (hq : q ≠ 0) (h : ElG p q a) (k : Nat) : ElG p q (pwG p a k) :=
  have h3 : (pwG p a k) ^ q % p = 1 := gpow_one h2 h.2.2 k
  ⟨gpos hq h3, Nat.mod_lt _ (by omega), h3⟩
theorem ElG.mp {p q a b : Nat} (h2 : 2 ≤ p) (hq : q ≠ 0) (ha : ElG p q a) (hb : ElG p q b) : ElG p q (mpG p a b) :=
  have h3 : (mpG p a b) ^ q % p = 1 := gmul_one h2 ha.2.2 hb.2.2
  ⟨gpos hq h3, Nat.mod_lt _ (by omega), h3⟩
theorem ElG.mul_inv {p q a : Nat} (h : ElG p (q + 1) a) : mpG p a (pwG p a q) = 1 := ginv h.2.2
theorem ElG.add {p q a : Nat} (h2 : 2 ≤ p) (h : ElG p q a) (j k : Nat) : mpG p (pwG p a j) (pwG p a k) = pwG p a ((j + k) % q) := by
  unfold mpG pwG
  rw [gred h2 h.2.2, ← Nat.mul_mod, Nat.pow_add]
theorem ElG.mul {p q a : Nat} (h2 : 2 ≤ p) (h : ElG p q a) (j k : Nat) : pwG p (pwG p a j) k = pwG p a (j * k % q) := by
  unfold pwG
  rw [gred h2 h.2.2, ← Nat.pow_mod, ← Nat.pow_mul]
theorem ElG.sq {p q x : Nat} (hp : Prime p) (hq : q ≠ 0) (hpq : p = 2 * q + 1) (h0 : x ≠ 0) (hl : x < p) : ElG p q (x * x % p) :=
  have h3 : (x * x % p) ^ q % p = 1 := gsq (by rw [show 2 * q = p - 1 by omega]; exact fermat hp (not_dvd_small (Nat.pos_of_ne_zero h0) hl))
  ⟨gpos hq h3, Nat.mod_lt _ (by omega), h3⟩
theorem El.pw {a : Nat} (h : El a) (k : Nat) : El (pw a k) := ElG.spec (h.gen.pw (by decide) (by decide) k)
theorem El.iv {a : Nat} (h : El a) : El (iv a) := ElG.spec (h.gen.pw (by decide) (by decide) 2305843009213688668)
theorem El.mp {a b : Nat} (ha : El a) (hb : El b) : El (mp a b) := ElG.spec (ha.gen.mp (by decide) (by decide) hb.gen)
theorem mp_comm (a b : Nat) : mp a b = mp b a := by unfold mp mpG; rw [Nat.mul_comm]
theorem mp_assoc (a b c : Nat) : mp a (mp b c) = mp (mp a b) c := by unfold mp mpG; rw [Nat.mul_mod_mod, Nat.mod_mul_mod, Nat.mul_assoc]
theorem mp_one {a : Nat} (h : El a) : mp a 1 = a := by unfold mp mpG; rw [Nat.mul_one, Nat.mod_eq_of_lt h.lt]
theorem mp_iv {a : Nat} (h : El a) : mp a (iv a) = 1 := ElG.mul_inv (q := 2305843009213688668) h.gen
theorem pw_ad {a : Nat} (h : El a) (j k : Nat) : mp (pw a j) (pw a k) = pw a (ad j k) := h.gen.add (by decide) j k
theorem pw_ml {a : Nat} (h : El a) (j k : Nat) : pw (pw a j) k = pw a (ml j k) := h.gen.mul (by decide) j k
theorem pw_zero (a : Nat) : pw a 0 = 1 := by unfold pw pwG; rw [Nat.pow_zero]
theorem pw_one {a : Nat} (h : El a) : pw a 1 = a := by unfold pw pwG; rw [Nat.pow_one, Nat.mod_eq_of_lt h.lt]

theorem not_dvd {x : Nat} (h0 : 0 < x) (h : x < 4611686018427377339) : ¬ 4611686018427377339 ∣ x := not_dvd_small h0 h
/-- The square of a number. -/
def sq (n : Nat) : Nat := (n % 4611686018427377339) * (n % 4611686018427377339) % 4611686018427377339
theorem sq_zero {n : Nat} (h : n % 4611686018427377339 = 0) : sq n = 0 := by unfold sq; rw [h]
theorem sq_el {n : Nat} (h : n % 4611686018427377339 ≠ 0) : El (sq n) := ElG.spec (ElG.sq primeP (by decide) (by decide) h (Nat.mod_lt _ (by decide)))

theorem even_pow {p a b : Nat} (h : (a + b) % p = 0) : ∀ k, a ^ (2 * k) % p = b ^ (2 * k) % p
  | 0 => rfl
  | k + 1 => by
    have hsq : a * a % p = b * b % p := by
      have e1 : (a * a + b * a) % p = 0 := by rw [← Nat.add_mul, Nat.mul_mod, h, Nat.zero_mul, Nat.zero_mod]
      have e2 : (b * b + b * a) % p = 0 := by rw [← Nat.mul_add, Nat.add_comm b a, Nat.mul_mod, h, Nat.mul_zero, Nat.zero_mod]
      have e3 : (a * a + b * a + b * b) % p = b * b % p := by rw [Nat.add_mod, e1, Nat.zero_add, Nat.mod_mod]
      have e4 : (b * b + b * a + a * a) % p = a * a % p := by rw [Nat.add_mod, e2, Nat.zero_add, Nat.mod_mod]
      rw [← e3, ← e4]; congr 1; omega
    rw [show 2 * (k + 1) = 2 * k + 2 by omega, Nat.pow_add, Nat.pow_add, Nat.mul_mod, even_pow h k, Nat.pow_two, Nat.pow_two, hsq, ← Nat.mul_mod]
theorem odd_sum {p a b : Nat} (h : (a + b) % p = 0) (k : Nat) : (a ^ (2 * k + 1) + b ^ (2 * k + 1)) % p = 0 := by
  rw [Nat.pow_succ, Nat.pow_succ, Nat.add_mod, Nat.mul_mod, even_pow h k, ← Nat.mul_mod, ← Nat.add_mod, ← Nat.mul_add, Nat.mul_mod, h, Nat.mul_zero, Nat.zero_mod]
theorem ghalves {p q k a b : Nat} (hp : Prime p) (hq : q = 2 * k + 1) (hpq : p = 2 * q + 1) (h1 : 1 ≤ a) (hab : a + b = p) (hb1 : 1 ≤ b) :
    (ElG p q a ∧ ¬ ElG p q b) ∨ (¬ ElG p q a ∧ ElG p q b) := by
  have hp0 : 3 ≤ p := by omega
  obtain ⟨x, hx⟩ : ∃ x, x = a ^ q % p := ⟨_, rfl⟩
  obtain ⟨y, hy⟩ : ∃ y, y = b ^ q % p := ⟨_, rfl⟩
  have hxl : x < p := by rw [hx]; exact Nat.mod_lt _ (by omega)
  have hyl : y < p := by rw [hy]; exact Nat.mod_lt _ (by omega)
  have hsum : (x + y) % p = 0 := by
    rw [hx, hy, ← Nat.add_mod, hq]
    exact odd_sum (by rw [hab, Nat.mod_self]) k
  have hxx : x * x % p = 1 := by
    rw [hx, ← Nat.mul_mod, ← Nat.pow_two, ← Nat.pow_mul, Nat.mul_comm, show 2 * q = p - 1 by omega]
    exact fermat hp (not_dvd_small (by omega) (by omega))
  have hx0 : x ≠ 0 := fun e => by rw [e] at hxx; simp at hxx
  have hpm : x = 1 ∨ x = p - 1 := by
    have hd : p ∣ (x - 1) * (x + 1) := by
      have hle : 1 ≤ x * x := Nat.mul_le_mul (show 1 ≤ x by omega) (show 1 ≤ x by omega)
      have h3 := dvd_sub_of_mod (p := p) (a := x * x) (b := 1) (by rw [hxx, Nat.mod_eq_of_lt (by omega)]) hle
      have e : (x - 1) * (x + 1) = x * x - 1 := by
        obtain ⟨k, rfl⟩ : ∃ k, x = k + 1 := ⟨x - 1, by omega⟩
        rw [Nat.add_sub_cancel, Nat.add_mul, Nat.mul_add, Nat.mul_add, Nat.mul_add]
        omega
      rw [e]; exact h3
    rcases hp.of_mul hd with h | h
    · left
      rcases Nat.eq_zero_or_pos (x - 1) with h0 | h0
      · omega
      · exact absurd h (not_dvd_small h0 (by omega))
    · right
      rcases Nat.lt_or_ge (x + 1) p with h0 | h0
      · exact absurd h (not_dvd_small (by omega) h0)
      · omega
  have hxy : x + y = p := by
    have h1 := Nat.dvd_of_mod_eq_zero hsum
    obtain ⟨c, hc⟩ := h1
    rcases Nat.lt_or_ge c 2 with h2 | h2
    · rcases Nat.eq_zero_or_pos c with h3 | h3
      · rw [h3] at hc; omega
      · rw [show c = 1 by omega] at hc; omega
    · have := Nat.mul_le_mul_left p h2; omega
  have hEa : ElG p q a ↔ x = 1 := by unfold ElG; rw [← hx]; exact ⟨fun h => h.2.2, fun h => ⟨h1, by omega, h⟩⟩
  have hEb : ElG p q b ↔ y = 1 := by unfold ElG; rw [← hy]; exact ⟨fun h => h.2.2, fun h => ⟨hb1, by omega, h⟩⟩
  rw [hEa, hEb]
  rcases hpm with h | h
  · left; omega
  · right; omega
/-- Of a number and the other one that adds up to P, exactly one is an element. -/
theorem halves {a : Nat} (h1 : 1 ≤ a) (h2 : a < 4611686018427377339) : (El a ∧ ¬ El (4611686018427377339 - a)) ∨ (¬ El a ∧ El (4611686018427377339 - a)) := by
  have h := ghalves (k := 1152921504606844334) (q := 2305843009213688669) (b := 4611686018427377339 - a) primeP (by decide) (by decide) h1 (by omega) (by omega)
  exact h
end G


end Go.Proofs.YtogedlfpgoicfaaDoor
