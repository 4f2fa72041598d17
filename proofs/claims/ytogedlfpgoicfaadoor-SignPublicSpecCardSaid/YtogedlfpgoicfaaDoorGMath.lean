/- Arithmetic modulo a prime: Fermat's little theorem, and that P and Q are primes. -/
namespace Go.Proofs.YtogedlfpgoicfaaDoor.G

def Prime (p : Nat) : Prop := 2 ≤ p ∧ ∀ m, m ∣ p → m = 1 ∨ m = p

theorem Prime.coprime {p a : Nat} (hp : Prime p) (ha : ¬ p ∣ a) : Nat.gcd p a = 1 := by
  rcases hp.2 _ (Nat.gcd_dvd_left p a) with h | h
  · exact h
  · exact absurd (h ▸ Nat.gcd_dvd_right p a) ha
theorem Prime.of_mul {p a b : Nat} (hp : Prime p) (h : p ∣ a * b) : p ∣ a ∨ p ∣ b := by
  by_cases ha : p ∣ a
  · exact .inl ha
  · exact .inr (Nat.Coprime.dvd_of_dvd_mul_left (hp.coprime ha) h)

def prod : List Nat → Nat
  | [] => 1
  | a :: l => a * prod l
theorem prod_append (l m : List Nat) : prod (l ++ m) = prod l * prod m := by
  induction l with
  | nil => simp [prod]
  | cons a l ih => simp [prod, ih, Nat.mul_assoc]
theorem prod_perm {l m : List Nat} (h : l.Perm m) : prod l = prod m := by
  induction h with
  | nil => rfl
  | cons a _ ih => simp [prod, ih]
  | swap a b l => simp [prod, Nat.mul_left_comm]
  | trans _ _ h1 h2 => exact h1.trans h2
def fact : Nat → Nat
  | 0 => 1
  | n + 1 => (n + 1) * fact n

theorem nodup_le (n : Nat) : ∀ l : List Nat, l.Nodup → (∀ x ∈ l, 1 ≤ x ∧ x ≤ n) → l.length ≤ n := by
  induction n with
  | zero =>
    intro l _ h
    cases l with
    | nil => exact Nat.le_refl _
    | cons a l => have := h a (by simp); omega
  | succ n ih =>
    intro l hd h
    by_cases hm : n + 1 ∈ l
    · have h1 := ih (l.erase (n + 1)) (hd.erase _) (fun x hx => by
        have h2 := h x (List.mem_of_mem_erase hx)
        have h3 : x ≠ n + 1 := by
          intro e
          subst e
          exact (List.Nodup.not_mem_erase hd) hx
        omega)
      rw [List.length_erase_of_mem hm] at h1
      omega
    · have h1 := ih l hd (fun x hx => by
        have h2 := h x hx
        have h3 : x ≠ n + 1 := fun e => hm (e ▸ hx)
        omega)
      omega
theorem prod_all (n : Nat) : ∀ l : List Nat, l.Nodup → (∀ x ∈ l, 1 ≤ x ∧ x ≤ n) → l.length = n → prod l = fact n := by
  induction n with
  | zero =>
    intro l _ _ hl
    cases l with
    | nil => rfl
    | cons a l => simp at hl
  | succ n ih =>
    intro l hd h hl
    have hm : n + 1 ∈ l := Classical.byContradiction fun hm => by
      have h1 := nodup_le n l hd (fun x hx => by
        have h2 := h x hx
        have h3 : x ≠ n + 1 := fun e => hm (e ▸ hx)
        omega)
      omega
    rw [prod_perm (List.perm_cons_erase hm), prod, fact, ih (l.erase (n + 1)) (hd.erase _) (fun x hx => by
        have h2 := h x (List.mem_of_mem_erase hx)
        have h3 : x ≠ n + 1 := by
          intro e
          subst e
          exact (List.Nodup.not_mem_erase hd) hx
        omega) (by rw [List.length_erase_of_mem hm]; omega)]

theorem dvd_sub_of_mod {p a b : Nat} (h : a % p = b % p) (_ : b ≤ a) : p ∣ a - b :=
  Nat.dvd_of_mod_eq_zero (Nat.sub_mod_eq_zero_of_mod_eq h)

theorem prod_mod (p a n : Nat) : prod ((List.range n).map fun i => a * (i + 1) % p) % p = a ^ n * fact n % p := by
  induction n with
  | zero => rfl
  | succ n ih =>
    rw [List.range_succ, List.map_append, prod_append, Nat.mul_mod, ih, List.map_cons, List.map_nil, prod, prod, Nat.mul_one, Nat.mod_mod, ← Nat.mul_mod, fact]
    congr 1
    rw [Nat.pow_succ]
    ac_rfl

theorem not_dvd_small {p x : Nat} (h0 : 0 < x) (h : x < p) : ¬ p ∣ x := fun hd => by
  have := Nat.le_of_dvd h0 hd
  omega
theorem fact_not {p : Nat} (hp : Prime p) (n : Nat) (h : n < p) : ¬ p ∣ fact n := by
  induction n with
  | zero => intro hd; have h1 := Nat.le_of_dvd (by decide) hd; have h2 := hp.1; rw [fact] at h1; omega
  | succ n ih =>
    intro hd
    rcases hp.of_mul hd with h1 | h1
    · exact not_dvd_small (by omega) h h1
    · exact ih (by omega) h1

theorem fermat {p a : Nat} (hp : Prime p) (ha : ¬ p ∣ a) : a ^ (p - 1) % p = 1 := by
  have h2 := hp.1
  have hinj : ∀ i j, i < p - 1 → j < p - 1 → i ≤ j → a * (i + 1) % p = a * (j + 1) % p → i = j := by
    intro i j hi hj hij e
    have hd := dvd_sub_of_mod e.symm (Nat.mul_le_mul_left a (by omega))
    rw [← Nat.mul_sub] at hd
    rcases hp.of_mul hd with h | h
    · exact absurd h ha
    · rcases Nat.eq_zero_or_pos (j + 1 - (i + 1)) with h0 | h0
      · omega
      · exact absurd h (not_dvd_small h0 (by omega))
  have hnd : ((List.range (p - 1)).map fun i => a * (i + 1) % p).Nodup := by
    rw [List.nodup_iff_pairwise_ne, List.pairwise_map]
    refine List.Pairwise.imp_of_mem ?_ (List.nodup_iff_pairwise_ne.1 List.nodup_range)
    intro i j hi hj hne e
    rw [List.mem_range] at hi hj
    rcases Nat.le_total i j with h | h
    · exact hne (hinj i j hi hj h e)
    · exact hne (hinj j i hj hi h e.symm).symm
  have hall := prod_all (p - 1) _ hnd (fun x hx => by
    obtain ⟨i, hi, rfl⟩ := List.mem_map.1 hx
    rw [List.mem_range] at hi
    have hlt := Nat.mod_lt (a * (i + 1)) (show p > 0 by omega)
    have hne : a * (i + 1) % p ≠ 0 := fun e => by
      rcases hp.of_mul (Nat.dvd_of_mod_eq_zero e) with h | h
      · exact ha h
      · exact not_dvd_small (by omega) (by omega) h
    exact ⟨by omega, by show a * (i + 1) % p ≤ p - 1; omega⟩) (by simp)
  have hm := prod_mod p a (p - 1)
  rw [hall] at hm
  have hfn := fact_not hp (p - 1) (by omega)
  have h1 : 1 ≤ a ^ (p - 1) := Nat.one_le_iff_ne_zero.2 fun e => by
    have h0 : a ≠ 0 := fun e => ha (e ▸ Nat.dvd_zero p)
    exact absurd e (Nat.pos_iff_ne_zero.1 (Nat.pow_pos (Nat.pos_of_ne_zero h0)))
  have hd : p ∣ (a ^ (p - 1) - 1) * fact (p - 1) := by
    rw [Nat.sub_mul, Nat.one_mul]
    exact dvd_sub_of_mod hm.symm (Nat.le_mul_of_pos_left _ h1)
  rcases hp.of_mul hd with h | h
  · have : a ^ (p - 1) = (a ^ (p - 1) - 1) + 1 := by omega
    rw [this, Nat.add_mod, Nat.mod_eq_zero_of_dvd h, Nat.zero_add, Nat.mod_mod, Nat.mod_eq_of_lt (by omega)]
  · exact absurd h hfn

theorem one_pow_mod {p x : Nat} (h2 : 2 ≤ p) (h : x % p = 1) (k : Nat) : x ^ k % p = 1 := by
  rw [Nat.pow_mod, h, Nat.one_pow, Nat.mod_eq_of_lt (by omega)]
theorem pow_gcd {p x : Nat} (h2 : 2 ≤ p) (u v : Nat) : x ^ u % p = 1 → x ^ v % p = 1 → x ^ (Nat.gcd u v) % p = 1 := by
  induction u, v using Nat.gcd.induction with
  | H0 v => intro _ h; simpa using h
  | H1 u v hu ih =>
    intro hx hy
    rw [Nat.gcd_rec]
    refine ih ?_ hx
    have e : x ^ v = (x ^ u) ^ (v / u) * x ^ (v % u) := by rw [← Nat.pow_mul, ← Nat.pow_add, Nat.div_add_mod]
    rw [e, Nat.mul_mod, one_pow_mod h2 hx, Nat.one_mul, Nat.mod_mod] at hy
    exact hy

theorem has_prime (n : Nat) : 2 ≤ n → ∃ p, Prime p ∧ p ∣ n := by
  induction n using Nat.strongRecOn with
  | ind n ih =>
    intro hn
    by_cases h : Prime n
    · exact ⟨n, h, Nat.dvd_refl n⟩
    · have : ∃ m, m ∣ n ∧ m ≠ 1 ∧ m ≠ n := Classical.byContradiction fun hc => h ⟨hn, fun m hm => Classical.byContradiction fun hx => hc ⟨m, hm, fun e => hx (.inl e), fun e => hx (.inr e)⟩⟩
      obtain ⟨m, hm, h1, h2⟩ := this
      have h3 := Nat.le_of_dvd (by omega) hm
      have h0 : m ≠ 0 := fun e => by subst e; have := Nat.zero_dvd.1 hm; omega
      obtain ⟨p, hp, hpm⟩ := ih m (by omega) (by omega)
      exact ⟨p, hp, Nat.dvd_trans hpm hm⟩

theorem pocklington {n q R a : Nat} (hq : 2 ≤ q) (hqp : Prime q) (hn : n = q * R + 1) (hlt : n < q * q) (hR : 1 ≤ R) (h1 : a ^ (q * R) % n = 1) (h2 : Nat.gcd (a ^ R % n - 1) n = 1) : Prime n := by
  have hn2 : 2 ≤ n := by
    have : 1 * 1 ≤ q * R := Nat.mul_le_mul (by omega) hR
    omega
  have key : ∀ p, Prime p → p ∣ n → q < p := by
    intro p hp hpn
    have hp2 := hp.1
    have e1 : a ^ (q * R) % p = 1 := by
      rw [← Nat.mod_mod_of_dvd _ hpn, h1, Nat.mod_eq_of_lt (by omega)]
    have hpa : ¬ p ∣ a := fun hd => by
      have : a ^ (q * R) % p = 0 := Nat.mod_eq_zero_of_dvd (Nat.dvd_trans hd (by rw [show q * R = (q * R - 1) + 1 by have : 1 * 1 ≤ q * R := Nat.mul_le_mul (by omega) hR; omega, Nat.pow_succ]; exact Nat.dvd_mul_left a _))
      omega
    have hf := fermat hp hpa
    by_cases hqd : q ∣ p - 1
    · have := Nat.le_of_dvd (by omega) hqd
      omega
    · exfalso
      have hg := pow_gcd (x := a ^ R) hp2 q (p - 1) (by rw [← Nat.pow_mul, Nat.mul_comm]; exact e1) (by rw [← Nat.pow_mul, Nat.mul_comm, Nat.pow_mul]; exact one_pow_mod hp2 hf _)
      rw [hqp.coprime hqd, Nat.pow_one] at hg
      have hx : a ^ R % n % p = 1 := by rw [Nat.mod_mod_of_dvd _ hpn]; exact hg
      have hd : p ∣ a ^ R % n - 1 := by
        refine dvd_sub_of_mod (by rw [hx, Nat.mod_eq_of_lt (by omega)]) (Nat.one_le_iff_ne_zero.2 fun e => by rw [e] at hx; simp at hx)
      have := Nat.dvd_gcd hd hpn
      rw [h2] at this
      have := Nat.le_of_dvd (by decide) this
      omega
  refine ⟨hn2, fun m hm => Classical.byContradiction fun hc => ?_⟩
  obtain ⟨k, hk⟩ := hm
  have hm1 : m ≠ 1 := fun e => hc (.inl e)
  have hmn : m ≠ n := fun e => hc (.inr e)
  have hm0 : m ≠ 0 := fun e => by rw [e] at hk; omega
  have hk0 : k ≠ 0 := fun e => by rw [e] at hk; omega
  have hk1 : k ≠ 1 := fun e => by rw [e] at hk; omega
  obtain ⟨p, hp, hpm⟩ := has_prime m (by omega)
  obtain ⟨r, hr, hrk⟩ := has_prime k (by omega)
  have a1 := key p hp (hk ▸ Nat.dvd_trans hpm (Nat.dvd_mul_right m k))
  have a2 := key r hr (hk ▸ Nat.dvd_trans hrk (Nat.dvd_mul_left k m))
  have b1 := Nat.le_of_dvd (by omega) hpm
  have b2 := Nat.le_of_dvd (by omega) hrk
  have c1 : q * q ≤ m * k := Nat.mul_le_mul (by omega) (by omega)
  omega

/-- a to the power k modulo n, by squaring. -/
def pm : Nat → Nat → Nat → Nat → Nat
  | 0, _, _, _ => 1
  | f + 1, n, a, k => if k = 0 then 1 else if k % 2 = 1 then a * pm f n (a * a % n) (k / 2) % n else pm f n (a * a % n) (k / 2)
theorem pm_eq (n : Nat) (f : Nat) : ∀ a k, k < 2 ^ f → pm f n a k % n = a ^ k % n := by
  induction f with
  | zero => intro a k h; obtain rfl : k = 0 := by simpa using h
            rfl
  | succ f ih =>
    intro a k h
    unfold pm
    by_cases h0 : k = 0
    · subst h0; rfl
    · have hk : k / 2 < 2 ^ f := by rw [Nat.pow_succ] at h; omega
      have e : a ^ k = a ^ (k % 2) * (a * a) ^ (k / 2) := by
        rw [← Nat.pow_two, ← Nat.pow_mul, ← Nat.pow_add]
        congr 1
        omega
      have hi := ih (a * a % n) (k / 2) hk
      rw [← Nat.pow_mod] at hi
      rw [if_neg h0]
      by_cases h1 : k % 2 = 1
      · rw [if_pos h1, Nat.mod_mod, Nat.mul_mod, hi, ← Nat.mul_mod, e, h1, Nat.pow_one]
      · rw [if_neg h1, hi, e, show k % 2 = 0 by omega, Nat.pow_zero, Nat.one_mul]

theorem pock {n q R a : Nat} (hqp : Prime q) (hn : n = q * R + 1) (hlt : n < q * q) (hR : 1 ≤ R) (hb : q * R < 2 ^ 64) (h1 : pm 64 n a (q * R) % n = 1) (h2 : Nat.gcd (pm 64 n a R % n - 1) n = 1) : Prime n :=
  pocklington hqp.1 hqp hn hlt hR (by rw [← pm_eq n 64 a _ hb]; exact h1) (by rw [← pm_eq n 64 a R (Nat.lt_of_le_of_lt (Nat.le_mul_of_pos_left R (by have := hqp.1; omega)) hb)]; exact h2)

theorem small_prime {n k : Nat} (h2 : 2 ≤ n) (hk : n < k * k) (h : (List.range k).all (fun m => m < 2 || n % m != 0) = true) : Prime n := by
  refine ⟨h2, fun m ⟨r, hr⟩ => Classical.byContradiction fun hc => ?_⟩
  have hm1 : m ≠ 1 := fun e => hc (.inl e)
  have hmn : m ≠ n := fun e => hc (.inr e)
  have hm0 : m ≠ 0 := fun e => by rw [e] at hr; omega
  have hr0 : r ≠ 0 := fun e => by rw [e] at hr; omega
  have hr1 : r ≠ 1 := fun e => by rw [e] at hr; omega
  have tst : ∀ x, 2 ≤ x → x < k → x ∣ n → False := fun x hx hxk hd => by
    have := List.all_eq_true.1 h x (List.mem_range.2 hxk)
    have h0 := Nat.mod_eq_zero_of_dvd hd
    simp [h0] at this
    omega
  rcases Nat.lt_or_ge m k with h3 | h3
  · exact tst m (by omega) h3 ⟨r, hr⟩
  · rcases Nat.lt_or_ge r k with h4 | h4
    · exact tst r (by omega) h4 ⟨m, by rw [hr, Nat.mul_comm]⟩
    · have := Nat.mul_le_mul h3 h4
      omega

theorem prime1 : Prime 172411 := small_prime (k := 416) (by decide) (by decide) (by decide +kernel)
theorem prime2 : Prime 7930907 := pock (R := 46) (a := 2) prime1 (by decide) (by decide) (by decide) (by decide) (by decide +kernel) (by decide +kernel)
theorem prime3 : Prime 11864636873 := pock (R := 1496) (a := 2) prime2 (by decide) (by decide) (by decide) (by decide) (by decide +kernel) (by decide +kernel)
theorem prime4 : Prime 1732236983459 := pock (R := 146) (a := 2) prime3 (by decide) (by decide) (by decide) (by decide) (by decide +kernel) (by decide +kernel)
theorem prime5 : Prime 249442125618097 := pock (R := 144) (a := 2) prime4 (by decide) (by decide) (by decide) (by decide) (by decide +kernel) (by decide +kernel)
theorem primeQ : Prime 2305843009213688669 := pock (R := 9244) (a := 2) prime5 (by decide) (by decide) (by decide) (by decide) (by decide +kernel) (by decide +kernel)
theorem primeP : Prime 4611686018427377339 := pock (R := 2) (a := 2) primeQ (by decide) (by decide) (by decide) (by decide) (by decide +kernel) (by decide +kernel)

end Go.Proofs.YtogedlfpgoicfaaDoor.G
