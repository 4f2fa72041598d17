/- Keys, nonces, challenges and signatures in numbers. -/
import Derived.Test.YtogedlfpgoicfaaDoorGScalar
namespace Go.Proofs.YtogedlfpgoicfaaDoor

namespace G
theorem gnot_one {p q a k : Nat} (h2 : 2 ≤ p) (hq : Prime q) (h : a ^ q % p = 1) (h1 : a % p ≠ 1) (hk1 : 1 ≤ k) (hk2 : k < q) : a ^ k % p ≠ 1 := fun e => by
  have hg := pow_gcd h2 q k h e
  rw [hq.coprime (not_dvd_small (by omega) hk2), Nat.pow_one] at hg
  exact h1 hg
theorem base_ne (k : Nat) (h1 : 1 ≤ k) (h2 : k < 2305843009213688669) : pw 4 k ≠ 1 := gnot_one (p := 4611686018427377339) (by decide) primeQ el4.2.2 (by decide) h1 h2

theorem iv_mp {a : Nat} (h : El a) : mp (iv a) a = 1 := by rw [mp_comm]; exact mp_iv h
theorem mp_left {a b c : Nat} (ha : El a) (hb : El b) (hc : El c) (h : mp a b = mp a c) : b = c := by
  have e : ∀ {z}, El z → mp (iv a) (mp a z) = z := fun {z} hz => by rw [mp_assoc, iv_mp ha, mp_comm, mp_one hz]
  rw [← e hb, ← e hc, h]
theorem pw_lt_inj {a b : Nat} (h : a < b) (hb : b < 2305843009213688669) : pw 4 a ≠ pw 4 b := fun e => by
  have e1 : ad a (b - a) = b := by unfold ad; rw [show a + (b - a) = b by omega, Nat.mod_eq_of_lt hb]
  have e2 := pw_ad el4 a (b - a)
  rw [e1, ← e] at e2
  have e3 : mp (pw 4 a) 1 = pw 4 a := mp_one (el4.pw a)
  have el1' : El 1 := by have := (el4.pw 0); rw [pw_zero] at this; exact this
  have e4 := mp_left (el4.pw a) (el4.pw (b - a)) el1' (by rw [e2, e3])
  exact base_ne (b - a) (by omega) (by omega) e4
theorem pw_inj {a b : Nat} (ha : a < 2305843009213688669) (hb : b < 2305843009213688669) (h : pw 4 a = pw 4 b) : a = b := by
  rcases Nat.lt_trichotomy a b with h1 | h1 | h1
  · exact absurd h (pw_lt_inj h1 hb)
  · exact h1
  · exact absurd h.symm (pw_lt_inj h1 ha)

/-- The difference of two scalars. -/
def mi (a b : Nat) : Nat := ad a (ml 2305843009213688668 b)
theorem mi_lt (a b : Nat) : mi a b < 2305843009213688669 := ad_lt _ _
theorem gneg (q x : Nat) (hq : 1 ≤ q) : (x + (q - 1) * x % q) % q = 0 := by
  rw [Nat.add_mod_mod, show x + (q - 1) * x = q * x by
    obtain ⟨k, rfl⟩ : ∃ k, q = k + 1 := ⟨q - 1, by omega⟩
    rw [Nat.add_sub_cancel, Nat.succ_mul, Nat.add_comm], Nat.mul_mod_right]
theorem ad_neg (x : Nat) : ad x (ml 2305843009213688668 x) = 0 := gneg 2305843009213688669 x (by decide)
theorem mi_ad {k : Nat} (m : Nat) (hk : k < 2305843009213688669) : mi (ad k m) m = k := by
  unfold mi; rw [← ad_assoc, ad_neg, ad_zero hk]
theorem pw_neg {a : Nat} (h : El a) (x : Nat) : pw a (ml 2305843009213688668 x) = iv (pw a x) := by
  rw [ml_comm, ← pw_ml h]; rfl
theorem pw_mi {a : Nat} (h : El a) (x y : Nat) : pw a (mi x y) = mp (pw a x) (iv (pw a y)) := by
  unfold mi; rw [← pw_ad h, pw_neg h]
theorem iv_one_of {a b : Nat} (ha : El a) (hb : El b) (h : mp a b = 1) : b = iv a := by
  refine mp_left ha hb ha.iv ?_
  rw [h, mp_iv ha]
theorem iv_mul {a b : Nat} (ha : El a) (hb : El b) : iv (mp a b) = mp (iv a) (iv b) := by
  refine (iv_one_of (ha.mp hb) (ha.iv.mp hb.iv) ?_).symm
  rw [mp_comm (iv a), mp_assoc, ← mp_assoc a, mp_iv hb, mp_one ha, mp_iv ha]

/-- The eight bytes of a number. -/
def num8 (n : Int) : List UInt8 := (List.range 8).map fun i => UInt8.ofNat ((n % 18446744073709551616).toNat / 2 ^ (8 * (7 - i)) % 256)
theorem num8_len (n : Int) : (num8 n).length = 8 := by simp [num8]
/-- The scalar of a tag and bytes. -/
def scal (tag bs : List UInt8) : Nat := 1 + rest 2305843009213688668 (H.tagged tag bs)
theorem scal_pos (tag bs : List UInt8) : 1 ≤ scal tag bs := by unfold scal; omega
theorem scal_lt (tag bs : List UInt8) : scal tag bs < 2305843009213688669 := by
  have := rest_lt 2305843009213688668 (by decide) (H.tagged tag bs)
  unfold scal; omega
def tagSign : List UInt8 := [115, 105, 103, 110]
def tagNonce : List UInt8 := [110, 111, 110, 99, 101]
def tagPrivate : List UInt8 := [112, 114, 105, 118, 97, 116, 101]
/-- The challenge of a public key, an element and a message. -/
def chal (pub r : Int) (m : List UInt8) : Nat := scal tagSign (num8 r ++ (num8 pub ++ m))
/-- The nonce of a private key and a message. -/
def nonc (x : Int) (m : List UInt8) : Nat := scal tagNonce (num8 x ++ m)
theorem chal_lt (pub r : Int) (m : List UInt8) : chal pub r m < 2305843009213688669 := scal_lt _ _
theorem nonc_lt (x : Int) (m : List UInt8) : nonc x m < 2305843009213688669 := scal_lt _ _
/-- The two parts of a signature. -/
def sigR (x : Nat) (m : List UInt8) : Nat := pw 4 (nonc x m)
def sigH (x : Nat) (m : List UInt8) : Nat := chal (pw 4 x : Nat) (sigR x m : Nat) m
def sigS (x : Nat) (m : List UInt8) : Nat := ad (nonc x m) (ml (sigH x m) x)
theorem sigR_el (x : Nat) (m : List UInt8) : El (sigR x m) := el4.pw _
theorem sigS_lt (x : Nat) (m : List UInt8) : sigS x m < 2305843009213688669 := ad_lt _ _
theorem sigH_lt (x : Nat) (m : List UInt8) : sigH x m < 2305843009213688669 := chal_lt _ _ _
/-- What is signed is accepted. -/
theorem sig_ok (x : Nat) (m : List UInt8) : pw 4 (sigS x m) = mp (sigR x m) (pw (pw 4 x) (sigH x m)) := by
  unfold sigS
  rw [pw_ml el4, ← pw_ad el4, ml_comm x]
  rfl
/-- The holder finds the nonce. -/
theorem sig_nonce (x : Nat) (m : List UInt8) : mi (sigS x m) (ml (sigH x m) x) = nonc x m := mi_ad _ (nonc_lt _ _)
/-- Signatures of one key. -/
theorem sig_diff (x : Nat) (a b : List UInt8) : pw 4 (mi (sigS x a) (sigS x b)) = mp (mp (sigR x a) (iv (sigR x b))) (pw (pw 4 x) (mi (sigH x a) (sigH x b))) := by
  have hp := el4.pw x
  rw [pw_mi el4, pw_mi hp, sig_ok, sig_ok, iv_mul (sigR_el x b) (hp.pw _)]
  have ha := sigR_el x a
  have hb := (sigR_el x b).iv
  have hc := hp.pw (sigH x a)
  have hd := (hp.pw (sigH x b)).iv
  generalize sigR x a = r at ha ⊢
  generalize iv (sigR x b) = s at hb ⊢
  generalize pw (pw 4 x) (sigH x a) = c at hc ⊢
  generalize iv (pw (pw 4 x) (sigH x b)) = d at hd ⊢
  rw [mp_assoc, mp_assoc, ← mp_assoc r c s, mp_comm c s, mp_assoc r s c]
end G

end Go.Proofs.YtogedlfpgoicfaaDoor
