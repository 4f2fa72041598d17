/- The plain mathematics of layer 1: numerals, unsigned forms, trees of values and their encodings. Nothing here speaks of the program. -/
import Derived.RowKit
namespace Go.Proofs.Ytmhchpdogjbpmaa
namespace M

/-- The unsigned form of an integer. -/
def unsig (n : Int) : Int := if 0 ≤ n then 2 * n else -2 * n - 1
/-- The integer of an unsigned form. -/
def sig (u : Int) : Int := if u % 2 = 1 then -(u / 2) - 1 else u / 2

theorem sig_unsig (n : Int) : sig (unsig n) = n := by unfold sig unsig; split <;> split <;> omega
theorem unsig_sig (u : Int) (h : 0 ≤ u) : unsig (sig u) = u := by unfold sig unsig; split <;> split <;> omega
theorem unsig_bd (n : Int) (h1 : -9223372036854775808 ≤ n) (h2 : n ≤ 9223372036854775807) : 0 ≤ unsig n ∧ unsig n ≤ 18446744073709551615 := by
  unfold unsig; split <;> omega

theorem sig_bd (u : Int) (h0 : 0 ≤ u) (h1 : u ≤ 18446744073709551615) : -9223372036854775808 ≤ sig u ∧ sig u ≤ 9223372036854775807 := by unfold sig; split <;> omega

/-- The numeral of u, with room for so many digits. -/
def numF : Nat → Nat → List UInt8
  | 0, u => [UInt8.ofNat u]
  | f + 1, u => if u < 128 then [UInt8.ofNat u] else UInt8.ofNat (u % 128 + 128) :: numF f (u / 128)
def num (u : Nat) : List UInt8 := numF 10 u

theorem numF_more (f u : Nat) (h : u < 128 ^ (f + 1)) : numF f u = numF (f + 1) u := by
  induction f generalizing u with
  | zero => simp only [Nat.zero_add, Nat.pow_one] at h; simp [numF, h]
  | succ f ih =>
    rw [numF, numF.eq_def (f + 1 + 1)]
    simp only []
    by_cases hu : u < 128
    · simp [hu]
    · simp only [hu, if_false]
      rw [ih (u / 128) (by rw [Nat.div_lt_iff_lt_mul (by decide)]; rw [Nat.pow_succ] at h; exact h)]

theorem num_big (u : Nat) (h : u < 18446744073709551616) (hu : ¬ u < 128) : num u = UInt8.ofNat (u % 128 + 128) :: num (u / 128) := by
  have e : numF 9 (u / 128) = numF 10 (u / 128) := numF_more 9 _ (by
    have : (128 : Nat) ^ 10 = 1180591620717411303424 := by decide
    omega)
  unfold num; rw [← e, numF, if_neg hu]
theorem num_small (u : Nat) (hu : u < 128) : num u = [UInt8.ofNat u] := by unfold num; rw [numF, if_pos hu]

/-- How many digits a numeral has. -/
theorem num_len (u : Nat) (h : u < 18446744073709551616) : 1 ≤ (num u).length ∧ (num u).length ≤ 10 := by
  have g : ∀ f u, u < 128 ^ (f + 1) → 1 ≤ (numF f u).length ∧ (numF f u).length ≤ f + 1 := by
    intro f
    induction f with
    | zero => intro u _; simp [numF]
    | succ f ih =>
      intro u hu
      rw [numF]
      split
      · simp
      · have := ih (u / 128) (by rw [Nat.div_lt_iff_lt_mul (by decide)]; rw [Nat.pow_succ] at hu; exact hu)
        simp only [List.length_cons]; omega
  have e : num u = numF 9 u := (numF_more 9 u (by
    have : (128 : Nat) ^ 10 = 1180591620717411303424 := by decide
    omega)).symm
  rw [e]; exact g 9 u (by
    have : (128 : Nat) ^ 10 = 1180591620717411303424 := by decide
    omega)

/-- Trees of values, nested at most so deep: kind, number, text, list. -/
def T : Nat → Type
  | 0 => PEmpty
  | d + 1 => Int × Int × ByteArray × List (T d)

def lmax (xs : List Nat) : Nat := xs.foldl max 0
theorem lmax_snoc (xs : List Nat) (x : Nat) : lmax (xs ++ [x]) = max (lmax xs) x := by simp [lmax]
theorem foldl_max (xs : List Nat) : ∀ a, xs.foldl max a = max a (xs.foldl max 0) := by
  induction xs with
  | nil => intro a; simp
  | cons x xs ih => intro a; simp only [List.foldl_cons]; rw [ih (max a x), ih (max 0 x)]; omega
theorem lmax_cons (x : Nat) (xs : List Nat) : lmax (x :: xs) = max x (lmax xs) := by
  unfold lmax; simp only [List.foldl_cons]; rw [foldl_max]; omega
theorem le_lmax {xs : List Nat} {x : Nat} (h : x ∈ xs) : x ≤ lmax xs := by
  induction xs with
  | nil => cases h
  | cons y ys ih =>
    rw [lmax_cons]
    rcases List.mem_cons.1 h with rfl | h
    · omega
    · have := ih h; omega

/-- How deep a tree really is. -/
def height : (d : Nat) → T d → Nat
  | 0, _ => 0
  | d + 1, (_, _, _, l) => 1 + lmax (l.map (height d))
/-- Is it well-formed? -/
def formed : (d : Nat) → T d → Bool
  | 0, _ => false
  | d + 1, (k, n, s, l) =>
    (k == 1 && s.toList.isEmpty && l.isEmpty) || (k == 2 && n == 0 && l.isEmpty) || (k == 3 && n == 0 && s.toList.isEmpty && l.all (formed d))
/-- The depth. -/
def depth : (d : Nat) → T d → Nat
  | 0, _ => 0
  | d + 1, (k, _, _, l) => if k = 3 then lmax (l.map (depth d)) + 1 else 0

theorem depth_le : ∀ (d : Nat) (t : T d), depth d t ≤ height d t
  | 0, t => t.elim
  | d + 1, (k, n, s, l) => by
    have h : ∀ l : List (T d), lmax (l.map (depth d)) ≤ lmax (l.map (height d)) := by
      intro l
      induction l with
      | nil => simp
      | cons x xs ih => simp only [List.map_cons, lmax_cons]; have := depth_le d x; omega
    have := h l
    simp only [depth, height]
    split <;> omega

/-- The encoding. -/
def enc : (d : Nat) → T d → List UInt8
  | 0, _ => []
  | d + 1, (k, n, s, l) =>
    if k = 1 then 1 :: num (unsig n).toNat else if k = 2 then 2 :: (num s.size ++ s.data.toList) else 3 :: (num l.length ++ (l.map (enc d)).flatten)

theorem flat_snoc {α : Type} (f : α → List UInt8) (l : List α) (j : Nat) (h : j < l.length) : ((l.take (j + 1)).map f).flatten = ((l.take j).map f).flatten ++ f l[j] := by
  rw [List.take_succ_eq_append_getElem h, List.map_append, List.flatten_append]; simp
theorem flat_take_le {α : Type} (f : α → List UInt8) (l : List α) (j : Nat) : ((l.take j).map f).flatten.length ≤ (l.map f).flatten.length := by
  conv => rhs; rw [← List.take_append_drop j l]
  rw [List.map_append, List.flatten_append, List.length_append]; omega
theorem flat_part_le {α : Type} (f : α → List UInt8) (l : List α) (j : Nat) (h : j < l.length) : ((l.take j).map f).flatten.length + (f l[j]).length ≤ (l.map f).flatten.length := by
  have := flat_take_le f l (j + 1)
  rw [flat_snoc f l j h, List.length_append] at this; exact this

/-- What Check hands back. -/
def check (d : Nat) (t : T d) : Int := if formed d t then (if 16 < depth d t then 2 else 0) else 1

/-- Two lists, element by element. -/
def all2 {α β : Type} (f : α → β → Bool) : List α → List β → Bool
  | [], [] => true
  | a :: l, b :: m => f a b && all2 f l m
  | _, _ => false

theorem all2_iff {α β : Type} (f : α → β → Bool) : ∀ (l : List α) (m : List β), all2 f l m = true ↔ l.length = m.length ∧ ∀ i (h : i < l.length) (h' : i < m.length), f l[i] m[i] = true
  | [], [] => by simp [all2]
  | [], b :: m => by simp [all2]
  | a :: l, [] => by simp [all2]
  | a :: l, b :: m => by
    simp only [all2, Bool.and_eq_true, all2_iff f l m, List.length_cons]
    constructor
    · rintro ⟨h0, hl, h⟩
      refine ⟨by omega, fun i hi hi' => ?_⟩
      cases i with
      | zero => exact h0
      | succ i => exact h i (by omega) (by omega)
    · rintro ⟨hl, h⟩
      exact ⟨h 0 (by omega) (by omega), by omega, fun i hi hi' => h (i + 1) (by omega) (by omega)⟩

/-- Are two trees the same value? -/
def same : (d : Nat) → T d → (e : Nat) → T e → Bool
  | 0, _, _, _ => false
  | _ + 1, _, 0, _ => false
  | d + 1, (k, n, s, l), e + 1, (k', n', s', l') => k == k' && n == n' && s.toList == s'.toList && all2 (fun x y => same d x e y) l l'

/-- A digit at place k, as 64 bits hold it. -/
def digAt (k : Nat) (c : UInt8) : Nat := c.toNat % 128 * 2 ^ (7 * k) % 18446744073709551616
/-- Reading a numeral: k digits are read already, u is their value. -/
def rdNum : Nat → Nat → List UInt8 → Option (Nat × List UInt8)
  | _, _, [] => none
  | k, u, c :: r =>
    if digAt k c / 2 ^ (7 * k) ≠ c.toNat % 128 ∨ (c.toNat = 0 ∧ 0 < k) then none
    else if c.toNat < 128 then some (u ||| digAt k c, r) else rdNum (k + 1) (u ||| digAt k c) r

theorem digAt_lt (k : Nat) (c : UInt8) : digAt k c < 18446744073709551616 := Nat.mod_lt _ (by decide)
theorem or_lt (a b : Nat) (ha : a < 18446744073709551616) (hb : b < 18446744073709551616) : a ||| b < 18446744073709551616 := Nat.or_lt_two_pow (n := 64) ha hb
theorem digAt_far (k : Nat) (c : UInt8) (h : 10 ≤ k) : digAt k c = 0 := by
  unfold digAt
  have : 2 ^ (7 * k) = 18446744073709551616 * 2 ^ (7 * k - 64) := by
    rw [show (18446744073709551616 : Nat) = 2 ^ 64 from by decide, ← Nat.pow_add]; congr 1; omega
  rw [this, ← Nat.mul_assoc, Nat.mul_comm (c.toNat % 128), Nat.mul_assoc]
  exact Nat.mul_mod_right _ _

theorem rdNum_bad1 {k u : Nat} {c : UInt8} {l : List UInt8} (h : digAt k c / 2 ^ (7 * k) ≠ c.toNat % 128) : rdNum k u (c :: l) = none := by
  rw [rdNum, if_pos (.inl h)]
theorem rdNum_bad2 {k u : Nat} {c : UInt8} {l : List UInt8} (h : c.toNat = 0) (hk : 0 < k) : rdNum k u (c :: l) = none := by
  rw [rdNum, if_pos (.inr ⟨h, hk⟩)]
theorem rdNum_last {k u : Nat} {c : UInt8} {l : List UInt8} (h : digAt k c / 2 ^ (7 * k) = c.toNat % 128) (h0 : c.toNat = 0 → k = 0) (hc : c.toNat < 128) : rdNum k u (c :: l) = some (u ||| digAt k c, l) := by
  rw [rdNum, if_neg (by rintro (h1 | ⟨h1, h2⟩); exact h1 h; have := h0 h1; omega), if_pos hc]
theorem rdNum_more {k u : Nat} {c : UInt8} {l : List UInt8} (h : digAt k c / 2 ^ (7 * k) = c.toNat % 128) (hc : ¬ c.toNat < 128) : rdNum k u (c :: l) = rdNum (k + 1) (u ||| digAt k c) l := by
  rw [rdNum, if_neg (by rintro (h1 | ⟨h1, h2⟩); exact h1 h; omega), if_neg hc]

/-- Reading n things, one after the other. -/
def rdMany {α : Type} (f : List UInt8 → Option (α × List UInt8)) : Nat → List UInt8 → Option (List α × List UInt8)
  | 0, bs => some ([], bs)
  | n + 1, bs => match f bs with
    | none => none
    | some (x, r) => match rdMany f n r with
      | none => none
      | some (l, r') => some (x :: l, r')

/-- Reading a value; lst reads what follows the kind of a list. -/
def rdWith {d : Nat} (lst : List UInt8 → Option (List (T d) × List UInt8)) : List UInt8 → Option (T (d + 1) × List UInt8)
  | [] => none
  | c :: r =>
    if c = 1 then (match rdNum 0 0 r with
      | none => none
      | some (u, r') => some ((1, sig u, ⟨#[]⟩, []), r'))
    else if c = 2 then (match rdNum 0 0 r with
      | none => none
      | some (n, r') => if n ≤ r'.length then some ((2, 0, ⟨(r'.take n).toArray⟩, []), r'.drop n) else none)
    else if c = 3 then (match lst r with
      | none => none
      | some (l, r') => some ((3, 0, ⟨#[]⟩, l), r'))
    else none

/-- What follows the kind of a list, at most so deep. -/
def rdList {d : Nat} (f : List UInt8 → Option (T d × List UInt8)) (r : List UInt8) : Option (List (T d) × List UInt8) :=
  match rdNum 0 0 r with
  | none => none
  | some (n, r') => rdMany f n r'

/-- Reading a value, at most so deep. -/
def rdVal : (deep : Nat) → List UInt8 → Option (T (deep + 1) × List UInt8)
  | 0, bs => rdWith (fun _ => none) bs
  | d + 1, bs => rdWith (rdList (rdVal d)) bs

theorem rdNum_less : ∀ (bs : List UInt8) (k u : Nat) (v : Nat) (r : List UInt8), rdNum k u bs = some (v, r) → r.length < bs.length
  | [], _, _, _, _, h => by simp [rdNum] at h
  | c :: l, k, u, v, r, h => by
    rw [rdNum] at h
    split at h
    · simp at h
    · split at h
      · simp at h; rw [← h.2]; simp
      · have := rdNum_less l _ _ _ _ h; simp; omega

theorem rdMany_le {α : Type} {f : List UInt8 → Option (α × List UInt8)} (hf : ∀ bs x r, f bs = some (x, r) → r.length < bs.length) : ∀ (n : Nat) (bs : List UInt8) (l : List α) (r : List UInt8), rdMany f n bs = some (l, r) → r.length + n ≤ bs.length ∧ l.length = n
  | 0, bs, l, r, h => by simp [rdMany] at h; obtain ⟨rfl, rfl⟩ := h; simp
  | n + 1, bs, l, r, h => by
    rw [rdMany] at h
    split at h
    · simp at h
    · rename_i x r1 h1
      split at h
      · simp at h
      · rename_i l1 r2 h2
        simp at h
        obtain ⟨rfl, rfl⟩ := h
        have h3 := hf _ _ _ h1
        have h4 := rdMany_le hf n _ _ _ h2
        simp; omega

theorem rdWith_less {d : Nat} {lst : List UInt8 → Option (List (T d) × List UInt8)} (hl : ∀ r l r', lst r = some (l, r') → r'.length ≤ r.length) (bs : List UInt8) (t : T (d + 1)) (r : List UInt8) (h : rdWith lst bs = some (t, r)) : r.length < bs.length := by
  cases bs with
  | nil => simp [rdWith] at h
  | cons c l =>
    rw [rdWith] at h
    split at h
    · split at h
      · simp at h
      · rename_i u r' h1
        obtain ⟨_, rfl⟩ := Prod.mk.inj (Option.some.inj h)
        have := rdNum_less _ _ _ _ _ h1; simp; omega
    · split at h
      · split at h
        · simp at h
        · rename_i u r' h1
          split at h
          · obtain ⟨_, rfl⟩ := Prod.mk.inj (Option.some.inj h)
            have := rdNum_less _ _ _ _ _ h1; simp; omega
          · simp at h
      · split at h
        · split at h
          · simp at h
          · rename_i u r' h1
            obtain ⟨_, rfl⟩ := Prod.mk.inj (Option.some.inj h)
            have := hl _ _ _ h1; simp; omega
        · simp at h

theorem rdVal_less : ∀ (deep : Nat) (bs : List UInt8) (t : T (deep + 1)) (r : List UInt8), rdVal deep bs = some (t, r) → r.length < bs.length
  | 0, bs, t, r, h => rdWith_less (fun _ _ _ h => by simp at h) bs t r h
  | d + 1, bs, t, r, h => rdWith_less (fun r0 l r' h => by
      unfold rdList at h
      split at h
      · simp at h
      · rename_i n r1 h1
        have h2 := rdNum_less _ _ _ _ _ h1
        have h3 := (rdMany_le (rdVal_less d) _ _ _ _ h).1
        omega) bs t r h

theorem rdMany_succ {α : Type} (f : List UInt8 → Option (α × List UInt8)) (n : Nat) (bs : List UInt8) :
    rdMany f (n + 1) bs = (f bs).bind fun p => (rdMany f n p.2).map fun q => (p.1 :: q.1, q.2) := by
  rw [rdMany]
  cases f bs with
  | none => rfl
  | some p =>
    obtain ⟨x, r⟩ := p
    simp only [Option.bind_some]
    cases rdMany f n r with
    | none => rfl
    | some q => rfl

end M
end Go.Proofs.Ytmhchpdogjbpmaa
