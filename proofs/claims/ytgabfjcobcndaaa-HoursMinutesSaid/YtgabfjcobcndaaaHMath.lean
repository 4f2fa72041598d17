/- Sets of minutes, in numbers. -/
import Derived.Test.YtgabfjcobcndaaaRows
namespace Go.Proofs.Ytgabfjcobcndaaa

namespace M
/-- A span: from, to. -/
abbrev Sp := Int × Int
/-- Is a minute in a list? -/
def mn (l : List Sp) (k : Nat) : Bool := l.any fun s => decide (s.1 ≤ (k : Int)) && decide ((k : Int) < s.2)
theorem mn_nil (k : Nat) : mn [] k = false := rfl
theorem mn_cons (s : Sp) (l : List Sp) (k : Nat) : mn (s :: l) k = ((decide (s.1 ≤ (k : Int)) && decide ((k : Int) < s.2)) || mn l k) := rfl
theorem mn_append (a b : List Sp) (k : Nat) : mn (a ++ b) k = (mn a k || mn b k) := by simp [mn]
theorem mn_one (a b : Int) (k : Nat) : mn [(a, b)] k = (decide (a ≤ (k : Int)) && decide ((k : Int) < b)) := by simp [mn]

/-- The spans that have come to an end before minute i, and where the minutes at hand begin. -/
def st (f : Nat → Bool) : Nat → List Sp × Nat
  | 0 => ([], 0)
  | i + 1 => if f i then st f i else ((st f i).1 ++ (if (st f i).2 < i then [(((st f i).2 : Int), (i : Int))] else []), i + 1)
def tl (f : Nat → Bool) (n : Nat) : List Sp := if (st f n).2 < n then [(((st f n).2 : Int), (n : Int))] else []
/-- The normal list of the minutes below n. -/
def nrm (f : Nat → Bool) (n : Nat) : List Sp := (st f n).1 ++ tl f n
theorem st_yes {f : Nat → Bool} {i : Nat} (h : f i = true) : st f (i + 1) = st f i := by simp [st, h]
theorem st_no {f : Nat → Bool} {i : Nat} (h : f i = false) : st f (i + 1) = (nrm f i, i + 1) := by simp [st, h, nrm, tl]
theorem nrm_zero (f : Nat → Bool) : nrm f 0 = [] := by simp [nrm, st, tl]
theorem st_le (f : Nat → Bool) : ∀ i, (st f i).2 ≤ i
  | 0 => Nat.le_refl _
  | i + 1 => by
    have := st_le f i
    cases h : f i with
    | true => rw [st_yes h]; omega
    | false => rw [st_no h]; exact Nat.le_refl _
theorem st_in (f : Nat → Bool) : ∀ i k, (st f i).2 ≤ k → k < i → f k = true
  | 0, k, _, h => absurd h (by omega)
  | i + 1, k, h1, h2 => by
    cases h : f i with
    | true =>
      rw [st_yes h] at h1
      by_cases hk : k = i
      · rw [hk]; exact h
      · exact st_in f i k h1 (by omega)
    | false => rw [st_no h] at h1; simp at h1; omega
theorem st_cong {f g : Nat → Bool} : ∀ n, (∀ k, k < n → f k = g k) → st f n = st g n
  | 0, _ => rfl
  | i + 1, h => by
    have h1 := st_cong i (fun k hk => h k (by omega))
    simp only [st, h i (by omega), h1]
theorem nrm_cong {f g : Nat → Bool} {n : Nat} (h : ∀ k, k < n → f k = g k) : nrm f n = nrm g n := by
  unfold nrm tl
  rw [st_cong n h]
theorem mn_st (f : Nat → Bool) : ∀ i k, mn (st f i).1 k = (decide (k < (st f i).2) && f k)
  | 0, k => by simp [st, mn]
  | i + 1, k => by
    have h0 := mn_st f i k
    cases h : f i with
    | true => rw [st_yes h]; exact h0
    | false =>
      rw [st_no h]
      simp only [nrm, tl, mn_append, h0]
      have hle := st_le f i
      have hin := st_in f i k
      by_cases hk : k < (st f i).2
      · simp only [hk, decide_true, Bool.true_and]
        have : k < i + 1 := by omega
        simp only [this, decide_true, Bool.true_and]
        split
        · rw [mn_one]; cases f k <;> simp
          omega
        · simp [mn]
      · simp only [hk, decide_false, Bool.false_and, Bool.false_or]
        by_cases hki : k < i
        · have hf := hin (by omega) hki
          have h1 : decide (((st f i).2 : Int) ≤ (k : Int)) = true := by simp; omega
          have h2 : decide ((k : Int) < (i : Int)) = true := by simp; omega
          have h3 : decide (k < i + 1) = true := by simp; omega
          rw [if_pos (by omega), mn_one, hf, h1, h2, h3]
        · by_cases he : k = i
          · subst he
            rw [h]
            split
            · rw [mn_one]; simp
            · simp [mn]
          · have : ¬ k < i + 1 := by omega
            simp only [this, decide_false, Bool.false_and]
            split
            · rw [mn_one]; simp; omega
            · simp [mn]
/-- The minutes of a normal list. -/
theorem mn_nrm (f : Nat → Bool) (n k : Nat) : mn (nrm f n) k = (decide (k < n) && f k) := by
  have h0 := mn_st f n k
  have hle := st_le f n
  have hin := st_in f n k
  simp only [nrm, tl, mn_append, h0]
  by_cases hk : k < (st f n).2
  · have hn : k < n := by omega
    simp only [hk, hn, decide_true, Bool.true_and]
    split
    · rw [mn_one]; cases f k <;> simp
      omega
    · simp [mn]
  · simp only [hk, decide_false, Bool.false_and, Bool.false_or]
    by_cases hkn : k < n
    · have hf := hin (by omega) hkn
      rw [if_pos (by omega), mn_one, hf]
      simp; omega
    · simp only [hkn, decide_false, Bool.false_and]
      split
      · rw [mn_one]; simp; omega
      · simp [mn]
theorem nrm_lt {f : Nat → Bool} {n k : Nat} (h : k < n) : mn (nrm f n) k = f k := by rw [mn_nrm]; simp [h]

/-- One span after the other, with a gap, from 0 to n. -/
def Good : List Sp → Int → Prop
  | [], _ => True
  | s :: r, lo => lo < s.1 ∧ s.1 < s.2 ∧ Good r s.2
theorem good_snoc {a b : Int} : ∀ {l : List Sp} {lo : Int}, Good l lo → (∀ s ∈ l, s.2 < a) → lo < a → a < b → Good (l ++ [(a, b)]) lo
  | [], _, _, _, h1, h2 => ⟨h1, h2, trivial⟩
  | s :: _, _, hg, hs, _, h2 => ⟨hg.1, hg.2.1, good_snoc hg.2.2 (fun t ht => hs t (List.mem_cons_of_mem _ ht)) (hs s List.mem_cons_self) h2⟩
theorem st_good (f : Nat → Bool) : ∀ i, Good (st f i).1 (-1) ∧ (∀ s ∈ (st f i).1, s.2 < ((st f i).2 : Int)) ∧ (st f i).1.length ≤ (st f i).2
  | 0 => ⟨trivial, fun s hs => by simp [st] at hs, Nat.le_refl _⟩
  | i + 1 => by
    obtain ⟨h1, h2, h3⟩ := st_good f i
    have hle := st_le f i
    cases h : f i with
    | true => rw [st_yes h]; exact ⟨h1, h2, h3⟩
    | false =>
      rw [st_no h]
      unfold nrm tl
      split
      · refine ⟨good_snoc h1 h2 (by omega) (by omega), fun s hs => ?_, ?_⟩
        · rcases List.mem_append.1 hs with hs | hs
          · have := h2 s hs; simp only; omega
          · simp at hs; subst hs; simp; omega
        · simp; omega
      · refine ⟨by simpa using h1, fun s hs => ?_, ?_⟩
        · simp at hs; have := h2 s hs; simp only; omega
        · simp; omega
theorem nrm_good (f : Nat → Bool) (n : Nat) : Good (nrm f n) (-1) ∧ (∀ s ∈ nrm f n, s.2 ≤ (n : Int)) ∧ (nrm f n).length ≤ n := by
  obtain ⟨h1, h2, h3⟩ := st_good f n
  have hle := st_le f n
  unfold nrm tl
  split
  · refine ⟨good_snoc h1 h2 (by omega) (by omega), fun s hs => ?_, ?_⟩
    · rcases List.mem_append.1 hs with hs | hs
      · have := h2 s hs; omega
      · simp at hs; subst hs; simp
    · simp; omega
  · refine ⟨by simpa using h1, fun s hs => ?_, ?_⟩
    · simp at hs; have := h2 s hs; omega
    · simp; omega

/-- The normal lists of the day. -/
def N (f : Nat → Bool) : List Sp := nrm f 1440
theorem N_ext {f g : Nat → Bool} (h : ∀ k, k < 1440 → f k = g k) : N f = N g := nrm_cong h
theorem mn_N {f : Nat → Bool} {k : Nat} (h : k < 1440) : mn (N f) k = f k := nrm_lt h
theorem N_len (f : Nat → Bool) : (N f).length ≤ 1440 := (nrm_good f 1440).2.2
def chk (l : List Sp) : Bool := l.all fun s => decide (0 ≤ s.1) && (decide (s.1 < s.2) && decide (s.2 ≤ 1440))

/-- What Check says. -/
def err (l : List Sp) : Int := if chk l then 0 else 50

/-- The reference's way: the last span grows, or a new one begins. -/
theorem nrm_yes {f : Nat → Bool} {m : Nat} (h : f m = true) : nrm f (m + 1) = (st f m).1 ++ [(((st f m).2 : Int), ((m + 1 : Nat) : Int))] := by
  have := st_le f m
  rw [nrm, tl, st_yes h, if_pos (by omega)]
theorem nrm_no {f : Nat → Bool} {m : Nat} (h : f m = false) : nrm f (m + 1) = nrm f m := by
  rw [nrm, tl, st_no h]; simp
theorem nrm_pos {f : Nat → Bool} {m : Nat} (h : (st f m).2 < m) : nrm f m = (st f m).1 ++ [(((st f m).2 : Int), (m : Int))] := by rw [nrm, tl, if_pos h]
theorem nrm_eq {f : Nat → Bool} {m : Nat} (h : ¬ (st f m).2 < m) : nrm f m = (st f m).1 := by rw [nrm, tl, if_neg h]; simp

theorem st_prefix (f : Nat → Bool) (i : Nat) : ∀ d, (st f i).1 <+: (st f (i + d)).1
  | 0 => List.prefix_refl _
  | d + 1 => by
    refine (st_prefix f i d).trans ?_
    rw [← Nat.add_assoc]
    cases h : f (i + d) with
    | true => rw [st_yes h]; exact List.prefix_refl _
    | false => rw [st_no h]; exact ⟨_, rfl⟩
theorem nrm_prefix {f : Nat → Bool} {k n : Nat} (h : f k = false) (hk : k < n) : nrm f k <+: nrm f n := by
  have h1 := st_prefix f (k + 1) (n - (k + 1))
  rw [st_no h, Nat.add_sub_cancel' (by omega)] at h1
  exact h1.trans ⟨_, rfl⟩

/-- Where spans begin and end, in the day. -/
def cl (x : Int) : Nat := (min (max x 0) 1440).toNat
theorem cl_le (x : Int) : cl x ≤ 1440 := by unfold cl; omega
theorem cl_iff {x : Int} {k : Nat} (h : k < 1440) : cl x ≤ k ↔ x ≤ (k : Int) := by unfold cl; omega
/-- What a span changes at a minute. -/
def dl (s : Sp) (j : Nat) : Int := if s.1 < s.2 then (if cl s.1 = j then 1 else 0) - (if cl s.2 = j then 1 else 0) else 0
def chg : List Sp → Nat → Int
  | [], _ => 0
  | s :: l, j => dl s j + chg l j
theorem chg_snoc (l : List Sp) (s : Sp) (j : Nat) : chg (l ++ [s]) j = chg l j + dl s j := by
  induction l with
  | nil => simp [chg]
  | cons t l ih => simp only [List.cons_append, chg, ih]; omega
def pre (C : Nat → Int) : Nat → Int
  | 0 => 0
  | i + 1 => pre C i + C i
theorem pre_add (C D : Nat → Int) : ∀ n, pre (fun j => C j + D j) n = pre C n + pre D n
  | 0 => rfl
  | n + 1 => by simp only [pre, pre_add C D n]; omega
theorem pre_zero : ∀ n, pre (fun _ => 0) n = 0
  | 0 => rfl
  | n + 1 => by simp only [pre, pre_zero n]; omega
theorem pre_one (a : Nat) : ∀ n, pre (fun j => if a = j then 1 else 0) n = if a < n then 1 else 0
  | 0 => rfl
  | n + 1 => by
    simp only [pre, pre_one a n]
    by_cases h1 : a < n
    · rw [if_pos h1, if_neg (by omega), if_pos (by omega)]; omega
    · by_cases h2 : a = n
      · rw [if_neg h1, if_pos h2, if_pos (by omega)]; omega
      · rw [if_neg h1, if_neg h2, if_neg (by omega)]; omega
theorem pre_sub (C D : Nat → Int) : ∀ n, pre (fun j => C j - D j) n = pre C n - pre D n
  | 0 => rfl
  | n + 1 => by simp only [pre, pre_sub C D n]; omega
theorem pre_dl (s : Sp) (k : Nat) (hk : k < 1440) : pre (dl s) (k + 1) = if s.1 ≤ (k : Int) ∧ (k : Int) < s.2 then 1 else 0 := by
  unfold dl
  have c1 := @cl_iff s.1 k hk
  have c2 := @cl_iff s.2 k hk
  by_cases h : s.1 < s.2
  · simp only [h, if_true]
    rw [pre_sub, pre_one, pre_one]
    by_cases h1 : s.1 ≤ (k : Int) <;> by_cases h2 : (k : Int) < s.2
    · rw [if_pos (by have := c1.2 h1; omega), if_neg (by intro hh; have := c2.1 (by omega); omega), if_pos ⟨h1, h2⟩]; rfl
    · rw [if_pos (by have := c1.2 h1; omega), if_pos (by have := c2.2 (by omega); omega), if_neg (by omega)]; rfl
    · rw [if_neg (by intro hh; have := c1.1 (by omega); omega), if_neg (by intro hh; have := c2.1 (by omega); omega), if_neg (by omega)]; rfl
    · omega
  · simp only [h, if_false]
    rw [pre_zero, if_neg (by omega)]
/-- In how many spans a minute is. -/
def cnt (l : List Sp) (k : Nat) : Nat := (l.filter fun s => decide (s.1 ≤ (k : Int)) && decide ((k : Int) < s.2)).length
theorem cnt_le (l : List Sp) (k : Nat) : cnt l k ≤ l.length := List.length_filter_le _ _
theorem pre_chg (k : Nat) (hk : k < 1440) : ∀ l, pre (chg l) (k + 1) = cnt l k
  | [] => by simp only [chg, cnt]; exact pre_zero _
  | s :: l => by
    have h1 : pre (chg (s :: l)) (k + 1) = pre (dl s) (k + 1) + pre (chg l) (k + 1) := pre_add (dl s) (chg l) (k + 1)
    rw [h1, pre_chg k hk l, pre_dl s k hk]
    unfold cnt
    by_cases h : s.1 ≤ (k : Int) ∧ (k : Int) < s.2
    · rw [if_pos h, List.filter_cons_of_pos (by simp [h.1, h.2])]; simp; omega
    · rw [if_neg h, List.filter_cons_of_neg (by simp; omega)]; simp
theorem cnt_pos (l : List Sp) (k : Nat) : decide (0 < ((cnt l k : Nat) : Int)) = mn l k := by
  have h : mn l k = true ↔ 0 < cnt l k := by
    unfold mn cnt
    rw [List.any_eq_true, List.length_pos_iff_exists_mem]
    constructor
    · rintro ⟨s, h1, h2⟩; exact ⟨s, List.mem_filter.2 ⟨h1, h2⟩⟩
    · rintro ⟨s, h⟩; obtain ⟨h1, h2⟩ := List.mem_filter.1 h; exact ⟨s, h1, h2⟩
  cases hm : mn l k with
  | true => have := h.1 hm; simp; omega
  | false =>
    have : ¬ 0 < cnt l k := fun hh => by rw [h.2 hh] at hm; cases hm
    simp; omega
/-- The first of the two stores. -/
def up (C : Nat → Int) (j : Nat) (d : Int) (k : Nat) : Int := if k = j then C k + d else C k
theorem chg_up (l : List Sp) (s : Sp) (h : s.1 < s.2) (k : Nat) : up (up (chg l) (cl s.1) 1) (cl s.2) (-1) k = chg (l ++ [s]) k := by
  rw [chg_snoc]
  unfold up dl
  simp only [h, if_true]
  by_cases h1 : k = cl s.1 <;> by_cases h2 : k = cl s.2
  · rw [if_pos h2, if_pos h1, if_pos h1.symm, if_pos h2.symm]; omega
  · rw [if_neg h2, if_pos h1, if_pos h1.symm, if_neg (fun e => h2 e.symm)]; omega
  · rw [if_pos h2, if_neg h1, if_neg (fun e => h1 e.symm), if_pos h2.symm]; omega
  · rw [if_neg h2, if_neg h1, if_neg (fun e => h1 e.symm), if_neg (fun e => h2 e.symm)]; omega
theorem chg_none (l : List Sp) (s : Sp) (h : ¬ s.1 < s.2) (k : Nat) : chg (l ++ [s]) k = chg l k := by
  rw [chg_snoc]; unfold dl; simp [h]
theorem chg_bound (l : List Sp) (k : Nat) : -(l.length : Int) ≤ chg l k ∧ chg l k ≤ (l.length : Int) := by
  induction l with
  | nil => simp [chg]
  | cons s l ih =>
    have : -1 ≤ dl s k ∧ dl s k ≤ 1 := by unfold dl; split <;> (try split) <;> (try split) <;> omega
    simp only [chg, List.length_cons]; omega

/-- The whole span is in the set. -/
def cov (l : List Sp) (a b : Int) : Bool := decide (a ≥ b) || (N (mn l)).any fun s => decide (s.1 ≤ a) && decide (b ≤ s.2)
end M
end Go.Proofs.Ytgabfjcobcndaaa
