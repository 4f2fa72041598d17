/- The plain mathematics of 'few': how many parts a value has. Nothing here speaks of the program. -/
import Derived.Test.YtmhchpdogjbpmaaMath
namespace Go.Proofs.Ytmhchpdogjbpmaa
namespace M

/-- Adding up, up to a limit. -/
def cntL {α : Type} (f : α → Nat) : Nat → List α → Nat
  | n, [] => n
  | n, x :: xs => if n ≤ 1000 then cntL f (n + f x) xs else n

/-- The parts of a tree, at most so deep (0: too deep). -/
def cnt : (d : Nat) → T d → Nat → Nat
  | 0, _, _ => 0
  | _ + 1, _, 0 => 1000
  | d + 1, (_, _, s, l), dep + 1 => if 150 < l.length then 1000 else cntL (fun x => cnt d x dep) (1 + s.size / 200) l

theorem cntL_stop {α : Type} (f : α → Nat) (n : Nat) (l : List α) (h : 1000 < n) : cntL f n l = n := by
  cases l with
  | nil => rfl
  | cons x xs => rw [cntL, if_neg (by omega)]
theorem cntL_ge {α : Type} (f : α → Nat) : ∀ (l : List α) (n : Nat), n ≤ cntL f n l
  | [], n => Nat.le_refl _
  | x :: xs, n => by
    rw [cntL]; split
    · exact Nat.le_trans (Nat.le_add_right n (f x)) (cntL_ge f xs _)
    · exact Nat.le_refl _
theorem cntL_le {α : Type} (f : α → Nat) (B : Nat) : ∀ (l : List α) (n : Nat), (∀ x ∈ l, f x ≤ B) → cntL f n l ≤ max n (1000 + B)
  | [], n, _ => by rw [cntL]; omega
  | x :: xs, n, h => by
    rw [cntL]; split
    · have h1 := cntL_le f B xs (n + f x) (fun y hy => h y (List.mem_cons_of_mem _ hy))
      have h2 := h x (List.mem_cons_self ..)
      omega
    · omega
/-- Without the limit it is a sum. -/
theorem cntL_sum {α : Type} (f : α → Nat) : ∀ (l : List α) (n : Nat), cntL f n l ≤ 1000 → cntL f n l = n + (l.map f).sum
  | [], n, _ => by simp [cntL]
  | x :: xs, n, h => by
    rw [cntL] at h ⊢
    split at h
    · rename_i hn
      rw [if_pos hn, cntL_sum f xs _ h, List.map_cons, List.sum_cons]; omega
    · omega

theorem num_len' (u : Nat) : (num u).length ≤ 11 := by
  have g : ∀ f u, (numF f u).length ≤ f + 1 := by
    intro f
    induction f with
    | zero => intro u; simp [numF]
    | succ f ih => intro u; rw [numF]; split; simp; have := ih (u / 128); simp only [List.length_cons]; omega
  exact g 10 u
theorem mem_le_sum {α : Type} (f : α → Nat) : ∀ (l : List α) (x : α), x ∈ l → f x ≤ (l.map f).sum
  | y :: l, x, h => by
    rw [List.map_cons, List.sum_cons]
    rcases List.mem_cons.1 h with rfl | h
    · omega
    · have := mem_le_sum f l x h; omega
theorem lmax_le {l : List Nat} {b : Nat} (h : ∀ x ∈ l, x ≤ b) : lmax l ≤ b := by
  induction l with
  | nil => simp [lmax]
  | cons x xs ih => rw [lmax_cons]; have := h x (List.mem_cons_self ..); have := ih (fun y hy => h y (List.mem_cons_of_mem _ hy)); omega
theorem flat_le {α : Type} (f : α → List UInt8) (g : α → Nat) : ∀ (l : List α), (∀ x ∈ l, (f x).length ≤ 220 * g x) → (l.map f).flatten.length ≤ 220 * (l.map g).sum
  | [], _ => by simp
  | x :: xs, h => by
    have h1 := h x (List.mem_cons_self ..)
    have h2 := flat_le f g xs (fun y hy => h y (List.mem_cons_of_mem _ hy))
    simp only [List.map_cons, List.flatten_cons, List.length_append, List.sum_cons]; omega

/-- A value with few parts is not deep, and its encoding is short. -/
theorem cnt_small : ∀ (d : Nat) (t : T d) (dep : Nat), cnt d t dep ≤ 200 → height d t ≤ dep ∧ (enc d t).length ≤ 220 * cnt d t dep
  | 0, t, _, _ => t.elim
  | d + 1, (k, n, s, l), 0, h => by simp [cnt] at h
  | d + 1, (k, n, s, l), dep + 1, h => by
    rw [cnt] at h ⊢
    split at h
    · omega
    · rename_i hl
      rw [if_neg hl]
      have hs := cntL_sum _ l _ (by omega : cntL (fun x => cnt d x dep) (1 + s.size / 200) l ≤ 1000)
      rw [hs] at h ⊢
      have hx : ∀ x ∈ l, height d x ≤ dep ∧ (enc d x).length ≤ 220 * cnt d x dep := fun x hx => by
        have := mem_le_sum (fun x => cnt d x dep) l x hx
        exact cnt_small d x dep (by omega)
      have hh : lmax (l.map (height d)) ≤ dep := lmax_le (fun y hy => by
        obtain ⟨x, hxl, rfl⟩ := List.mem_map.1 hy
        exact (hx x hxl).1)
      have hf := flat_le (enc d) (fun x => cnt d x dep) l (fun x hxl => (hx x hxl).2)
      refine ⟨by simp only [height]; omega, ?_⟩
      have hn := fun u : Nat => num_len' u
      have h1 := hn (unsig n).toNat; have h2 := hn s.size; have h3 := hn l.length
      have hsl : s.data.toList.length = s.size := by simp
      simp only [enc]
      split
      · simp only [List.length_cons]; omega
      · split
        · simp only [List.length_cons, List.length_append]; omega
        · simp only [List.length_cons, List.length_append]; omega

end M
end Go.Proofs.Ytmhchpdogjbpmaa
