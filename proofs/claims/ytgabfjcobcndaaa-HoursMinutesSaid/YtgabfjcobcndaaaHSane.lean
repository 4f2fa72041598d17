/- The laws' examples hold. -/
import Derived.Test.YtgabfjcobcndaaaHSpans
namespace Go.Proofs.Ytgabfjcobcndaaa
open Go.RowKit

namespace M
theorem st_out {f : Nat → Bool} {Y : List Sp} {i : Nat} (h0 : st f i = (Y, i)) : ∀ d, (∀ k, i ≤ k → k < i + d → f k = false) → st f (i + d) = (Y, i + d)
  | 0, _ => h0
  | d + 1, h => by
    have h1 := st_out h0 d (fun k a b => h k a (by omega))
    rw [← Nat.add_assoc, st_no (h (i + d) (by omega) (by omega)), nrm_eq (by rw [h1]; simp), h1]
theorem st_run {f : Nat → Bool} {i : Nat} : ∀ d, (∀ k, i ≤ k → k < i + d → f k = true) → st f (i + d) = st f i
  | 0, _ => rfl
  | d + 1, h => by
    rw [← Nat.add_assoc, st_yes (h (i + d) (by omega) (by omega)), st_run d (fun k a b => h k a (by omega))]
theorem N_none {f : Nat → Bool} (h : ∀ k, k < 1440 → f k = false) : N f = [] := by
  have h1 := st_out (f := f) (Y := []) (i := 0) rfl 1440 (fun k _ hk => h k (by omega))
  unfold N
  rw [nrm_eq (by rw [h1]; simp), h1]
theorem N_run {f : Nat → Bool} {a b : Nat} (hab : a < b) (hb : b ≤ 1440) (h : ∀ k, k < 1440 → f k = (decide (a ≤ k) && decide (k < b))) : N f = [((a : Int), (b : Int))] := by
  have no : ∀ k, k < 1440 → (k < a ∨ b ≤ k) → f k = false := fun k h1 h2 => by
    rw [h k h1]
    rcases h2 with h2 | h2
    · have : decide (a ≤ k) = false := by simp; omega
      rw [this]; rfl
    · have : decide (k < b) = false := by simp; omega
      rw [this]; simp
  have yes : ∀ k, a ≤ k → k < b → f k = true := fun k h1 h2 => by
    rw [h k (by omega)]; simp [h1, h2]
  have h1 := st_out (f := f) (Y := []) (i := 0) rfl a (fun k _ hk => no k (by omega) (.inl (by omega)))
  rw [Nat.zero_add] at h1
  have h2 := st_run (f := f) (i := a) (b - a) (fun k x y => yes k x (by omega))
  rw [Nat.add_sub_cancel' (by omega), h1] at h2
  have h3 : nrm f b = [((a : Int), (b : Int))] := by rw [nrm_pos (by rw [h2]; exact hab), h2]; rfl
  unfold N
  by_cases hb2 : b = 1440
  · rw [← hb2]; exact h3
  · have h4 := st_no (no b (by omega) (.inr (by omega)))
    rw [h3] at h4
    have h5 := st_out h4 (1440 - (b + 1)) (fun k x y => no k (by omega) (.inr (by omega)))
    rw [Nat.add_sub_cancel' (by omega)] at h5
    rw [nrm_eq (by rw [h5]; simp), h5]
end M

theorem normal_to {l l' : List M.Sp} {v : Value} {w : World} (h : SL w v l) (e : M.N (M.mn l) = l') : Calls Try.prog 14 #[v] w (Hands w l') := e ▸ normal_any h
theorem union_to {la lb l' : List M.Sp} {va vb : Value} {w : World} (ha : SL w va la) (hb : SL w vb lb) (e : M.N (fun m => M.mn la m || M.mn lb m) = l') : Calls Try.prog 16 #[va, vb] w (Hands w l') := e ▸ union_any ha hb
theorem meet_to {la lb l' : List M.Sp} {va vb : Value} {w : World} (ha : SL w va la) (hb : SL w vb lb) (e : M.N (fun m => M.mn la m && M.mn lb m) = l') : Calls Try.prog 18 #[va, vb] w (Hands w l') := e ▸ meet_any ha hb
theorem minus_to {la lb l' : List M.Sp} {va vb : Value} {w : World} (ha : SL w va la) (hb : SL w vb lb) (e : M.N (fun m => M.mn la m && !M.mn lb m) = l') : Calls Try.prog 20 #[va, vb] w (Hands w l') := e ▸ minus_any ha hb
theorem same_yes {la lb : List M.Sp} {va vb : Value} {w : World} (ha : SL w va la) (hb : SL w vb lb) (e : la = lb) :
    Calls Try.prog 13 #[va, vb] w fun e w' => e = .returned (.bool true) ∧ Below w.heap.size w w' := by
  have h := same_any ha hb
  rw [decide_eq_true e] at h
  exact h
theorem check_to {l : List M.Sp} {v : Value} {w : World} (h : SL w v l) (z : Int) (e : M.err l = z) : Calls Try.prog 11 #[v] w fun e w' => e = .returned (.int .i64 z) ∧ Below w.heap.size w w' := e ▸ check_any h
theorem has_to {l : List M.Sp} {v : Value} {w : World} (h : SL w v l) (m : Int) (b : Bool) (e : M.has l m = b) : Calls Try.prog 22 #[v, .int .i64 m] w fun e w' => e = .returned (.bool b) ∧ Below w.heap.size w w' := e ▸ has_any h m
theorem covers_to {l : List M.Sp} {v : Value} {w : World} (h : SL w v l) (a b : Int) (c : Bool) (e : M.cov l a b = c) : Calls Try.prog 23 #[v, .agg #[.int .i64 a, .int .i64 b]] w fun e w' => e = .returned (.bool c) ∧ Below w.heap.size w w' := e ▸ covers_any h a b

theorem below_pre {w w1 w2 : World} {o : Obj} (hw : w1 = w.alloc o) (hb : Below w1.heap.size w1 w2) : Below w.heap.size w w2 := by
  subst hw
  exact (((Below.refl w.heap.size w).alloc (Nat.le_refl _) o)).trans (hb.mono (by simp))
theorem spans2 (a b : Int) (w : World) : Calls Try.prog 24 #[.slice (some ⟨w.heap.size, 0, none⟩) 2 2] (w.alloc (.cells #[.int .i64 a, .int .i64 b] 3)) (Hands w [(a, b)]) := by
  have h := heap_alloc_new w (.cells #[.int .i64 a, .int .i64 b] 3)
  refine (spans_any [(a, b)] w.heap.size 0 2 _ (by simp) (fun i hi => ?_) (by simp)).mono ?_
  · have : i = 0 := by simp at hi; omega
    subst this
    exact ⟨by rw [cell_of_row _ _ _ _ _ _ h]; rfl, by rw [cell_of_row _ _ _ _ _ _ h]; rfl⟩
  · rintro e w' ⟨v, rfl, h1, h2⟩
    exact ⟨v, rfl, h1, below_pre rfl h2⟩
theorem spans4 (a b c d : Int) (w : World) : Calls Try.prog 24 #[.slice (some ⟨w.heap.size, 0, none⟩) 4 4] (w.alloc (.cells #[.int .i64 a, .int .i64 b, .int .i64 c, .int .i64 d] 3)) (Hands w [(a, b), (c, d)]) := by
  have h := heap_alloc_new w (.cells #[.int .i64 a, .int .i64 b, .int .i64 c, .int .i64 d] 3)
  refine (spans_any [(a, b), (c, d)] w.heap.size 0 4 _ (by simp) (fun i hi => ?_) (by simp)).mono ?_
  · have : i = 0 ∨ i = 1 := by simp at hi; omega
    rcases this with rfl | rfl
    · exact ⟨by rw [cell_of_row _ _ _ _ _ _ h]; rfl, by rw [cell_of_row _ _ _ _ _ _ h]; rfl⟩
    · exact ⟨by rw [cell_of_row _ _ _ _ _ _ h]; rfl, by rw [cell_of_row _ _ _ _ _ _ h]; rfl⟩
  · rintro e w' ⟨v, rfl, h1, h2⟩
    exact ⟨v, rfl, h1, below_pre rfl h2⟩

theorem bool_of {p q : Bool} (h : p = true ↔ q = true) : p = q := by
  cases p <;> cases q <;> simp_all
theorem ex1 : M.N (M.mn [(10, 20), (15, 30)]) = [(10, 30)] := M.N_run (a := 10) (b := 30) (by decide) (by decide) (fun k _ => bool_of (by simp [M.mn]; omega))
theorem ex2 : M.N (M.mn [(-5, 2000)]) = [(0, 1440)] := M.N_run (a := 0) (b := 1440) (by decide) (by decide) (fun k _ => bool_of (by simp [M.mn]; omega))
theorem ex3 : M.N (M.mn [(5, 5)]) = [] := M.N_none (fun k _ => by simp [M.mn])
theorem ex4 : M.N (fun m => M.mn [(0, 1440)] m && !M.mn [(0, 10)] m) = [(10, 1440)] := M.N_run (a := 10) (b := 1440) (by decide) (by decide) (fun k _ => bool_of (by simp [M.mn]; omega))
theorem ex5 : M.N (fun m => M.mn [(3, 4)] m || M.mn [(4, 5)] m) = [(3, 5)] := M.N_run (a := 3) (b := 5) (by decide) (by decide) (fun k _ => bool_of (by simp [M.mn]; omega))
theorem ex6 : M.N (fun m => M.mn [(3, 9)] m && M.mn [(5, 12)] m) = [(5, 9)] := M.N_run (a := 5) (b := 9) (by decide) (by decide) (fun k _ => bool_of (by simp [M.mn]; omega))
theorem ex7 : M.cov [(0, 10), (10, 20)] 5 15 = true := by
  have h : M.N (M.mn [(0, 10), (10, 20)]) = [(0, 20)] := M.N_run (a := 0) (b := 20) (by decide) (by decide) (fun k _ => bool_of (by simp [M.mn]; omega))
  rw [M.cov_eq, h]; decide
theorem ex8 : M.cov [] 7 7 = true := by rw [M.cov_eq]; rfl
theorem ex9 : M.cov [(0, 1440)] 1439 1441 = false := by
  have h : M.N (M.mn [(0, 1440)]) = [(0, 1440)] := M.N_run (a := 0) (b := 1440) (by decide) (by decide) (fun k _ => bool_of (by simp [M.mn]; omega))
  rw [M.cov_eq, h]; decide
theorem ex10 : M.has [(0, 1440)] 1439 = true := by decide
theorem ex11 : M.has [(0, 1440)] 1440 = false := by decide
theorem ex12 : M.err [(0, 0)] = 50 := by decide
theorem ex13 : M.err [(0, 1440)] = 0 := by decide

set_option maxRecDepth 100000 in
set_option maxHeartbeats 4000000 in
theorem sane_any (w : World) : Calls Try.prog 9 #[] w fun e w' => e = .returned (.bool true) ∧ Below w.heap.size w w' := by
  go_enter Try.func9, Try.ntmps9
  go_wp2_with fail
  refine (spans2 0 1440 w).mono ?_
  rintro e w0 ⟨v0, rfl, hd0, hb0⟩
  have HD := Lib.hid (And.intro hd0 hb0)
  clear hd0 hb0
  go_wp2_with (first
      | (go_at_call 24; (with_reducible refine (spans2 _ _ _).mono ?_); rintro e w1 ⟨v1, rfl, hs, hb⟩; have HD := Lib.hid (And.intro (HD.out.1.kept hb) (HD.out.2.trans (hb.mono HD.out.2.size))); (try have X1 := Lib.hid (X2.out.kept hb)); have X2 := Lib.hid hs; clear hb hs)
      | (go_at_call 24; (with_reducible refine (spans4 _ _ _ _ _).mono ?_); rintro e w1 ⟨v1, rfl, hs, hb⟩; have HD := Lib.hid (And.intro (HD.out.1.kept hb) (HD.out.2.trans (hb.mono HD.out.2.size))); (try have X1 := Lib.hid (X2.out.kept hb)); have X2 := Lib.hid hs; clear hb hs)
      | (go_at_call 14; (with_reducible refine (normal_to X2.out ex1).mono ?_); rintro e w1 ⟨v1, rfl, hs, hb⟩; have HD := Lib.hid (And.intro (HD.out.1.kept hb) (HD.out.2.trans (hb.mono HD.out.2.size))); (try have X1 := Lib.hid (X2.out.kept hb)); have X2 := Lib.hid hs; clear hb hs)
      | (go_at_call 14; (with_reducible refine (normal_to X2.out ex2).mono ?_); rintro e w1 ⟨v1, rfl, hs, hb⟩; have HD := Lib.hid (And.intro (HD.out.1.kept hb) (HD.out.2.trans (hb.mono HD.out.2.size))); (try have X1 := Lib.hid (X2.out.kept hb)); have X2 := Lib.hid hs; clear hb hs)
      | (go_at_call 14; (with_reducible refine (normal_to X2.out ex3).mono ?_); rintro e w1 ⟨v1, rfl, ⟨a1, c1, rfl, hs, _⟩, hb⟩; have HD := Lib.hid (And.intro (HD.out.1.kept hb) (HD.out.2.trans (hb.mono HD.out.2.size))); clear hb)
      | (go_at_call 13; (with_reducible refine (same_yes X1.out X2.out rfl).mono ?_); rintro e w1 ⟨rfl, hb⟩; have HD := Lib.hid (And.intro (HD.out.1.kept hb) (HD.out.2.trans (hb.mono HD.out.2.size))); clear hb)
      | (go_at_call 13; (with_reducible refine (same_yes X2.out HD.out.1 rfl).mono ?_); rintro e w1 ⟨rfl, hb⟩; have HD := Lib.hid (And.intro (HD.out.1.kept hb) (HD.out.2.trans (hb.mono HD.out.2.size))); clear hb)
      | (go_at_call 20; (with_reducible refine (minus_to HD.out.1 X2.out ex4).mono ?_); rintro e w1 ⟨v1, rfl, hs, hb⟩; have HD := Lib.hid (And.intro (HD.out.1.kept hb) (HD.out.2.trans (hb.mono HD.out.2.size))); (try have X1 := Lib.hid (X2.out.kept hb)); have X2 := Lib.hid hs; clear hb hs)
      | (go_at_call 16; (with_reducible refine (union_to X1.out X2.out ex5).mono ?_); rintro e w1 ⟨v1, rfl, hs, hb⟩; have HD := Lib.hid (And.intro (HD.out.1.kept hb) (HD.out.2.trans (hb.mono HD.out.2.size))); (try have X1 := Lib.hid (X2.out.kept hb)); have X2 := Lib.hid hs; clear hb hs)
      | (go_at_call 18; (with_reducible refine (meet_to X1.out X2.out ex6).mono ?_); rintro e w1 ⟨v1, rfl, hs, hb⟩; have HD := Lib.hid (And.intro (HD.out.1.kept hb) (HD.out.2.trans (hb.mono HD.out.2.size))); (try have X1 := Lib.hid (X2.out.kept hb)); have X2 := Lib.hid hs; clear hb hs)
      | (go_at_call 23; (with_reducible refine (covers_to X2.out 5 15 true ex7).mono ?_); rintro e w1 ⟨rfl, hb⟩; have HD := Lib.hid (And.intro (HD.out.1.kept hb) (HD.out.2.trans (hb.mono HD.out.2.size))); clear hb)
      | (go_at_call 23; (with_reducible refine (covers_to (SL.nil _) 7 7 true ex8).mono ?_); rintro e w1 ⟨rfl, hb⟩; have HD := Lib.hid (And.intro (HD.out.1.kept hb) (HD.out.2.trans (hb.mono HD.out.2.size))); clear hb)
      | (go_at_call 23; (with_reducible refine (covers_to HD.out.1 1439 1441 false ex9).mono ?_); rintro e w1 ⟨rfl, hb⟩; have HD := Lib.hid (And.intro (HD.out.1.kept hb) (HD.out.2.trans (hb.mono HD.out.2.size))); clear hb)
      | (go_at_call 22; (with_reducible refine (has_to HD.out.1 1439 true ex10).mono ?_); rintro e w1 ⟨rfl, hb⟩; have HD := Lib.hid (And.intro (HD.out.1.kept hb) (HD.out.2.trans (hb.mono HD.out.2.size))); clear hb)
      | (go_at_call 22; (with_reducible refine (has_to HD.out.1 1440 false ex11).mono ?_); rintro e w1 ⟨rfl, hb⟩; have HD := Lib.hid (And.intro (HD.out.1.kept hb) (HD.out.2.trans (hb.mono HD.out.2.size))); clear hb)
      | (go_at_call 11; (with_reducible refine (check_to X2.out 50 ex12).mono ?_); rintro e w1 ⟨rfl, hb⟩; have HD := Lib.hid (And.intro (HD.out.1.kept hb) (HD.out.2.trans (hb.mono HD.out.2.size))); clear hb)
      | (go_at_call 11; (with_reducible refine (check_to HD.out.1 0 ex13).mono ?_); rintro e w1 ⟨rfl, hb⟩; have HD := Lib.hid (And.intro (HD.out.1.kept hb) (HD.out.2.trans (hb.mono HD.out.2.size))); clear hb))
  go_ret
  exact ⟨rfl, HD.out.2⟩

end Go.Proofs.Ytgabfjcobcndaaa
