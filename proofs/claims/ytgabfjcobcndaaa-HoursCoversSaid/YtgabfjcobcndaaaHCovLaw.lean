/- The walk of HoursCovers. -/
import Derived.Test.YtgabfjcobcndaaaHAlg
namespace Go.Proofs.Ytgabfjcobcndaaa
open Go.RowKit

namespace M
theorem st_span {f : Nat → Bool} {b z : Nat} (h0 : (st f b).2 = z) (hz : z < b) : ∀ d, (st f (b + d)).2 = z ∨ ∃ e : Nat, b ≤ e ∧ ((z : Int), (e : Int)) ∈ (st f (b + d)).1
  | 0 => .inl h0
  | d + 1 => by
    rw [← Nat.add_assoc]
    cases h : f (b + d) with
    | true => rw [st_yes h]; exact st_span h0 hz d
    | false =>
      rw [st_no h]
      right
      rcases st_span h0 hz d with h1 | ⟨e, h1, h2⟩
      · refine ⟨b + d, by omega, ?_⟩
        rw [nrm, tl, h1, if_pos (by omega)]
        exact List.mem_append_right _ (List.mem_singleton.2 rfl)
      · exact ⟨e, h1, List.mem_append_left _ h2⟩
theorem N_span {f : Nat → Bool} {b z : Nat} (h0 : (st f b).2 = z) (hz : z < b) (hb : b ≤ 1440) : ∃ e : Nat, b ≤ e ∧ ((z : Int), (e : Int)) ∈ N f := by
  have h := st_span h0 hz (1440 - b)
  rw [Nat.add_sub_cancel' hb] at h
  rcases h with h1 | ⟨e, h1, h2⟩
  · refine ⟨1440, hb, ?_⟩
    rw [N, nrm, tl, h1, if_pos (by omega)]
    exact List.mem_append_right _ (List.mem_singleton.2 rfl)
  · exact ⟨e, h1, List.mem_append_left _ h2⟩
theorem cov_iff {l : List Sp} {a b : Nat} (hab : a < b) (hb : b ≤ 1440) : cov l a b = true ↔ ∀ k, a ≤ k → k < b → mn l k = true := by
  have hd : decide ((a : Int) ≥ (b : Int)) = false := by simp; omega
  rw [cov, hd, Bool.false_or, List.any_eq_true]
  constructor
  · rintro ⟨x, hx, h⟩ k h1 h2
    simp only [Bool.and_eq_true, decide_eq_true_eq] at h
    rw [← mn_N (f := mn l) (show k < 1440 by omega)]
    refine List.any_eq_true.2 ⟨x, hx, ?_⟩
    simp only [Bool.and_eq_true, decide_eq_true_eq]
    omega
  · intro h
    have h1 := st_run (f := mn l) (i := a) (b - a) (fun k x y => h k x (by omega))
    rw [Nat.add_sub_cancel' (by omega)] at h1
    have h2 := st_le (mn l) a
    obtain ⟨e, he, hm⟩ := N_span (f := mn l) (b := b) (z := (st (mn l) a).2) (by rw [h1]) (by omega) hb
    refine ⟨_, hm, ?_⟩
    simp only [Bool.and_eq_true, decide_eq_true_eq]
    omega
theorem cov_empty {l : List Sp} {a b : Int} (h : b ≤ a) : cov l a b = true := by
  have hd : decide (a ≥ b) = true := by simpa using h
  rw [cov, hd]; rfl
theorem cov_far {l : List Sp} {a b : Int} (h : a < b) (h2 : 1440 < b) : cov l a b = false := by
  have hd : decide (a ≥ b) = false := by simpa using h
  rw [cov, hd, Bool.false_or, List.any_eq_false]
  intro x hx hc
  simp only [Bool.and_eq_true, decide_eq_true_eq] at hc
  have := (nrm_good (mn l) 1440).2.1 x hx
  omega
theorem N_eq_nil {f : Nat → Bool} : N f = [] ↔ ∀ k, k < 1440 → f k = false := by
  constructor
  · intro h k hk
    rw [← mn_N (f := f) hk, h]; rfl
  · exact N_none
theorem cov_D {l : List Sp} {a b : Nat} (hab : a < b) (hb : b ≤ 1440) : (((D [((a : Int), (b : Int))] l).length : Int) == 0) = cov l a b := by
  refine bool_of ?_
  rw [cov_iff hab hb, beq_iff_eq]
  have h0 : (((D [((a : Int), (b : Int))] l).length : Int) = 0) ↔ D [((a : Int), (b : Int))] l = [] := by
    rw [← List.length_eq_zero_iff]; omega
  rw [h0, D, N_eq_nil]
  constructor
  · intro h k h1 h2
    have := h k (by omega)
    rw [mn_one] at this
    have e1 : decide ((a : Int) ≤ (k : Int)) = true := by simp; omega
    have e2 : decide ((k : Int) < (b : Int)) = true := by simp; omega
    rw [e1, e2] at this
    simpa using this
  · intro h k hk
    rw [mn_one]
    by_cases h1 : a ≤ k ∧ k < b
    · rw [h k h1.1 h1.2]; simp
    · have : (decide ((a : Int) ≤ (k : Int)) && decide ((k : Int) < (b : Int))) = false := by
        rw [Bool.eq_false_iff]; intro hc; simp at hc; omega
      rw [this]; rfl
theorem cov_cut {l : List Sp} {a b m : Nat} (hab : a < b) (hb : b ≤ 1440) (h1 : a ≤ m) (h2 : m ≤ b) : cov l a b = (cov l a m && cov l m b) := by
  refine bool_of ?_
  rw [Bool.and_eq_true, cov_iff hab hb]
  have ha : cov l a m = true ↔ ∀ k, a ≤ k → k < m → mn l k = true := by
    by_cases h : a < m
    · exact cov_iff h (by omega)
    · rw [cov_empty (by omega)]; exact ⟨fun _ k x y => by omega, fun _ => rfl⟩
  have hm : cov l m b = true ↔ ∀ k, m ≤ k → k < b → mn l k = true := by
    by_cases h : m < b
    · exact cov_iff h hb
    · rw [cov_empty (by omega)]; exact ⟨fun _ k x y => by omega, fun _ => rfl⟩
  rw [ha, hm]
  constructor
  · intro h; exact ⟨fun k x y => h k x (by omega), fun k x y => h k (by omega) y⟩
  · rintro ⟨x, y⟩ k h1 h2
    by_cases hk : k < m
    · exact x k h1 hk
    · exact y k (by omega) h2
end M

theorem below_box {w : World} {o : Obj} {W' : World} (h : Below (w.alloc o).heap.size (w.alloc o) W') : Below w.heap.size w W' := below_pre rfl h

set_option maxRecDepth 100000 in
set_option maxHeartbeats 4000000 in
theorem cov_walk {l : List M.Sp} {v : Value} {w : World} (sl : SL w v l) (x y z : Nat) (hx : x < 65536) (hy : y < 65536) (hz : z < 65536) :
    Calls Try.prog 8 #[v, .int .u16 x, .int .u16 y, .int .u16 z] w fun e w' => e = .returned (.bool true) ∧ Below w.heap.size w w' := by
  have HS := Lib.hid (sane_any w)
  by_cases fl : l.length ≤ 40
  case neg =>
    go_enter Try.func8, Try.ntmps8
    go_wp2_with fail
    refine HS.out.mono ?_
    rintro e w0 ⟨rfl, hb⟩
    replace sl := sl.kept hb
    have HB := Lib.hid hb
    clear hb HS
    go_wp2_with (go_at_call 10; (with_reducible refine (few_no (by assumption) fl).mono ?_); rintro e w1 ⟨rfl, rfl⟩)
    go_ret
    exact ⟨rfl, HB.out⟩
  obtain ⟨a, ha⟩ : ∃ a, x % 1441 = a := ⟨_, rfl⟩
  obtain ⟨b, hb⟩ : ∃ b, y % 1441 = b := ⟨_, rfl⟩
  have ra : Int.tmod (x : Int) 1441 = (a : Int) := by rw [Int.tmod_eq_emod_of_nonneg (by omega)]; omega
  have rb : Int.tmod (y : Int) 1441 = (b : Int) := by rw [Int.tmod_eq_emod_of_nonneg (by omega)]; omega
  have la : a ≤ 1440 := by omega
  have lb : b ≤ 1440 := by omega
  clear ha hb
  go_enter Try.func8, Try.ntmps8
  go_wp2_with fail
  refine HS.out.mono ?_
  rintro e w0 ⟨rfl, hb⟩
  replace sl := sl.kept hb
  have HB := Lib.hid hb
  clear hb HS
  go_wp2_with (first | (go_at_call 10; (with_reducible refine (few_yes (by assumption) fl).mono ?_); rintro e w1 ⟨rfl, rfl⟩))
  have hbx : Below w1.heap.size w1 (w1.alloc (.cells #[.int .i64 (a : Int), .int .i64 (b : Int)] 32)) := (Below.refl _ _).alloc (Nat.le_refl _) _
  have hsp := SpBox.new w1 ((a : Int), (b : Int))
  have HX : Hid (SL (w1.alloc (.cells #[.int .i64 (a : Int), .int .i64 (b : Int)] 32)) v l ∧ SpBox (w1.alloc (.cells #[.int .i64 (a : Int), .int .i64 (b : Int)] 32)) w1.heap.size ((a : Int), (b : Int)) ∧ Below w.heap.size w (w1.alloc (.cells #[.int .i64 (a : Int), .int .i64 (b : Int)] 32))) :=
    Lib.hid ⟨sl.kept hbx, hsp, HB.out.alloc HB.out.size _⟩
  clear hbx hsp sl HB
  generalize w1.alloc (.cells #[.int .i64 (a : Int), .int .i64 (b : Int)] 32) = W at HX ⊢
  generalize w1.heap.size = g at HX ⊢
  refine (covers_any HX.out.1 _ _).mono ?_
  rintro e W2 ⟨rfl, hb2⟩
  replace HX : Hid (SL W2 v l ∧ SpBox W2 g ((a : Int), (b : Int)) ∧ Below w.heap.size w W2) := Lib.hid ⟨HX.out.1.kept hb2, (hb2.block g (Array.getElem?_eq_some_iff.1 HX.out.2.1).1).trans HX.out.2.1, HX.out.2.2.trans (hb2.mono HX.out.2.2.size)⟩
  clear hb2
  by_cases hab : b ≤ a
  · rw [M.cov_empty (show (b : Int) ≤ (a : Int) by omega)]
    have d1 : decide ((a : Int) ≥ (b : Int)) = true := by simp; omega
    have d2 : decide ((b : Int) ≤ (a : Int)) = true := by simp; omega
    have d3 : decide (b ≤ a) = true := by simp; omega
    go_wp2_with fail
    go_ret
    exact ⟨rfl, HX.out.2.2⟩
  · have d1 : decide ((a : Int) ≥ (b : Int)) = false := by simp; omega
    have d2 : decide ((b : Int) ≤ (a : Int)) = false := by simp; omega
    have d3 : decide (b ≤ a) = false := by simp; omega
    obtain ⟨d, hd⟩ : ∃ d, b - a = d := ⟨_, rfl⟩
    obtain ⟨r, hr⟩ : ∃ r, z % (d + 1) = r := ⟨_, rfl⟩
    obtain ⟨m, hm⟩ : ∃ m, a + r = m := ⟨_, rfl⟩
    have hrd : r < d + 1 := by rw [← hr]; exact Nat.mod_lt _ (by omega)
    have e1 : (b : Int) - (a : Int) = (d : Int) := by omega
    have e2 : Int.tmod (z : Int) ((d : Int) + 1) = (r : Int) := by
      rw [Int.tmod_eq_emod_of_nonneg (by omega), ← hr]; simp
    have e3 : (a : Int) + (r : Int) = (m : Int) := by omega
    have e4 : ((d : Int) + 1 == 0) = false := by rw [Bool.eq_false_iff]; intro h; simp at h; omega
    have e5 : ¬ ((d : Int) + 1 = 0) := by omega
    have hw1 : IntKind.i64.wrap (d : Int) = (d : Int) := IntWalk.i64_in _ (by omega)
    have hw2 : IntKind.i64.wrap ((d : Int) + 1) = (d : Int) + 1 := IntWalk.i64_in _ (by omega)
    have hw3 : IntKind.i64.wrap (m : Int) = (m : Int) := IntWalk.i64_in _ (by omega)
    have hw4 : IntKind.i64.wrap (1441 + (z : Int)) = 1441 + (z : Int) := IntWalk.i64_in _ (by omega)
    have h1 : a ≤ m := by omega
    have h2 : m ≤ b := by omega
    have HD := Lib.hid (M.cov_D (l := l) (show a < b by omega) lb)
    have HCC := Lib.hid (M.cov_cut (l := l) (show a < b by omega) lb h1 h2)
    have HF := Lib.hid (M.cov_far (l := l) (a := (a : Int)) (b := 1441 + (z : Int)) (by omega) (by omega))
    obtain ⟨x0, x1⟩ := HX.out.2.1.cell
    simp only at x0 x1
    clear hd hr hm hrd ra rb
    go_wp2_with fail
    clear x0 x1
    have hbx : Below W2.heap.size W2 (W2.alloc (.cells #[.int .i64 (a : Int), .int .i64 (b : Int)] 32)) := (Below.refl _ _).alloc (Nat.le_refl _) _
    have hone : SL (W2.alloc (.cells #[.int .i64 (a : Int), .int .i64 (b : Int)] 32)) (.slice (some ⟨W2.heap.size, 0, none⟩) 1 1) [((a : Int), (b : Int))] := by
      refine ⟨_, 1, rfl, .inr ⟨W2.heap.size, 0, rfl, by simp, fun i x hi => ?_⟩, by simp⟩
      have hc := (SpBox.new W2 ((a : Int), (b : Int))).cell
      have hi0 : i = 0 := by
        have := (List.getElem?_eq_some_iff.1 hi).1; simp at this; omega
      subst hi0
      simp at hi
      subst hi
      exact ⟨hc.1, hc.2⟩
    have HM : Hid (Calls Try.prog 20 #[.slice (some ⟨W2.heap.size, 0, none⟩) 1 1, v] (W2.alloc (.cells #[.int .i64 (a : Int), .int .i64 (b : Int)] 32)) fun e W3 => ∃ a1 c1 n, e = .returned (.slice a1 n c1) ∧ Hid (((n : Int) == 0) = M.cov l a b) ∧ Hid (SL W3 v l ∧ Below w.heap.size w W3)) := Lib.hid (by
      refine (d_any hone (HX.out.1.kept hbx)).mono ?_
      rintro e W3 ⟨v3, rfl, ⟨a1, c1, rfl, _, _⟩, hb3⟩
      have hb4 := HX.out.2.2.alloc HX.out.2.2.size (.cells #[.int .i64 (a : Int), .int .i64 (b : Int)] 32)
      exact ⟨a1, c1, _, rfl, Lib.hid HD.out, Lib.hid ⟨(HX.out.1.kept hbx).kept hb3, hb4.trans (hb3.mono hb4.size)⟩⟩)
    clear hbx hone HD
    generalize hc : M.cov l (a : Int) (b : Int) = c at *
    refine HM.out.mono ?_
    rintro e W3 ⟨a1, c1, n, rfl, HN, HY⟩
    clear HM HX hc
    have hn := HN.out
    have hcc : (c == c) = true := by simp
    obtain ⟨p, hp⟩ : ∃ p, M.cov l (a : Int) (m : Int) = p := ⟨_, rfl⟩
    obtain ⟨q, hq⟩ : ∃ p, M.cov l (m : Int) (b : Int) = p := ⟨_, rfl⟩
    rw [hp, hq] at HCC
    have HP := Lib.hid hp; have HQ := Lib.hid hq
    clear hp hq
    have hpq := HCC.out
    cases p with
    | false =>
      obtain rfl : c = false := by rw [hpq]; rfl
      clear hpq HCC
      go_wp2_with (first
        | (go_at_call 23; (with_reducible refine (covers_to HY.out.1 _ _ _ HP.out).mono ?_); rintro e w1 ⟨rfl, hb⟩; replace HY := Lib.hid (And.intro (HY.out.1.kept hb) (HY.out.2.trans (hb.mono HY.out.2.size))); clear hb)
        | (go_at_call 23; (with_reducible refine (covers_to HY.out.1 _ _ _ HF.out).mono ?_); rintro e w1 ⟨rfl, hb⟩; replace HY := Lib.hid (And.intro (HY.out.1.kept hb) (HY.out.2.trans (hb.mono HY.out.2.size))); clear hb))
      go_ret
      exact ⟨rfl, HY.out.2⟩
    | true =>
      obtain rfl : c = q := by rw [hpq]; rfl
      clear hpq HCC
      go_wp2_with (first
        | (go_at_call 23; (with_reducible refine (covers_to HY.out.1 _ _ _ HP.out).mono ?_); rintro e w1 ⟨rfl, hb⟩; replace HY := Lib.hid (And.intro (HY.out.1.kept hb) (HY.out.2.trans (hb.mono HY.out.2.size))); clear hb)
        | (go_at_call 23; (with_reducible refine (covers_to HY.out.1 _ _ _ HQ.out).mono ?_); rintro e w1 ⟨rfl, hb⟩; replace HY := Lib.hid (And.intro (HY.out.1.kept hb) (HY.out.2.trans (hb.mono HY.out.2.size))); clear hb)
        | (go_at_call 23; (with_reducible refine (covers_to HY.out.1 _ _ _ HF.out).mono ?_); rintro e w1 ⟨rfl, hb⟩; replace HY := Lib.hid (And.intro (HY.out.1.kept hb) (HY.out.2.trans (hb.mono HY.out.2.size))); clear hb))
      go_ret
      exact ⟨rfl, HY.out.2⟩

end Go.Proofs.Ytgabfjcobcndaaa
