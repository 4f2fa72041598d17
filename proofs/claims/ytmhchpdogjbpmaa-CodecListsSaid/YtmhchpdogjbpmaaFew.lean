/- Contracts of the reference's count and Few, and of few. -/
import Derived.Test.YtmhchpdogjbpmaaSane
import Derived.Test.YtmhchpdogjbpmaaFewMath
namespace Go.Proofs.Ytmhchpdogjbpmaa
open Go.RowKit

theorem cnt_bd {B : Nat} {w : World} : ∀ {d : Nat} {t : M.T d} {v : Value} (dep : Nat), Rep B w d t v → M.cnt d t dep ≤ 1099511627776 + 1000 * dep
  | 0, _, _, _, h => h.elim
  | d + 1, (k, n, s, l), v, 0, _ => by simp [M.cnt]
  | d + 1, (k, n, s, l), v, dep + 1, ⟨_, _, hs, _, a, cap, hv, hl⟩ => by
    rw [M.cnt]
    split
    · omega
    · have hx : ∀ x ∈ l, M.cnt d x dep ≤ 1099511627776 + 1000 * dep := by
        intro x hx
        rcases hl with rfl | ⟨b, off, _, _, hc⟩
        · simp at hx
        · obtain ⟨i, hi⟩ := List.getElem?_of_mem hx
          obtain ⟨c0, c1, c2, c3, _, _, _, _, hr⟩ := hc i x hi
          exact cnt_bd dep hr
      have := M.cntL_le (fun x => M.cnt d x dep) _ l (1 + s.size / 200) hx
      omega

set_option maxHeartbeats 1000000 in
theorem count_deep (k n : Int) (s : ByteArray) (a : Option Addr) (len cap : Nat) (w : World) (hs : s.size ≤ 140737488351232) (q : Int) (hq : q = -1) :
    Calls Try.prog 37 #[.agg #[.int .i64 k, .int .i64 n, .string s, .slice a len cap], .int .i64 q] w fun e w' => e = .returned (.int .i64 1000) ∧ Below w.heap.size w w' := by
  subst hq
  go_enter Try.func37, Try.ntmps37
  go_wp2_with fail
  go_ret
  exact ⟨rfl, (Below.refl _ _).alloc (Nat.le_refl _) _⟩

set_option maxHeartbeats 1000000 in
theorem count_wide (k n : Int) (s : ByteArray) (a : Option Addr) (len cap : Nat) (w : World) (hs : s.size ≤ 140737488351232) (q : Int) (hq : 0 ≤ q) (hlen : 150 < len) (hl : len ≤ 70368744177664) :
    Calls Try.prog 37 #[.agg #[.int .i64 k, .int .i64 n, .string s, .slice a len cap], .int .i64 q] w fun e w' => e = .returned (.int .i64 1000) ∧ Below w.heap.size w w' := by
  go_enter Try.func37, Try.ntmps37
  go_wp2_with fail
  go_ret
  exact ⟨rfl, (Below.refl _ _).alloc (Nat.le_refl _) _⟩

set_option maxHeartbeats 1000000 in
theorem count_list (d dep : Nat) (k n : Int) (s : ByteArray) (l : List (M.T d)) (a : Option Addr) (cap : Nat) (w : World) (hs : s.size ≤ 140737488351232) (hd : dep ≤ 1000) (q : Int) (hq0 : 0 ≤ q) (hq : Hid (q = dep)) (hq1 : q ≤ 1000) (hlen : l.length ≤ 150)
    (hl : Elems w.heap.size w d a l) (hbd : ∀ x ∈ l, M.cnt d x dep ≤ 1099511627776 + 1000 * dep)
    (ih : ∀ (x : M.T d) (v : Value) (w : World) (q : Int), q = (dep : Int) - 1 → Rep w.heap.size w d x v → Calls Try.prog 37 #[v, .int .i64 q] w fun e w' => e = .returned (.int .i64 (M.cnt d x dep)) ∧ Below w.heap.size w w') :
    Calls Try.prog 37 #[.agg #[.int .i64 k, .int .i64 n, .string s, .slice a l.length cap], .int .i64 q] w fun e w' => e = .returned (.int .i64 (M.cntL (fun x => M.cnt d x dep) (1 + s.size / 200) l : Nat)) ∧ Below w.heap.size w w' := by
  have HI := Lib.hid ih; clear ih
  obtain ⟨R, hR⟩ : ∃ R, M.cntL (fun x => M.cnt d x dep) (1 + s.size / 200) l = R := ⟨_, rfl⟩
  have HR := Lib.hid hR
  rw [hR]
  clear hR
  have hbox0 := heap_alloc_new w (.cells #[.int .i64 k, .int .i64 n, .string s, .slice a l.length cap] 24)
  go_enter Try.func37, Try.ntmps37
  go_wp2_with fail
  have hbw : Below w.heap.size w (w.alloc (.cells #[.int .i64 k, .int .i64 n, .string s, .slice a l.length cap] 24)) := (Below.refl _ _).alloc (Nat.le_refl _) _
  go_loopw [5, 6] (fun nn ii wr => ∃ (j m : Nat), j ≤ l.length ∧ ii = .int .i64 j ∧ nn = .int .i64 m ∧ m ≤ 1099511628776 + (1099511627776 + 1000 * dep) ∧ Hid (M.cntL (fun x => M.cnt d x dep) m (l.drop j) = R) ∧ wr.heap[w.heap.size]? = some (.cells #[.int .i64 k, .int .i64 n, .string s, .slice a l.length cap] 24 (0, 0)) ∧ Below w.heap.size w wr)
    (fun _ ii _ => l.length - (intOf ii).toNat)
  case atStart => exact ⟨0, 1 + s.size / 200, Nat.zero_le _, rfl, by go_num, by omega, by simpa using HR, hbox0, hbw⟩
  case round =>
    obtain ⟨j, m, hj, rfl, rfl, hm, HC, hbx, hbr⟩ := hrel
    obtain ⟨⟨b0, b1, b2, b3⟩, gg⟩ := cells4 hbx
    clear gg
    by_cases hlt : j < l.length
    · by_cases hm1 : m ≤ 1000
      · obtain ⟨b, off, kx, nx, sx, ax, lx, px, rfl, hbB, e0, e1, e2, e3, hrep⟩ := hl.at hbr hlt
        have hx := hbd l[j] (List.getElem_mem hlt)
        have hc : M.cntL (fun x => M.cnt d x dep) (m + M.cnt d l[j] dep) (l.drop (j + 1)) = R := by
          have := HC.out
          rw [List.drop_eq_getElem_cons hlt, M.cntL, if_pos hm1] at this
          exact this
        have HC2 := Lib.hid hc
        clear hc
        have hrep' := hrep.mono hbr.size
        go_wp2_with fail
        refine (HI.out l[j] _ wr (q - 1) (by rw [hq.out]) hrep').mono ?_
        rintro e w1 ⟨rfl, hb1⟩
        have hbx1 := (hb1.block w.heap.size (Array.getElem?_eq_some_iff.1 hbx).1).trans hbx
        have hbr1 := hbr.trans (hb1.mono hbr.size)
        clear hbx hb1 hrep hrep' e0 e1 e2 e3
        go_wp2_with fail
        go_roundw
        case rel => exact ⟨j + 1, m + M.cnt d l[j] dep, by omega, by go_num, by go_num, by omega, HC2, hbx1, hbr1⟩
        case measure => simp [intOf]; omega
      · have hm2 : 1000 < m := by omega
        clear hm1
        have hc : m = R := by rw [← HC.out, M.cntL_stop _ _ _ hm2]
        have HC2 := Lib.hid hc
        clear hc
        go_wp2_with fail
        go_ret
        exact ⟨ret_int (by rw [HC2.out]), hbr⟩
    · have hc : m = R := by rw [← HC.out, List.drop_of_length_le (by omega)]; rfl
      have HC2 := Lib.hid hc
      clear hc
      go_wp2_with fail
      go_ret
      exact ⟨ret_int (by rw [HC2.out]), hbr⟩

/-- count, at every value. -/
theorem count_any : ∀ (d : Nat) (t : M.T d) (v : Value) (dep : Nat) (w : World) (q : Int), dep ≤ 1000 → q = (dep : Int) - 1 → Rep w.heap.size w d t v →
    Calls Try.prog 37 #[v, .int .i64 q] w fun e w' => e = .returned (.int .i64 (M.cnt d t dep)) ∧ Below w.heap.size w w'
  | 0, _, _, _, _, _, _, _, h => h.elim
  | d + 1, (k, n, s, l), v, 0, w, q, _, hq, hr => by
    obtain ⟨_, _, hs, hln, a, cap, hv, hl⟩ := hr
    subst hv
    have : M.cnt (d + 1) (k, n, s, l) 0 = 1000 := by simp [M.cnt]
    rw [this]
    exact count_deep k n s a l.length cap w hs q (by omega)
  | d + 1, (k, n, s, l), v, dep + 1, w, q, hd, hq, hr => by
    obtain ⟨h1, h2, hs, hln, a, cap, hv, hl⟩ := hr
    subst hv
    by_cases h150 : 150 < l.length
    · have : M.cnt (d + 1) (k, n, s, l) (dep + 1) = 1000 := by simp [M.cnt, h150]
      rw [this]
      exact count_wide k n s a l.length cap w hs q (by omega) h150 hln
    · have : M.cnt (d + 1) (k, n, s, l) (dep + 1) = M.cntL (fun x => M.cnt d x dep) (1 + s.size / 200) l := by simp [M.cnt, h150]
      rw [this]
      have hx : ∀ x ∈ l, M.cnt d x dep ≤ 1099511627776 + 1000 * dep := by
        intro x hx
        rcases hl with rfl | ⟨b, off, _, _, hc⟩
        · simp at hx
        · obtain ⟨i, hi⟩ := List.getElem?_of_mem hx
          obtain ⟨c0, c1, c2, c3, _, _, _, _, hr⟩ := hc i x hi
          exact cnt_bd dep hr
      exact count_list d dep k n s l a cap w hs (by omega) q (by omega) (Lib.hid (by omega)) (by omega) (by omega) hl hx (fun x v w q hq hr => count_any d x v dep w q (by omega) hq hr)

/-- Few, at the depth that few asks. -/
theorem few_one (d : Nat) (t : M.T d) (v : Value) (w : World) (hr : Rep w.heap.size w d t v) :
    Calls Try.prog 25 #[v, .int .i64 20] w fun e w' => e = .returned (.bool (decide (M.cnt d t 21 ≤ 200))) ∧ Below w.heap.size w w' := by
  obtain ⟨k, n, s, a, len, cap, rfl⟩ := hr.shape
  have hb := cnt_bd 21 hr
  have hbA : Below w.heap.size w (w.alloc (.cells #[.int .i64 k, .int .i64 n, .string s, .slice a len cap] 24)) := (Below.refl _ _).alloc (Nat.le_refl _) _
  have hrA := hr.later hbA
  have HC := Lib.hid (count_any d t _ 21 _ 20 (by omega) (by omega) hrA)
  go_enter Try.func25, Try.ntmps25
  go_wp2_with fail
  refine HC.out.mono ?_
  rintro e w1 ⟨rfl, hb1⟩
  go_wp2_with fail
  go_ret
  exact ⟨by congr 2; simp; omega, hbA.trans (hb1.mono hbA.size)⟩

set_option maxHeartbeats 1000000 in
theorem few_any (d : Nat) (l : List (M.T d)) (a : Option Addr) (cap : Nat) (w : World) (hlen : l.length ≤ 70368744177664) (hl : Elems w.heap.size w d a l) :
    Calls Try.prog 11 #[.slice a l.length cap] w fun e w' => e = .returned (.bool (l.all fun x => decide (M.cnt d x 21 ≤ 200))) ∧ Below w.heap.size w w' := by
  obtain ⟨R, hR⟩ : ∃ R, (l.all fun x => decide (M.cnt d x 21 ≤ 200)) = R := ⟨_, rfl⟩
  have HR := Lib.hid hR
  rw [hR]
  clear hR
  go_enter Try.func11, Try.ntmps11
  go_wp2_with fail
  go_loopw [7] (fun ii wr => ∃ (j : Nat), j ≤ l.length ∧ ii = .int .i64 j ∧ Hid (((l.drop j).all fun x => decide (M.cnt d x 21 ≤ 200)) = R) ∧ Below w.heap.size w wr)
    (fun ii _ => l.length - (intOf ii).toNat)
  case atStart => exact ⟨0, Nat.zero_le _, rfl, by simpa using HR, Below.refl _ _⟩
  case round =>
    obtain ⟨j, hj, rfl, HC, hbr⟩ := hrel
    by_cases hlt : j < l.length
    · obtain ⟨b, off, kx, nx, sx, ax, lx, px, rfl, hbB, e0, e1, e2, e3, hrep⟩ := hl.at hbr hlt
      have hc := HC.out
      rw [List.drop_eq_getElem_cons hlt, List.all_cons] at hc
      have hbA : Below wr.heap.size wr (wr.alloc (.cells #[.int .i64 kx, .int .i64 nx, .string sx, .slice ax lx px] 24)) := (Below.refl _ _).alloc (Nat.le_refl _) _
      have hrA := (hrep.mono hbr.size).later hbA
      by_cases hx : M.cnt d l[j] 21 ≤ 200
      · have hf := few_one d l[j] _ _ hrA
        have h1 : decide (M.cnt d l[j] 21 ≤ 200) = true := by simpa using hx
        rw [h1] at hf hc
        rw [Bool.true_and] at hc
        have HF := Lib.hid hf; have HC2 := Lib.hid hc
        clear hf hc h1 hx HC
        go_wp2_with fail
        refine HF.out.mono ?_
        rintro e w1 ⟨rfl, hb1⟩
        go_wp2_with fail
        go_roundw
        case rel => exact ⟨j + 1, by omega, by go_num, HC2, hbr.trans ((hbA.trans (hb1.mono hbA.size)).mono hbr.size)⟩
        case measure => simp [intOf]; omega
      · have hf := few_one d l[j] _ _ hrA
        have h1 : decide (M.cnt d l[j] 21 ≤ 200) = false := by simpa using hx
        rw [h1] at hf hc
        rw [Bool.false_and] at hc
        have HF := Lib.hid hf; have HC2 := Lib.hid hc
        clear hf hc h1 hx HC
        go_wp2_with fail
        refine HF.out.mono ?_
        rintro e w1 ⟨rfl, hb1⟩
        go_wp2_with fail
        go_ret
        exact ⟨by rw [← HC2.out]; rfl, hbr.trans ((hbA.trans (hb1.mono hbA.size)).mono hbr.size)⟩
    · have hc : true = R := by rw [← HC.out, List.drop_of_length_le (by omega)]; rfl
      have HC2 := Lib.hid hc
      clear hc
      go_wp2_with fail
      go_ret
      exact ⟨by rw [← HC2.out]; rfl, hbr⟩

/-- The elements of a slice that was written out. -/
theorem elems_one {w : World} {B d : Nat} {t : M.T d} {v0 v1 v2 v3 : Value} (h : w.heap[B]? = some (.cells #[v0, v1, v2, v3] 24 (0, 0))) (hr : Rep w.heap.size w d t (.agg #[v0, v1, v2, v3])) : Elems w.heap.size w d (some ⟨B, 0, none⟩) [t] := by
  refine .inr ⟨B, 0, rfl, (Array.getElem?_eq_some_iff.1 h).1, fun i x hx => ?_⟩
  have hc := fun j => cell_of_row w B j _ _ _ h
  match i, hx with
  | 0, hx => simp at hx; subst hx; exact ⟨_, _, _, _, hc _, hc _, hc _, hc _, hr⟩
theorem elems_two {w : World} {B d : Nat} {t u : M.T d} {v0 v1 v2 v3 u0 u1 u2 u3 : Value} (h : w.heap[B]? = some (.cells #[v0, v1, v2, v3, u0, u1, u2, u3] 24 (0, 0))) (hr : Rep w.heap.size w d t (.agg #[v0, v1, v2, v3])) (hr' : Rep w.heap.size w d u (.agg #[u0, u1, u2, u3])) : Elems w.heap.size w d (some ⟨B, 0, none⟩) [t, u] := by
  refine .inr ⟨B, 0, rfl, (Array.getElem?_eq_some_iff.1 h).1, fun i x hx => ?_⟩
  have hc := fun j => cell_of_row w B j _ _ _ h
  match i, hx with
  | 0, hx => simp at hx; subst hx; exact ⟨_, _, _, _, hc _, hc _, hc _, hc _, hr⟩
  | 1, hx => simp at hx; subst hx; exact ⟨_, _, _, _, hc _, hc _, hc _, hc _, hr'⟩

theorem few_pair {d : Nat} {t u : M.T d} {w : World} {B cap : Nat} (r : Bool) (hr : (decide (M.cnt d t 21 ≤ 200) && decide (M.cnt d u 21 ≤ 200)) = r) (hl : Elems w.heap.size w d (some ⟨B, 0, none⟩) [t, u]) :
    Calls Try.prog 11 #[.slice (some ⟨B, 0, none⟩) 2 cap] w fun e w' => e = .returned (.bool r) ∧ Below w.heap.size w w' := by
  have := few_any d [t, u] _ cap w (by simp) hl
  simp only [List.all_cons, List.all_nil, Bool.and_true] at this
  rw [hr] at this
  exact this
theorem few_single {d : Nat} {t : M.T d} {w : World} {B cap : Nat} (r : Bool) (hr : decide (M.cnt d t 21 ≤ 200) = r) (hl : Elems w.heap.size w d (some ⟨B, 0, none⟩) [t]) :
    Calls Try.prog 11 #[.slice (some ⟨B, 0, none⟩) 1 cap] w fun e w' => e = .returned (.bool r) ∧ Below w.heap.size w w' := by
  have := few_any d [t] _ cap w (by simp) hl
  simp only [List.all_cons, List.all_nil, Bool.and_true] at this
  rw [hr] at this
  exact this

end Go.Proofs.Ytmhchpdogjbpmaa
