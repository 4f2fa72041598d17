/- Contract of Covers. -/
import Derived.Test.YtgabfjcobcndaaaHHas
namespace Go.Proofs.Ytgabfjcobcndaaa
open Go.RowKit Go.Shelf

attribute [local go_sem] Oper.semAt_some

/-- Does a span lie within one? -/
def within (a b : Int) (x : M.Sp) : Bool := decide (x.1 ≤ a) && decide (b ≤ x.2)
def anyW (a b : Int) (l : List M.Sp) : Bool := l.any (within a b)
theorem any_snoc {a b : Int} {pre : List M.Sp} {x : M.Sp} (h : anyW a b pre = false) : anyW a b (pre ++ [x]) = within a b x := by
  unfold anyW at *
  rw [List.any_append, h]; simp
theorem any_prefix {a b : Int} {pre l : List M.Sp} (hp : pre <+: l) (h : anyW a b pre = true) : anyW a b l = true := by
  obtain ⟨r, rfl⟩ := hp
  unfold anyW at *
  rw [List.any_append, h]; rfl
theorem M.cov_eq (l : List M.Sp) (a b : Int) : M.cov l a b = (decide (a ≥ b) || anyW a b (M.N (M.mn l))) := rfl

set_option maxRecDepth 100000 in
set_option maxHeartbeats 4000000 in
/-- 'hours.Covers'. -/
theorem covers_any {l : List M.Sp} {v : Value} {w : World} (h : SL w v l) (a b : Int) :
    Calls Try.prog 23 #[v, .agg #[.int .i64 a, .int .i64 b]] w fun e w' => e = .returned (.bool (M.cov l a b)) ∧ Below w.heap.size w w' := by
  have hb0 : Below w.heap.size w ((w.alloc (.cells #[.int .i64 a, .int .i64 b] 32)).alloc (.cells #[.bool false] 4)) := ((Below.refl _ _).alloc (Nat.le_refl _) _).alloc (by simp) _
  by_cases hab : a ≥ b
  · have d1 : decide (a ≥ b) = true := by simpa using hab
    have d2 : decide (b ≤ a) = true := by simpa using hab
    have HC : Hid (M.cov l a b = true) := Lib.hid (by rw [M.cov_eq, d1]; rfl)
    have HB := Lib.hid (((Below.refl w.heap.size w).alloc (Nat.le_refl _) (.cells #[.int .i64 a, .int .i64 b] 32)).alloc (by simp) (.cells #[.bool true] 4))
    clear hab h hb0
    rw [HC.out]
    go_enter Try.func23, Try.ntmps23
    go_wp2
    refine bodyPost_ret (v := .bool true) ?_ rfl ⟨rfl, HB.out⟩
    simp [results, Try.results23, go_sem]
  · have d1 : decide (a ≥ b) = false := by simpa using hab
    have d2 : decide (b ≤ a) = false := by simpa using hab
    have HV : Hid (M.cov l a b = anyW a b (M.N (M.mn l))) := Lib.hid (by rw [M.cov_eq, d1, Bool.false_or])
    have HM : Hid (Calls Try.prog 27 #[v] ((w.alloc (.cells #[.int .i64 a, .int .i64 b] 32)).alloc (.cells #[.bool false] 4)) fun e w1 => e = .returned (.agg (bools (M.mn l))) ∧
        Hid (Below (w.heap.size + 2) ((w.alloc (.cells #[.int .i64 a, .int .i64 b] 32)).alloc (.cells #[.bool false] 4)) w1)) := Lib.hid (by
      refine (minutesOf_any (h.kept hb0)).mono ?_
      rintro e w1 ⟨rfl, hb1⟩
      exact ⟨rfl, Lib.hid (by simpa using hb1)⟩)
    have HB0 := Lib.hid hb0
    clear h hb0 hab
    rw [HV.out]
    have e0 := heap_lift (heap_alloc_new w (.cells #[.int .i64 a, .int .i64 b] 32)) (.cells #[.bool false] 4)
    have e1 := heap_alloc_new (w.alloc (.cells #[.int .i64 a, .int .i64 b] 32)) (.cells #[.bool false] 4)
    rw [World.size_alloc] at e1
    have hsz : ((w.alloc (.cells #[.int .i64 a, .int .i64 b] 32)).alloc (.cells #[.bool false] 4)).heap.size = w.heap.size + 2 := by simp
    have HE := Lib.hid (And.intro e0 (And.intro e1 hsz))
    clear e0 e1 hsz
    obtain ⟨f, hf⟩ : ∃ f, M.mn l = f := ⟨_, rfl⟩
    rw [hf] at HM ⊢
    clear hf HV
    refine (callsIn_wide (n := 3)).1 ?_
    refine callsIn_of_wp_marks Try.func23 rfl (by trivial) ?_ rfl
    simp only [Try.ntmps23, List.size_toArray, List.length_cons, List.length_nil, Nat.reduceAdd, Nat.reduceSub, Array.replicate_succ, Array.replicate_zero, List.push_toArray, List.append_toArray, List.nil_append, List.cons_append]
    refine wpIn_wide.2 ?_
    go_upto_region 3 with (fail)
    have HL := fun W => Lib.hid (longest_any f W)
    obtain ⟨W0, hW0⟩ : ∃ W0, (w.alloc (.cells #[.int .i64 a, .int .i64 b] 32)).alloc (.cells #[.bool false] 4) = W0 := ⟨_, rfl⟩
    rw [hW0] at HM HB0 HE ⊢
    clear hW0
    go_wp2_with (first
      | (go_at_call 27; (with_reducible refine HM.out.mono ?_); rintro e w1 ⟨rfl, HB1⟩)
      | (go_at_call 26; (with_reducible refine (HL _).out.mono ?_); rintro e w2 ⟨rfl, rfl⟩))
    obtain ⟨Wl, hWl⟩ : ∃ Wl, w1.alloc (.cells (bools f) 46) = Wl := ⟨_, rfl⟩
    have HW : Hid (Wl.heap[w1.heap.size]? = some (.cells (bools f) 46 (0, 0)) ∧ SpBox Wl w.heap.size (a, b) ∧ Boxed Wl (w.heap.size + 1) 4 (.bool false) ∧ Below w.heap.size w Wl ∧ w.heap.size + 2 ≤ Wl.heap.size) := Lib.hid (by
      rw [← hWl]
      obtain ⟨e0, e1, e2⟩ := HE.out
      have h1 := HB1.out
      have hs := h1.size
      refine ⟨heap_alloc_new w1 _, heap_lift ((h1.block w.heap.size (by omega)).trans e0) _, heap_lift ((h1.block (w.heap.size + 1) (by omega)).trans e1) _, ?_, by simp; omega⟩
      have hh := HB0.out.trans (h1.mono (by omega))
      exact hh.alloc hh.size _)
    rw [hWl]
    generalize hg : w1.heap.size = g at *
    clear hWl HM HL HE HB0 HB1 hg
    obtain ⟨hw0, hw1, hw2, hw3, hw4⟩ := HW.out
    refine (wpIn_wide (n := 3)).1 (wpIn_rangeFunc_ownH rfl (by decide) (gf := 37) (lb := #[.pointer (some ⟨g, 0, none⟩)]) rfl trivial (enters_of Try.func37 (by kernel_rfl) rfl)
      (longest_stops 2 (by decide) g f Wl hw0) (fun _ _ => trivial) (fun _ _ _ _ _ _ _ _ => trivial) (Below.refl _ _) (fun _ => rfl)
      (fun pre W => (anyW a b pre = false ∧ SpBox W w.heap.size (a, b) ∧ Boxed W (w.heap.size + 1) 4 (.bool false)) ∧ Below w.heap.size w W)
      (fun c pre W => (c = .ret ∧ anyW a b pre = true ∧ Boxed W (w.heap.size + 1) 4 (.bool true)) ∧ Below w.heap.size w W)
      (OwnFrom.and (Own.from (fun s A B row hs hg hr => ⟨hs.1, hs.2.1.own hg hr, boxed_own (w.heap.size + 1) 4 (fun (_ : Unit) => Value.bool false) () A B row hs.2.2 hg hr⟩) _) (ownFrom_below (Nat.le_refl _) (by omega)))
      (fun c => OwnFrom.and (Own.from (fun s A B row hs hg hr => ⟨hs.1, hs.2.1, boxed_own (w.heap.size + 1) 4 (fun (_ : Unit) => Value.bool true) () A B row hs.2.2 hg hr⟩) _) (ownFrom_below (Nat.le_refl _) (by omega)))
      ⟨⟨rfl, hw1, hw2⟩, hw3⟩
      (fun x a' W => ∃ Bx, w.heap.size + 1 < Bx ∧ SpBox W Bx x ∧ a' = { tmps := #[v, .agg #[.int .i64 a, .int .i64 b], undef, .pointer (some ⟨w.heap.size, 0, none⟩), .pointer (some ⟨w.heap.size + 1, 0, none⟩), .pointer (some ⟨Bx, 0, none⟩), .pointer (some ⟨w.heap.size, 0, none⟩), .int .i64 a, .pointer (some ⟨w.heap.size, 1, none⟩), .int .i64 b, .bool false, v, .agg (bools f), .func (.func 37) #[] #[.pointer (some ⟨g, 0, none⟩)], .agg #[.int .i64 x.1, .int .i64 x.2], undef, undef, undef, undef, undef, undef, undef, undef, undef, undef, undef, undef], defers := [] })
      (fun x a' _ X Y row hs hg hr => by obtain ⟨Bx, h1, h2, h3⟩ := hs; exact ⟨Bx, h1, h2.own hg (fun r e => (hr r e).2), h3⟩)
      ?assign ?body ?done ?stop)
    case assign =>
      rintro l pre x W K ⟨⟨hp, h1, h2⟩, hB1⟩ hK
      generalize bools f = r at *
      gi_wp2
      exact hK _ _ ((KeepsOthers.alloc _ _).from _) trivial ⟨⟨hp, heap_lift h1 _, h2.alloc _⟩, hB1.alloc hB1.size _⟩ ⟨W.heap.size, h2.lt, SpBox.new W x, rfl⟩
    case body =>
      rintro l pre x a' W hl ⟨r, hr⟩ ⟨⟨hp, h1, h2⟩, hB1⟩ ⟨Bx, hBx, bX, rfl⟩ hlt
      have hsn := any_snoc (x := x) hp
      obtain ⟨x0, x1⟩ := bX.cell
      obtain ⟨y0, y1⟩ := h1.cell
      have hc := h2.cell
      have hf := h2.frozen
      obtain ⟨p, q⟩ := x
      simp only at x0 x1 y0 y1
      generalize bools f = r at *
      by_cases c1 : p ≤ a
      · have e1 : decide (p ≤ a) = true := by simpa using c1
        by_cases c2 : b ≤ q
        · have e2 : decide (b ≤ q) = true := by simpa using c2
          have hsn2 : anyW a b (pre ++ [(p, q)]) = true := by rw [hsn, within, e1, e2]; rfl
          gi_wp2
          exact ⟨(KeepsOthers.setCell _ _ _).from _, ⟨rfl, hsn2, h2.set _⟩, hB1.setCell (p := ⟨w.heap.size + 1, 0, none⟩) (by simp) _⟩
        · have e2 : decide (b ≤ q) = false := by simpa using c2
          have hsn2 : anyW a b (pre ++ [(p, q)]) = false := by rw [hsn, within, e1, e2]; rfl
          gi_wp2
          exact ⟨KeepsFrom.refl _ _, trivial, ⟨hsn2, h1, h2⟩, hB1⟩
      · have e1 : decide (p ≤ a) = false := by simpa using c1
        have hsn2 : anyW a b (pre ++ [(p, q)]) = false := by rw [hsn, within, e1]; rfl
        gi_wp2
        exact ⟨KeepsFrom.refl _ _, trivial, ⟨hsn2, h1, h2⟩, hB1⟩
    case done =>
      rintro D ys W hD rfl ⟨⟨hp, h1, h2⟩, hB1⟩ hK
      have hc := h2.cell
      have hf := h2.frozen
      generalize bools f = r at *
      go_wp2_with fail
      have hK' := (KeepsOthers.setCell W ⟨w.heap.size + 1, 0, none⟩ (.bool false)).same D _ hK rfl
      refine ⟨by simp, .inl ⟨_, _, rfl, run_takeDeferred hK', ?_⟩⟩
      have hc5 := cell_kept (World.cell?_setCell_same' W ⟨w.heap.size + 1, 0, none⟩ (.bool false) (by rw [hc]; rfl)) (grownBy_putObj' _ D (.deferred none)) (fun r e => by cases e; exact ⟨_, hK', rfl⟩)
      refine ⟨.bool false, ?_, by rw [hp], (hB1.setCell (p := ⟨w.heap.size + 1, 0, none⟩) (by simp) _).trans (belowK_b (w := w) (Nat.le_refl _) _ D _ _ (by omega) hK' rfl rfl)⟩
      simp [results, Try.results23, go_sem, hc5]
    case stop =>
      rintro D c pre W hD hpre ⟨⟨rfl, hp, h2⟩, hB1⟩ hK
      have hc := h2.cell
      have hany := any_prefix hpre hp
      generalize bools f = r at *
      gi_wp2
      refine ⟨by simp, .inl ⟨_, _, rfl, run_takeDeferred hK, ?_⟩⟩
      have hc5 := cell_kept hc (grownBy_putObj' _ D (.deferred none)) (fun r e => by cases e; exact ⟨_, hK, rfl⟩)
      refine ⟨.bool true, ?_, by rw [hany], hB1.trans (belowK_b (w := w) (Nat.le_refl _) W D _ _ (by omega) hK rfl rfl)⟩
      simp [results, Try.results23, go_sem, hc5]

end Go.Proofs.Ytgabfjcobcndaaa
