/- Contract of 'minutesOf': the minutes of a list, as an array. -/
import Derived.Test.YtgabfjcobcndaaaHSmall
import Derived.Deep.WholeRow
import Derived.Great.BuildSlice
import Derived.Laws.Rows
import Derived.Laws.CopyRow
import Derived.Deep.Cut
import Derived.Deep.CutBlock
import Derived.Deep.MidRow
namespace Go.Proofs.Ytgabfjcobcndaaa
open Go.RowKit

/-- An array of the day's minutes. -/
def bools (f : Nat → Bool) : Array Value := ((List.range 1440).map fun k => Value.bool (f k)).toArray
def ints (C : Nat → Int) : Array Value := ((List.range 1441).map fun k => Value.int .i64 (C k)).toArray
theorem bools_size (f : Nat → Bool) : (bools f).size = 1440 := by simp [bools]
theorem ints_size (C : Nat → Int) : (ints C).size = 1441 := by simp [ints]
theorem bools_at {f : Nat → Bool} {i : Nat} (h : i < 1440) : (bools f)[i]? = some (.bool (f i)) := by simp [bools, h]
theorem ints_at {C : Nat → Int} {i : Nat} (h : i < 1441) : (ints C)[i]? = some (.int .i64 (C i)) := by simp [ints, h]
theorem bools_one (f : Nat → Bool) : (bools f).all (·.oneCell') = true := by
  rw [Array.all_eq_true]; intro i h; simp [bools, Value.oneCell']
theorem bools_ext {f g : Nat → Bool} (h : ∀ k, k < 1440 → f k = g k) : bools f = bools g := by
  refine congrArg List.toArray (List.map_congr_left fun k hk => ?_)
  rw [h k (List.mem_range.1 hk)]
theorem ints_ext {f g : Nat → Int} (h : ∀ k, k < 1441 → f k = g k) : ints f = ints g := by
  refine congrArg List.toArray (List.map_congr_left fun k hk => ?_)
  rw [h k (List.mem_range.1 hk)]
theorem bools_set (f : Nat → Bool) (i : Nat) (b : Bool) : (bools f).setIfInBounds i (.bool b) = bools (fun k => if k = i then b else f k) := by
  apply Array.ext_getElem?
  intro j
  rw [Array.getElem?_setIfInBounds]
  by_cases hj : j < 1440
  · rw [bools_at hj, bools_at hj, bools_size]
    by_cases hij : i = j
    · subst hij; simp [hj]
    · simp [hij, Ne.symm hij]
  · rw [Array.getElem?_eq_none (by rw [bools_size]; omega), Array.getElem?_eq_none (by rw [bools_size]; omega), bools_size]
    split
    · rw [if_neg (by omega)]
    · rfl
theorem ints_set (C : Nat → Int) (i : Nat) (d : Int) : (ints C).setIfInBounds i (.int .i64 (C i + d)) = ints (M.up C i d) := by
  apply Array.ext_getElem?
  intro j
  rw [Array.getElem?_setIfInBounds]
  by_cases hj : j < 1441
  · rw [ints_at hj, ints_at hj, ints_size]
    unfold M.up
    by_cases hij : i = j
    · subst hij; simp [hj]
    · simp [hij, Ne.symm hij]
  · rw [Array.getElem?_eq_none (by rw [ints_size]; omega), Array.getElem?_eq_none (by rw [ints_size]; omega), ints_size]
    split
    · rw [if_neg (by omega)]
    · rfl
theorem Try.sizeM : (Try.prog.info? 46).map (·.size) = some 1440 := by kernel_rfl
theorem bools_cell {w : World} {B : Nat} {f : Nat → Bool} {t : TypeId} (h : w.heap[B]? = some (.cells (bools f) t (0, 0))) {i : Nat} (hi : i < 1440) : w.cell? ⟨B, i, none⟩ = some (.bool (f i)) ∧ w.frozen? ⟨B, i, none⟩ = false := by
  refine ⟨?_, frozen_of_row w B i _ _ h⟩
  rw [cell_of_row w B i _ _ _ h, bools_at hi]
theorem ints_cell {w : World} {B : Nat} {C : Nat → Int} {t : TypeId} (h : w.heap[B]? = some (.cells (ints C) t (0, 0))) {i : Nat} (hi : i < 1441) : w.cell? ⟨B, i, none⟩ = some (.int .i64 (C i)) ∧ w.frozen? ⟨B, i, none⟩ = false := by
  refine ⟨?_, frozen_of_row w B i _ _ h⟩
  rw [cell_of_row w B i _ _ _ h, ints_at hi]
theorem bools_store {w : World} {B : Nat} {f : Nat → Bool} {t : TypeId} (h : w.heap[B]? = some (.cells (bools f) t (0, 0))) (i : Nat) (b : Bool) :
    (w.setCell ⟨B, i, none⟩ (.bool b)).heap[B]? = some (.cells (bools (fun k => if k = i then b else f k)) t (0, 0)) := by
  rw [heap_setCell_same w B i _ _ _ h, bools_set]
theorem ints_store {w : World} {B : Nat} {C : Nat → Int} {t : TypeId} (h : w.heap[B]? = some (.cells (ints C) t (0, 0))) (i : Nat) (d : Int) :
    (w.setCell ⟨B, i, none⟩ (.int .i64 (C i + d))).heap[B]? = some (.cells (ints (M.up C i d)) t (0, 0)) := by
  rw [heap_setCell_same w B i _ _ _ h, ints_set]
theorem heap_set_off {w : World} {B C i : Nat} {z : Value} (h : B ≠ C) : (w.setCell ⟨C, i, none⟩ z).heap[B]? = w.heap[B]? := by
  simp only [World.setCell, Array.getElem?_modify]
  rw [if_neg (Ne.symm h)]
theorem heap_lift {w : World} {B : Nat} {o : Obj} (h : w.heap[B]? = some o) (o' : Obj) : (w.alloc o').heap[B]? = some o := (Below.heap_alloc _ _ _ (Array.getElem?_eq_some_iff.1 h).1).trans h

theorem wpl_alloc_row {ops : Array Oper} {rest : List Oper} {o : Oper} {a : Act} {w : World} {Q : Exit → Act → World → Prop} (hg : o.guard = none) (t : TypeId) (ho : o.op = .alloc t)
    (zs : Array Value) (hz : ∀ w, (zeroValue t).run Try.prog w = .ok (.agg zs) w) (h : wpList Try.prog ops Q rest (a.put o.dst (.pointer (some ⟨w.heap.size, 0, none⟩))) (w.alloc (.cells zs t))) : wpList Try.prog ops Q (o :: rest) a w :=
  wpList_plain hg fun _ hK => by
    unfold Oper.wp execOp
    simp [ho, go_sem, hz]
    exact hK _ _ h
theorem zeroM (w : World) : (zeroValue 46).run Try.prog w = .ok (.agg (bools fun _ => false)) w := by kernel_rfl
theorem zeroC (w : World) : (zeroValue 56).run Try.prog w = .ok (.agg (ints fun _ => 0)) w := by kernel_rfl

/-- What the two arrays of a call of minutesOf hold. -/
structure Mo (w wr : World) (f : Nat → Bool) (C : Nat → Int) : Prop where
  m : wr.heap[w.heap.size]? = some (.cells (bools f) 46 (0, 0))
  c : wr.heap[w.heap.size + 1]? = some (.cells (ints C) 56 (0, 0))
  below : Below w.heap.size w wr
theorem Mo.alloc {w wr : World} {f : Nat → Bool} {C : Nat → Int} (h : Mo w wr f C) (o : Obj) : Mo w (wr.alloc o) f C := ⟨heap_lift h.m o, heap_lift h.c o, h.below.alloc h.below.size o⟩
theorem Mo.count {w wr : World} {f : Nat → Bool} {C : Nat → Int} (h : Mo w wr f C) (i : Nat) (d : Int) : Mo w (wr.setCell ⟨w.heap.size + 1, i, none⟩ (.int .i64 (C i + d))) f (M.up C i d) :=
  ⟨(heap_set_off (by omega)).trans h.m, ints_store h.c i d, h.below.setCell (p := ⟨w.heap.size + 1, i, none⟩) (by simp) _⟩
theorem Mo.mark {w wr : World} {f : Nat → Bool} {C : Nat → Int} (h : Mo w wr f C) (i : Nat) (b : Bool) : Mo w (wr.setCell ⟨w.heap.size, i, none⟩ (.bool b)) (fun k => if k = i then b else f k) C :=
  ⟨bools_store h.m i b, (heap_set_off (by omega)).trans h.c, h.below.setCell (p := ⟨w.heap.size, i, none⟩) (by simp) _⟩
theorem Mo.ext {w wr : World} {f g : Nat → Bool} {C D : Nat → Int} (h : Mo w wr f C) (h1 : ∀ k, k < 1440 → f k = g k) (h2 : ∀ k, k < 1441 → C k = D k) : Mo w wr g D :=
  ⟨bools_ext h1 ▸ h.m, ints_ext h2 ▸ h.c, h.below⟩

set_option maxRecDepth 100000 in
set_option maxHeartbeats 4000000 in
theorem minutesOf_any {l : List M.Sp} {v : Value} {w : World} (h : SL w v l) :
    Calls Try.prog 27 #[v] w fun e w' => e = .returned (.agg (bools (M.mn l))) ∧ Below w.heap.size w w' := by
  obtain ⟨a, ca, rfl, hsa, hla⟩ := h
  have HA := Lib.hid hsa
  clear hsa
  go_enter Try.func27, Try.ntmps27
  go_step
  go_step
  refine wp_region_list ?_
  refine wpl_alloc_row rfl 46 rfl _ zeroM ?_
  refine wpList_nil ?_
  rename_i K1 hK1
  refine hK1 _ _ ?_
  clear hK1
  go_step
  refine wp_region_list ?_
  refine wpl_alloc_row rfl 56 rfl _ zeroC ?_
  refine wpList_nil ?_
  have HB : Hid (Mo w ((w.alloc (.cells (bools fun _ => false) 46)).alloc (.cells (ints fun _ => 0) 56)) (fun _ => false) (M.chg (l.take 0))) := Lib.hid (by
    have h2 := heap_alloc_new (w.alloc (.cells (bools fun _ => false) 46)) (.cells (ints fun _ => 0) 56)
    rw [World.size_alloc] at h2
    refine ⟨heap_lift (heap_alloc_new w _) _, ?_, ((Below.refl _ _).alloc (Nat.le_refl _) _).alloc (by simp) _⟩
    rw [h2]
    congr 2)
  rename_i K1 hK1
  refine hK1 _ _ ?_
  clear hK1
  rw [World.size_alloc]
  go_simp
  generalize (w.alloc (.cells (bools fun _ => false) 46)).alloc (.cells (ints fun _ => 0) 56) = W0 at *
  go_wp2_with fail
  go_loopw [10] (fun ii wr => ∃ j : Nat, j ≤ l.length ∧ ii = .int .i64 j ∧ Hid (Mo w wr (fun _ => false) (M.chg (l.take j))))
    (fun ii _ => l.length - (intOf ii).toNat)
  case atStart => exact ⟨0, Nat.zero_le _, rfl, HB⟩
  case round =>
    obtain ⟨j, hj, rfl, HR⟩ := hrel
    clear HB
    by_cases hlt : j < l.length
    · obtain ⟨b1, o1, rfl, x0, x1⟩ := (HA.out.kept HR.out.below).at j hlt
      have HS : Hid (l.take (j + 1) = l.take j ++ [l[j]]) := Lib.hid (List.take_succ_eq_append_getElem hlt)
      obtain ⟨s, hs⟩ : ∃ s, l[j] = s := ⟨_, rfl⟩
      obtain ⟨C, hC⟩ : ∃ C, M.chg (l.take j) = C := ⟨_, rfl⟩
      have hcb := fun k => M.chg_bound (l.take j) k
      have hup := fun hlt2 k => M.chg_up (l.take j) s hlt2 k
      have hnone := fun hlt2 k => M.chg_none (l.take j) s hlt2 k
      rw [hs] at x0 x1 HS
      rw [← HS.out, hC] at hup hnone
      rw [hC] at HR hcb
      have hjl : (l.take j).length = j := by simp; omega
      rw [hjl] at hcb
      obtain ⟨p, q⟩ := s
      simp only at x0 x1
      have HCB := Lib.hid hcb; have HUP := Lib.hid hup; have HNO := Lib.hid hnone
      clear hcb hup hnone hs hC hjl HS
      by_cases hpq : p < q
      · have d1 : decide (p < q) = true := by simpa using hpq
        have HUQ := Lib.hid (HUP.out hpq)
        have hx := M.cl_le p; have hy := M.cl_le q
        have HI1 := fun W => Lib.hid (inDay_any p W)
        have HI2 := fun W => Lib.hid (inDay_any q W)
        simp only at HUQ
        generalize hxg : M.cl p = x at *
        generalize hyg : M.cl q = y at *
        clear hxg hyg hpq HUP HNO
        have HM1 := HR.out.alloc (.cells #[.int .i64 p, .int .i64 q] 32)
        obtain ⟨c1, f1⟩ := ints_cell HM1.c (i := x) (by omega)
        have hb := HCB.out x
        generalize hc : C x = c at *
        have hwr : IntKind.i64.wrap (c + 1) = c + 1 := IntWalk.i64_in _ (by omega)
        have HM1h := Lib.hid HM1
        clear HM1
        go_upto_region 7 with (go_at_call 38; (with_reducible refine (HI1 _).out.mono ?_); rintro e w1 ⟨rfl, rfl⟩)
        have hne : wr.heap.size ≠ w.heap.size + 1 := by
          have := (Array.getElem?_eq_some_iff.1 HR.out.c).1; omega
        have HM2 := Lib.hid (hc ▸ HM1h.out.count x 1)
        have hbx : ((wr.alloc (.cells #[.int .i64 p, .int .i64 q] 32)).setCell ⟨w.heap.size + 1, x, none⟩ (.int .i64 (c + 1))).heap[wr.heap.size]? = some (.cells #[.int .i64 p, .int .i64 q] 32 (0, 0)) :=
          (heap_set_off hne).trans (heap_alloc_new wr _)
        have hq : ((wr.alloc (.cells #[.int .i64 p, .int .i64 q] 32)).setCell ⟨w.heap.size + 1, x, none⟩ (.int .i64 (c + 1))).cell? ⟨wr.heap.size, 1, none⟩ = some (.int .i64 q) := by
          rw [cell_of_row _ _ _ _ _ _ hbx]; rfl
        clear hbx hne hwr c1 f1 hb
        generalize (wr.alloc (.cells #[.int .i64 p, .int .i64 q] 32)).setCell ⟨w.heap.size + 1, x, none⟩ (.int .i64 (c + 1)) = W2 at *
        obtain ⟨c2, f2⟩ := ints_cell HM2.out.c (i := y) (by omega)
        have hb2 : -(j : Int) - 1 ≤ M.up C x 1 y ∧ M.up C x 1 y ≤ j + 1 := by
          have := HCB.out y; unfold M.up; split <;> omega
        generalize hg : M.up C x 1 y = g at *
        have hwr : IntKind.i64.wrap (g - 1) = g - 1 := IntWalk.i64_in _ (by omega)
        have HG := Lib.hid hg
        clear hg hb2
        go_upto_region 8 with (go_at_call 38; (with_reducible refine (HI2 _).out.mono ?_); rintro e w1 ⟨rfl, rfl⟩)
        have HM3 : Hid (Mo w (W2.setCell ⟨w.heap.size + 1, y, none⟩ (.int .i64 (g - 1))) (fun _ => false) (M.chg (l.take (j + 1)))) := Lib.hid (by
          have h := HM2.out.count y (-1)
          rw [HG.out] at h
          exact h.ext (fun _ _ => rfl) (fun k _ => HUQ.out k))
        clear hwr c2 f2 hq
        generalize W2.setCell ⟨w.heap.size + 1, y, none⟩ (.int .i64 (g - 1)) = W3 at *
        go_wp2_with fail
        go_roundw
        case rel => exact ⟨j + 1, by omega, by go_num, HM3⟩
        case measure => simp [intOf]; omega
      · have d1 : decide (p < q) = false := by simpa using hpq
        have HM1 := HR.out.alloc (.cells #[.int .i64 p, .int .i64 q] 32)
        have HM3 := Lib.hid (HM1.ext (g := fun _ => false) (fun _ _ => rfl) (fun k _ => (HNO.out hpq k).symm))
        clear HM1 hpq
        go_wp2_with fail
        go_roundw
        case rel => exact ⟨j + 1, by omega, by go_num, HM3⟩
        case measure => simp [intOf]; omega
    · have hjl : j = l.length := by omega
      have HR0 : Hid (Mo w wr (fun k => if k < 0 then M.mn l k else false) (M.chg l)) := Lib.hid (by
        have h := HR.out
        rw [hjl, List.take_length] at h
        exact h.ext (fun k _ => by simp) (fun _ _ => rfl))
      clear hjl HR
      go_wp2_with fail
      clear hj hlt
      generalize j = j0 at *
      go_loopw [34, 6] (fun ii ss wr => ∃ j : Nat, j ≤ 1440 ∧ ii = .int .i64 j ∧ ss = .int .i64 (M.pre (M.chg l) j) ∧ Hid (Mo w wr (fun k => if k < j then M.mn l k else false) (M.chg l)))
        (fun ii _ _ => 1440 - (intOf ii).toNat)
      case atStart => exact ⟨0, Nat.zero_le _, rfl, rfl, HR0⟩
      case round =>
        obtain ⟨j, hj, rfl, rfl, HR⟩ := hrel
        clear HR0
        by_cases hlt : j < 1440
        · obtain ⟨c1, f1⟩ := ints_cell HR.out.c (i := j) (by omega)
          obtain ⟨c2, f2⟩ := bools_cell HR.out.m (i := j) hlt
          have hn := M.pre_chg j hlt l
          have hcl := M.cnt_le l j
          have hpo := M.cnt_pos l j
          have hst : M.pre (M.chg l) (j + 1) = M.pre (M.chg l) j + M.chg l j := rfl
          rw [hn] at hst
          obtain ⟨n, hcn⟩ : ∃ n, M.cnt l j = n := ⟨_, rfl⟩
          rw [hcn] at hst hcl hpo hn
          obtain ⟨x, hx⟩ : ∃ x, M.pre (M.chg l) j = x := ⟨_, rfl⟩
          obtain ⟨y, hy⟩ : ∃ x, M.chg l j = x := ⟨_, rfl⟩
          rw [hx, hy] at hst
          rw [hy] at c1
          rw [hx]
          have hwr : IntKind.i64.wrap (x + y) = (n : Int) := by rw [← hst]; exact IntWalk.i64_in _ (by omega)
          have hd : decide ((n : Int) > 0) = M.mn l j := by rw [← hpo]
          have hd2 : decide (0 < (n : Int)) = M.mn l j := hpo
          have hd3 : decide (0 < n) = M.mn l j := by rw [← hpo]; congr 1; simp
          have HM2 : Hid (Mo w (wr.setCell ⟨w.heap.size, j, none⟩ (.bool (M.mn l j))) (fun k => if k < j + 1 then M.mn l k else false) (M.chg l)) := Lib.hid ((HR.out.mark j (M.mn l j)).ext (fun k _ => by
            by_cases h1 : k = j
            · subst h1; simp
            · simp only [h1, if_false]
              by_cases h2 : k < j
              · rw [if_pos h2, if_pos (by omega)]
              · rw [if_neg h2, if_neg (by omega)]) (fun _ _ => rfl))
          have HN := Lib.hid hn
          generalize hmb : M.mn l j = mb at *
          clear hst hpo hn hcn hx hy hmb hcl
          go_upto_region 15 with (fail)
          clear hwr hd hd2 hd3 c1 c2 f1 f2
          generalize wr.setCell ⟨w.heap.size, j, none⟩ (.bool mb) = W2 at *
          go_wp2_with fail
          go_roundw
          case rel => exact ⟨j + 1, by omega, by go_num, by rw [HN.out], HM2⟩
          case measure => simp [intOf]; omega
        · have hj2 : j = 1440 := by omega
          have HRW : Hid (Mo w wr (M.mn l) (M.chg l)) := Lib.hid (HR.out.ext (fun k hk => by rw [if_pos (by omega)]) (fun _ _ => rfl))
          clear hj2 HR
          go_upto_region 16 with (fail)
          refine wp_region_list ?_
          refine wpList_load_row rfl 46 _ rfl w.heap.size rfl _ _ _ _ HRW.out.m Try.underlying46 rfl (by rw [bools_size]; exact Try.sizeM) ?_
          refine wpList_store_row rfl 46 _ _ rfl w.heap.size (bools (M.mn l)) rfl rfl _ _ HRW.out.m (by rw [bools_size]; exact Try.sizeM) rfl (bools_one _) ?_
          rw [setRow_self _ _ _ _ _ HRW.out.m]
          refine wpList_nil ?_
          go_wp2_with fail
          refine bodyPost_ret (v := .agg (bools (M.mn l))) ?_ rfl ⟨rfl, HRW.out.below⟩
          exact results_cell_row Try.results27 _ _ w.heap.size _ _ _ _ rfl HRW.out.m Try.underlying46 rfl (by rw [bools_size]; exact Try.sizeM)

end Go.Proofs.Ytgabfjcobcndaaa
