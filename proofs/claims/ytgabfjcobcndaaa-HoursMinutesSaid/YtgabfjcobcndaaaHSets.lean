/- Contracts of Normal, Union, Meet, Minus. -/
import Derived.Test.YtgabfjcobcndaaaHCollect
import Derived.Deep.RegionWith
namespace Go.Proofs.Ytgabfjcobcndaaa
open Go.RowKit

/-- What hands back a list of spans. -/
def Hands (w : World) (l : List M.Sp) (e : Ending) (w' : World) : Prop := ∃ v, e = .returned v ∧ SL w' v l ∧ Below w.heap.size w w'

set_option maxRecDepth 100000 in
set_option maxHeartbeats 1000000 in
theorem collect_any (B : Nat) (f : Nat → Bool) (w : World) (hB : w.heap[B]? = some (.cells (bools f) 46 (0, 0))) :
    Calls Try.prog 25 #[.func (.func 37) #[] #[.pointer (some ⟨B, 0, none⟩)]] w (Hands w (M.N f)) := by
  have HA := Lib.hid (appendSeq_any B f w hB)
  go_enter Try.func25, Try.ntmps25
  go_wp2_with (go_at_call 36; (with_reducible refine HA.out.mono ?_); rintro e w1 ⟨v1, rfl, hs1, hb1⟩)
  go_ret
  exact ⟨_, rfl, hs1, hb1⟩

set_option maxRecDepth 100000 in
set_option maxHeartbeats 1000000 in
theorem normal_any {l : List M.Sp} {v : Value} {w : World} (h : SL w v l) :
    Calls Try.prog 14 #[v] w (Hands w (M.N (M.mn l))) := by
  have HM : Hid (Calls Try.prog 27 #[v] w fun e w1 => e = .returned (.agg (bools (M.mn l))) ∧ Hid (Calls Try.prog 26 #[.agg (bools (M.mn l))] w1 fun e w2 => e = .returned (.func (.func 37) #[] #[.pointer (some ⟨w1.heap.size, 0, none⟩)]) ∧
      Hid (Calls Try.prog 25 #[.func (.func 37) #[] #[.pointer (some ⟨w1.heap.size, 0, none⟩)]] w2 (Hands w (M.N (M.mn l)))))) := Lib.hid (by
    refine (minutesOf_any h).mono ?_
    rintro e w1 ⟨rfl, hb1⟩
    refine ⟨rfl, Lib.hid ?_⟩
    refine (longest_any _ w1).mono ?_
    rintro e w2 ⟨rfl, rfl⟩
    refine ⟨rfl, Lib.hid ?_⟩
    refine (collect_any w1.heap.size _ _ (heap_alloc_new w1 _)).mono ?_
    rintro e w3 ⟨v3, rfl, hs3, hb3⟩
    have hb2 := hb1.alloc hb1.size (.cells (bools (M.mn l)) 46)
    exact ⟨v3, rfl, hs3, hb2.trans (hb3.mono hb2.size)⟩)
  go_enter Try.func14, Try.ntmps14
  generalize bools (M.mn l) = r at *
  go_wp2_with (first
    | (go_at_call 27; (with_reducible refine HM.out.mono ?_); rintro e w1 ⟨rfl, HL⟩)
    | (go_at_call 26; (with_reducible refine HL.out.mono ?_); rintro e w2 ⟨rfl, HC⟩)
    | (go_at_call 25; (with_reducible refine HC.out.mono ?_); rintro e w3 ⟨v3, rfl, hs3, hb3⟩))
  go_ret
  exact ⟨_, rfl, hs3, hb3⟩

theorem below_setRow {n C : Nat} {w w' : World} (h : Below n w w') (hC : n ≤ C) (cs : Array Value) : Below n w (w'.setRow C cs) :=
  ⟨h.os, h.tape, h.output, by rw [setRow_size]; exact h.size, fun k hk => (setRow_other _ _ _ _ (by omega)).trans (h.block k hk)⟩
/-- What the arrays of a call of combined hold. -/
structure Cb (A : Nat) (w wr : World) (fa fb fc : Nat → Bool) : Prop where
  a : wr.heap[A]? = some (.cells (bools fa) 46 (0, 0))
  b : wr.heap[A + 1]? = some (.cells (bools fb) 46 (0, 0))
  c : wr.heap[A + 2]? = some (.cells (bools fc) 46 (0, 0))
  below : Below w.heap.size w wr
  le : w.heap.size ≤ A
theorem Cb.drew {A : Nat} {w wr : World} {fa fb fc : Nat → Bool} (h : Cb A w wr fa fb fc) : Cb A w wr.drew fa fb fc := ⟨h.a, h.b, h.c, h.below.drew, h.le⟩
theorem Cb.mark {A : Nat} {w wr : World} {fa fb fc : Nat → Bool} (h : Cb A w wr fa fb fc) (i : Nat) (b : Bool) : Cb A w (wr.setCell ⟨A + 2, i, none⟩ (.bool b)) fa fb (fun k => if k = i then b else fc k) :=
  ⟨(heap_set_off (by omega)).trans h.a, (heap_set_off (by omega)).trans h.b, bools_store h.c i b, h.below.setCell (p := ⟨A + 2, i, none⟩) (by have := h.le; simp; omega) _, h.le⟩
theorem Cb.ext {A : Nat} {w wr : World} {fa fb fc fd : Nat → Bool} (h : Cb A w wr fa fb fc) (h1 : ∀ k, k < 1440 → fc k = fd k) : Cb A w wr fa fb fd := ⟨h.a, h.b, bools_ext h1 ▸ h.c, h.below, h.le⟩
theorem alloc_heap_eq (w : World) (o : Obj) (k : Nat) (h : k = w.heap.size) : (w.alloc o).heap[k]? = some o := h ▸ heap_alloc_new w o

set_option maxRecDepth 100000 in
set_option maxHeartbeats 4000000 in
theorem combined_any {la lb : List M.Sp} {va vb : Value} {w : World} (ha : SL w va la) (hb : SL w vb lb) (k : Nat) (op : Bool → Bool → Bool) (hent : ∀ (args : Array Value) (W : World), (callFunc k args).run Try.prog W = .ok (.enter k args) W)
    (hop : ∀ x y W, Calls Try.prog k #[.bool x, .bool y] W fun e W' => e = .returned (.bool (op x y)) ∧ W = W') :
    Calls Try.prog 30 #[va, vb, .func (.func k) #[] #[]] w (Hands w (M.N (fun m => op (M.mn la m) (M.mn lb m)))) := by
  have HM : Hid (Calls Try.prog 27 #[va] w fun e w1 => e = .returned (.agg (bools (M.mn la))) ∧ Hid (Calls Try.prog 27 #[vb] w1 fun e w2 => e = .returned (.agg (bools (M.mn lb))) ∧ Hid (Below w.heap.size w w2))) := Lib.hid (by
    refine (minutesOf_any ha).mono ?_
    rintro e w1 ⟨rfl, hb1⟩
    refine ⟨rfl, Lib.hid ?_⟩
    refine (minutesOf_any (hb.kept hb1)).mono ?_
    rintro e w2 ⟨rfl, hb2⟩
    exact ⟨rfl, Lib.hid (hb1.trans (hb2.mono hb1.size))⟩)
  have HOP := Lib.hid hop
  clear ha hb hop
  go_enter Try.func30, Try.ntmps30
  go_wp2_with fail
  refine HM.out.mono ?_
  rintro e w1 ⟨rfl, HL⟩
  go_wp2_with fail
  refine HL.out.mono ?_
  rintro e w2 ⟨rfl, HB⟩
  clear HM HL
  rename_i K9 hK9
  refine hK9 _ _ ?_
  clear hK9
  have h0 := heap_alloc_new w2 (.cells (bools fun _ => false) 46)
  have h1 := heap_alloc_new (w2.alloc (.cells (bools fun _ => false) 46)) (.cells (bools fun _ => false) 46)
  rw [World.size_alloc] at h1
  have h0' := heap_lift h0 (.cells (bools fun _ => false) 46)
  refine wpl_alloc_row rfl 46 rfl _ zeroM ?_
  refine wpl_alloc_row rfl 46 rfl _ zeroM ?_
  rw [World.size_alloc]
  refine wpList_store_row rfl 46 _ _ rfl w2.heap.size (bools (M.mn la)) rfl rfl _ _ h0' (by rw [bools_size]; exact Try.sizeM) (by rw [bools_size, bools_size]) (bools_one _) ?_
  refine wpList_store_row rfl 46 _ _ rfl (w2.heap.size + 1) (bools (M.mn lb)) rfl rfl _ _ ((setRow_other _ _ _ _ (by omega)).trans h1) (by rw [bools_size]; exact Try.sizeM) (by rw [bools_size, bools_size]) (bools_one _) ?_
  refine wpList_nil ?_
  obtain ⟨W3, hW3⟩ : ∃ W3, (((w2.alloc (.cells (bools fun _ => false) 46)).alloc (.cells (bools fun _ => false) 46)).setRow w2.heap.size (bools (M.mn la))).setRow (w2.heap.size + 1) (bools (M.mn lb)) = W3 := ⟨_, rfl⟩
  have HW3 : Hid (W3.heap[w2.heap.size]? = some (.cells (bools (M.mn la)) 46 (0, 0)) ∧ W3.heap[w2.heap.size + 1]? = some (.cells (bools (M.mn lb)) 46 (0, 0)) ∧ W3.heap.size = w2.heap.size + 2 ∧ Below w.heap.size w W3) := Lib.hid (by
    rw [← hW3]
    refine ⟨(setRow_other _ _ _ _ (by omega)).trans (setRow_heap _ _ _ _ _ _ h0'), setRow_heap _ _ _ _ _ _ ((setRow_other _ _ _ _ (by omega)).trans h1), by simp [setRow_size], ?_⟩
    have hb := (HB.out.alloc HB.out.size (.cells (bools fun _ => false) 46)).alloc (by have := HB.out.size; simp; omega) (.cells (bools fun _ => false) 46)
    exact below_setRow (below_setRow hb HB.out.size _) (by have := HB.out.size; omega) _)
  rw [hW3]
  clear hW3 h0 h1 h0'
  rename_i K9 hK9
  refine hK9 _ _ ?_
  clear hK9
  go_simp
  go_step
  refine wp_region_list ?_
  refine wpl_alloc_row rfl 46 rfl _ zeroM ?_
  refine wpList_nil ?_
  rw [HW3.out.2.2.1]
  have HC : Hid (Cb w2.heap.size w (W3.alloc (.cells (bools fun _ => false) 46)) (M.mn la) (M.mn lb) (fun m => if m < 0 then op (M.mn la m) (M.mn lb m) else false)) := Lib.hid (by
    obtain ⟨e1, e2, e3, e4⟩ := HW3.out
    refine ⟨heap_lift e1 _, heap_lift e2 _, ?_, e4.alloc e4.size _, HB.out.size⟩
    rw [alloc_heap_eq _ _ _ e3.symm]
    rfl)
  generalize W3.alloc (.cells (bools fun _ => false) 46) = W4 at *
  generalize w2.heap.size = A at *
  generalize bools (M.mn la) = ra at *
  generalize bools (M.mn lb) = rb at *
  clear HW3 HB
  rename_i K9 hK9
  refine hK9 _ _ ?_
  clear hK9
  go_simp
  go_wp2_with fail
  go_loopw [15] (fun ii wr => ∃ j : Nat, j ≤ 1440 ∧ ii = .int .i64 j ∧ Hid (Cb A w wr (M.mn la) (M.mn lb) (fun m => if m < j then op (M.mn la m) (M.mn lb m) else false)))
    (fun ii _ => 1440 - (intOf ii).toNat)
  case atStart => exact ⟨0, Nat.zero_le _, rfl, HC⟩
  case round =>
    obtain ⟨j, hj, rfl, HR⟩ := hrel
    clear HC
    by_cases hlt : j < 1440
    · obtain ⟨ca, _⟩ := bools_cell HR.out.a (i := j) hlt
      obtain ⟨cb, _⟩ := bools_cell HR.out.b (i := j) hlt
      obtain ⟨cc, fc⟩ := bools_cell HR.out.c (i := j) hlt
      have HN : Hid (Cb A w (wr.setCell ⟨A + 2, j, none⟩ (.bool (op (M.mn la j) (M.mn lb j)))).drew (M.mn la) (M.mn lb) (fun m => if m < j + 1 then op (M.mn la m) (M.mn lb m) else false)) := Lib.hid (((HR.out.mark j _).ext (fun k _ => by
        by_cases h1 : k = j
        · subst h1; simp
        · simp only [h1, if_false]
          by_cases h2 : k < j
          · rw [if_pos h2, if_pos (by omega)]
          · rw [if_neg h2, if_neg (by omega)])).drew)
      obtain ⟨x, hx⟩ : ∃ x, M.mn la j = x := ⟨_, rfl⟩
      obtain ⟨y, hy⟩ : ∃ x, M.mn lb j = x := ⟨_, rfl⟩
      rw [hx] at ca; rw [hy] at cb; rw [hx, hy] at HN
      have HO := Lib.hid (HOP.out x y)
      clear hx hy
      generalize op x y = z at *
      go_wp2_with fail
      go_region_with ((with_reducible refine (HO.out _).mono ?_); rintro e w1 ⟨rfl, rfl⟩)
      all_goals
        clear ca cb cc fc
        generalize (wr.setCell ⟨A + 2, j, none⟩ (.bool z)).drew = W2 at *
        go_wp2_with fail
        go_roundw
        case rel => exact ⟨j + 1, by omega, by go_num, HN⟩
        case measure => simp [intOf]; omega
    · have HRW : Hid (Cb A w wr (M.mn la) (M.mn lb) (fun m => op (M.mn la m) (M.mn lb m))) := Lib.hid (HR.out.ext (fun m hm => by rw [if_pos (by omega)]))
      clear HR
      have HL := Lib.hid (longest_any (fun m => op (M.mn la m) (M.mn lb m)) wr)
      have HC : Hid (Calls Try.prog 25 #[.func (.func 37) #[] #[.pointer (some ⟨wr.heap.size, 0, none⟩)]] (wr.alloc (.cells (bools (fun m => op (M.mn la m) (M.mn lb m))) 46)) (Hands w (M.N (fun m => op (M.mn la m) (M.mn lb m))))) := Lib.hid (by
        refine (collect_any wr.heap.size _ _ (heap_alloc_new wr _)).mono ?_
        rintro e w3 ⟨v3, rfl, hs3, hb3⟩
        have hb2 := HRW.out.below.alloc HRW.out.below.size (.cells (bools (fun m => op (M.mn la m) (M.mn lb m))) 46)
        exact ⟨v3, rfl, hs3, hb2.trans (hb3.mono hb2.size)⟩)
      have hload := HRW.out.c
      have hsz := bools_size (fun m => op (M.mn la m) (M.mn lb m))
      generalize bools (fun m => op (M.mn la m) (M.mn lb m)) = r at *
      go_upto_region 8 with (fail)
      refine wp_region_list ?_
      refine wpList_load_row rfl 46 _ rfl (A + 2) rfl _ _ _ _ hload Try.underlying46 rfl (by rw [hsz]; exact Try.sizeM) ?_
      go_wp2_with (first
        | (go_at_call 26; (with_reducible refine HL.out.mono ?_); rintro e w2 ⟨rfl, rfl⟩)
        | (go_at_call 25; (with_reducible refine HC.out.mono ?_); rintro e w3 ⟨v3, rfl, hs3, hb3⟩))
      go_ret
      exact ⟨_, rfl, hs3, hb3⟩

set_option maxHeartbeats 1000000 in
theorem or_any (x y : Bool) (W : World) : Calls Try.prog 31 #[.bool x, .bool y] W fun e W' => e = .returned (.bool (x || y)) ∧ W = W' := by
  cases x <;> cases y
  all_goals
    go_enter Try.func31, Try.ntmps31
    go_wp2
    go_ret
    exact ⟨rfl, rfl⟩
set_option maxHeartbeats 1000000 in
theorem and_any (x y : Bool) (W : World) : Calls Try.prog 32 #[.bool x, .bool y] W fun e W' => e = .returned (.bool (x && y)) ∧ W = W' := by
  cases x <;> cases y
  all_goals
    go_enter Try.func32, Try.ntmps32
    go_wp2
    go_ret
    exact ⟨rfl, rfl⟩
set_option maxHeartbeats 1000000 in
theorem not_any (x y : Bool) (W : World) : Calls Try.prog 33 #[.bool x, .bool y] W fun e W' => e = .returned (.bool (x && !y)) ∧ W = W' := by
  cases x <;> cases y
  all_goals
    go_enter Try.func33, Try.ntmps33
    go_wp2
    go_ret
    exact ⟨rfl, rfl⟩

set_option maxRecDepth 100000 in
set_option maxHeartbeats 1000000 in
theorem union_any {la lb : List M.Sp} {va vb : Value} {w : World} (ha : SL w va la) (hb : SL w vb lb) :
    Calls Try.prog 16 #[va, vb] w (Hands w (M.N (fun m => M.mn la m || M.mn lb m))) := by
  have HC := Lib.hid (combined_any ha hb 31 (fun x y => x || y) (enters_of Try.func31 (by kernel_rfl) rfl) or_any)
  go_enter Try.func16, Try.ntmps16
  go_wp2_with (go_at_call 30; (with_reducible refine HC.out.mono ?_); rintro e w3 ⟨v3, rfl, hs3, hb3⟩)
  go_ret
  exact ⟨_, rfl, hs3, hb3⟩
set_option maxRecDepth 100000 in
set_option maxHeartbeats 1000000 in
theorem meet_any {la lb : List M.Sp} {va vb : Value} {w : World} (ha : SL w va la) (hb : SL w vb lb) :
    Calls Try.prog 18 #[va, vb] w (Hands w (M.N (fun m => M.mn la m && M.mn lb m))) := by
  have HC := Lib.hid (combined_any ha hb 32 (fun x y => x && y) (enters_of Try.func32 (by kernel_rfl) rfl) and_any)
  go_enter Try.func18, Try.ntmps18
  go_wp2_with (go_at_call 30; (with_reducible refine HC.out.mono ?_); rintro e w3 ⟨v3, rfl, hs3, hb3⟩)
  go_ret
  exact ⟨_, rfl, hs3, hb3⟩
set_option maxRecDepth 100000 in
set_option maxHeartbeats 1000000 in
theorem minus_any {la lb : List M.Sp} {va vb : Value} {w : World} (ha : SL w va la) (hb : SL w vb lb) :
    Calls Try.prog 20 #[va, vb] w (Hands w (M.N (fun m => M.mn la m && !M.mn lb m))) := by
  have HC := Lib.hid (combined_any ha hb 33 (fun x y => x && !y) (enters_of Try.func33 (by kernel_rfl) rfl) not_any)
  go_enter Try.func20, Try.ntmps20
  go_wp2_with (go_at_call 30; (with_reducible refine HC.out.mono ?_); rintro e w3 ⟨v3, rfl, hs3, hb3⟩)
  go_ret
  exact ⟨_, rfl, hs3, hb3⟩

end Go.Proofs.Ytgabfjcobcndaaa
