/- Contract of the reference's Climb. -/
import Derived.Test.YthamligdmfhmeaaDoorRClimbAll
import Derived.Test.YthamligdmfhmeaaDoorRLength
namespace Go.Proofs.YthamligdmfhmeaaDoor
open Go.RowKit

set_option maxRecDepth 100000 in
set_option maxHeartbeats 2000000 in
theorem rtop_far (d : List UInt8) (at_ n : Int) (p cap : Nat) (a : Option Addr) (w : World) (hd : d.length = 32) (h : at_ < 0 ∨ n ≤ at_ ∨ 1099511627776 < n) :
    Calls Tryd.prog 14 #[.agg (byts d), .int .i64 at_, .int .i64 n, .slice a p cap] w fun e w' => e = .returned (.tuple #[.agg (byts zero32), .int .i64 1]) ∧ Below w.heap.size w w' := by
  have HDL := Lib.hid hd
  clear hd
  have hc : decide (n < 1) = true ∨ (decide (n < 1) = false ∧ decide ((1099511627776 : Int) < n) = true) ∨ (decide (n < 1) = false ∧ decide ((1099511627776 : Int) < n) = false ∧ decide (at_ < 0) = true) ∨ (decide (n < 1) = false ∧ decide ((1099511627776 : Int) < n) = false ∧ decide (at_ < 0) = false ∧ decide (n ≤ at_) = true) := by
    simp only [decide_eq_true_iff, decide_eq_false_iff_not]
    omega
  clear h
  rcases hc with g1 | ⟨g1, g2⟩ | ⟨g1, g2, g3⟩ | ⟨g1, g2, g3, g4⟩
  all_goals
    go_enter Tryd.func14, Tryd.ntmps14
    go_step
    go_step
    refine wp_region_list ?_
    refine wpl_box rfl 24 _ rfl (byts d) rfl ?_
    refine wpl_cell rfl rfl ?_
    iterate 3 (try go_step)
    refine wpList_nil ?_
    rename_i K1 hK1
    refine hK1 _ _ ?_
    clear hK1
    have HW := Lib.hid (boxes1 w HDL.out)
    go_simp
    generalize (w.alloc (.cells (byts d) 24)).alloc (.cells (byts zero32) 24) = W1 at HW ⊢
    go_upto_region 2 with (fail)
    refine wp_region_list ?_
    refine wpl_build_none rfl 24 rfl (byts zero32) byts_zero ?_
    refine wpl_put rfl _ _ rfl (w.heap.size + 1) _ zero32 rfl rfl HW.out.2.2 zero32_len ?_
    have HZ := Lib.hid (And.intro (below_setRow (C := w.heap.size + 1) HW.out.1 (by omega) (byts zero32)) (HW.out.2.2.set zero32_len))
    go_simp
    generalize W1.setRow (w.heap.size + 1) (byts zero32) = W2 at HZ ⊢
    iterate 3 (try go_step)
    refine wpList_nil ?_
    go_wp2_with fail
    refine bodyPost_ret (v := .tuple #[.agg (byts zero32), .int .i64 1]) ?_ rfl ⟨rfl, HZ.out.1⟩
    exact ret_dig2 Tryd.results14 _ _ (w.heap.size + 1) _ _ rfl rfl HZ.out.2

set_option maxRecDepth 100000 in
set_option maxHeartbeats 2000000 in
theorem rtop_len (d : List UInt8) (at_ n p cap : Nat) (a : Option Addr) (w : World) (hd : d.length = 32) (h1 : at_ < n) (h2 : n ≤ 1099511627776) (hp : p ≠ H.stp n at_ n) :
    Calls Tryd.prog 14 #[.agg (byts d), .int .i64 at_, .int .i64 n, .slice a p cap] w fun e w' => e = .returned (.tuple #[.agg (byts zero32), .int .i64 1]) ∧ Below w.heap.size w w' := by
  have HDL := Lib.hid hd
  have HS := Lib.hid (fun W => rlength_all n at_ n W (Nat.le_refl _) h2 (by omega) h1)
  obtain ⟨q, hq⟩ : ∃ q, H.stp n at_ n = q := ⟨_, rfl⟩
  rw [hq] at HS hp
  have g1 : decide ((n : Int) < 1) = false := by simp; omega
  have g2 : decide ((1099511627776 : Int) < (n : Int)) = false := by simp; omega
  have g3 : decide ((at_ : Int) < 0) = false := by simp
  have g4 : decide ((n : Int) ≤ (at_ : Int)) = false := by simp; omega
  have g4' : decide (n ≤ at_) = false := by simp; omega
  have g5 : ((p : Int) == (q : Int)) = false := by simp; omega
  clear hd hq hp h1 h2
  go_enter Tryd.func14, Tryd.ntmps14
  go_step
  go_step
  refine wp_region_list ?_
  refine wpl_box rfl 24 _ rfl (byts d) rfl ?_
  refine wpl_cell rfl rfl ?_
  iterate 3 (try go_step)
  refine wpList_nil ?_
  rename_i K1 hK1
  refine hK1 _ _ ?_
  clear hK1
  have HW := Lib.hid (boxes1 w HDL.out)
  go_simp
  generalize (w.alloc (.cells (byts d) 24)).alloc (.cells (byts zero32) 24) = W1 at HW ⊢
  go_upto_region 2 with (go_at_call 28; (with_reducible refine (HS.out _).mono ?_); rintro e w' ⟨rfl, rfl⟩)
  refine wp_region_list ?_
  refine wpl_build_none rfl 24 rfl (byts zero32) byts_zero ?_
  refine wpl_put rfl _ _ rfl (w.heap.size + 1) _ zero32 rfl rfl HW.out.2.2 zero32_len ?_
  have HZ := Lib.hid (And.intro (below_setRow (C := w.heap.size + 1) HW.out.1 (by omega) (byts zero32)) (HW.out.2.2.set zero32_len))
  go_simp
  generalize W1.setRow (w.heap.size + 1) (byts zero32) = W2 at HZ ⊢
  iterate 3 (try go_step)
  refine wpList_nil ?_
  go_wp2_with fail
  refine bodyPost_ret (v := .tuple #[.agg (byts zero32), .int .i64 1]) ?_ rfl ⟨rfl, HZ.out.1⟩
  exact ret_dig2 Tryd.results14 _ _ (w.heap.size + 1) _ _ rfl rfl HZ.out.2
set_option maxRecDepth 100000 in
set_option maxHeartbeats 2000000 in
theorem rtop_ok (d r : List UInt8) (at_ n p cap : Nat) (a : Option Addr) (w : World) (hd : d.length = 32) (hr : r.length = 32) (h1 : at_ < n) (h2 : n ≤ 1099511627776) (hp : p = H.stp n at_ n)
    (hcl : ∀ W, Below w.heap.size w W → Calls Tryd.prog 29 #[.agg (byts d), .int .i64 at_, .int .i64 n, .slice a p cap] W fun e w' => e = .returned (.agg (byts r)) ∧ Below W.heap.size W w') :
    Calls Tryd.prog 14 #[.agg (byts d), .int .i64 at_, .int .i64 n, .slice a p cap] w fun e w' => e = .returned (.tuple #[.agg (byts r), .int .i64 0]) ∧ Below w.heap.size w w' := by
  have HDL := Lib.hid hd; have HRL := Lib.hid hr; have HCL := Lib.hid hcl
  have HS := Lib.hid (fun W => rlength_all n at_ n W (Nat.le_refl _) h2 (by omega) h1)
  rw [← hp] at HS
  have g1 : decide ((n : Int) < 1) = false := by simp; omega
  have g2 : decide ((1099511627776 : Int) < (n : Int)) = false := by simp; omega
  have g3 : decide ((at_ : Int) < 0) = false := by simp
  have g4 : decide ((n : Int) ≤ (at_ : Int)) = false := by simp; omega
  have g4' : decide (n ≤ at_) = false := by simp; omega
  clear hd hr hp h1 h2 hcl
  go_enter Tryd.func14, Tryd.ntmps14
  go_step
  go_step
  refine wp_region_list ?_
  refine wpl_box rfl 24 _ rfl (byts d) rfl ?_
  refine wpl_cell rfl rfl ?_
  iterate 3 (try go_step)
  refine wpList_nil ?_
  rename_i K1 hK1
  refine hK1 _ _ ?_
  clear hK1
  have HW := Lib.hid (boxes1 w HDL.out)
  go_simp
  generalize (w.alloc (.cells (byts d) 24)).alloc (.cells (byts zero32) 24) = W1 at HW ⊢
  have HL := Lib.hid (HCL.out W1 HW.out.1)
  go_upto_region 3 with (go_at_call 28; (with_reducible refine (HS.out _).mono ?_); rintro e w' ⟨rfl, rfl⟩)
  refine wp_region_list ?_
  refine wpl_get rfl _ rfl w.heap.size d rfl HW.out.2.1 ?_
  go_simp
  go_wp2_with fail
  refine HL.out.mono ?_
  rintro e w4 ⟨rfl, hb4⟩
  rename_i K9 hK9
  refine hK9 _ _ ?_
  clear hK9
  have hd4 := HW.out.2.2.kept hb4 HW.out.2.2.lt
  refine wpl_put rfl _ _ rfl (w.heap.size + 1) _ r rfl rfl hd4 HRL.out ?_
  have HZ := Lib.hid (And.intro (below_setRow (C := w.heap.size + 1) (HW.out.1.trans (hb4.mono HW.out.1.size)) (by omega) (byts r)) (hd4.set HRL.out))
  clear hd4 hb4
  go_simp
  generalize w4.setRow (w.heap.size + 1) (byts r) = W5 at HZ ⊢
  iterate 3 (try go_step)
  refine wpList_nil ?_
  go_wp2_with fail
  refine bodyPost_ret (v := .tuple #[.agg (byts r), .int .i64 0]) ?_ rfl ⟨rfl, HZ.out.1⟩
  exact ret_dig2 Tryd.results14 _ _ (w.heap.size + 1) _ _ rfl rfl HZ.out.2

end Go.Proofs.YthamligdmfhmeaaDoor
