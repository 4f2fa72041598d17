/- Climb and the reference's Climb at all arguments: the same answer. -/
import Derived.Test.YthamligdmfhmeaaDoorRTop
import Derived.Test.YthamligdmfhmeaaDoorTrail
namespace Go.Proofs.YthamligdmfhmeaaDoor
open Go.RowKit

set_option maxRecDepth 100000 in
set_option maxHeartbeats 2000000 in
theorem climb_off (d : List UInt8) (at_ n : Int) (p cap : Nat) (a : Option Addr) (w : World) (hd : d.length = 32) (h : at_ < 0 ∨ n ≤ at_ ∨ 1099511627776 < n) :
    Calls Tryd.prog 13 #[.agg (byts d), .int .i64 at_, .int .i64 n, .slice a p cap] w fun e w' => e = .returned (.tuple #[.agg (byts zero32), .int .i64 1]) ∧ Below w.heap.size w w' := by
  have HDL := Lib.hid hd
  clear hd
  have hc : (decide (at_ < 0) = true ∧ True) ∨ (decide (at_ < 0) = false ∧ decide (n ≤ at_) = true) ∨ (decide (at_ < 0) = false ∧ decide (n ≤ at_) = false ∧ decide ((1099511627776 : Int) < n) = true) := by
    by_cases h1 : at_ < 0
    · exact .inl ⟨by rw [decide_eq_true_iff]; exact h1, trivial⟩
    · by_cases h2 : n ≤ at_
      · exact .inr (.inl ⟨by rw [decide_eq_false_iff_not]; exact h1, by rw [decide_eq_true_iff]; exact h2⟩)
      · exact .inr (.inr ⟨by rw [decide_eq_false_iff_not]; exact h1, by rw [decide_eq_false_iff_not]; exact h2, by rw [decide_eq_true_iff]; omega⟩)
  clear h
  rcases hc with ⟨g1, _⟩ | ⟨g1, g2⟩ | ⟨g1, g2, g3⟩
  all_goals
    go_enter Tryd.func13, Tryd.ntmps13
    go_step
    go_step
    refine wp_region_list ?_
    refine wpl_box rfl 24 _ rfl (byts d) rfl ?_
    refine wpl_cell rfl rfl ?_
    go_step
    go_step
    go_step
    refine wpList_nil ?_
    rename_i K1 hK1
    refine hK1 _ _ ?_
    clear hK1
    have HW := Lib.hid (boxes1 w HDL.out)
    go_simp
    generalize (w.alloc (.cells (byts d) 24)).alloc (.cells (byts zero32) 24) = W1 at HW ⊢
    go_upto_region 2 with (fail)
    refine wp_region_list ?_
    refine wpl_build_none rfl 24 rfl (byts zero32) byts_zero ?_
    refine wpl_put rfl _ _ rfl (w.heap.size + 1) _ zero32 rfl rfl HW.out.2.2 zero32_len ?_
    have HZ := Lib.hid (And.intro (below_setRow (C := w.heap.size + 1) HW.out.1 (by omega) (byts zero32)) (HW.out.2.2.set zero32_len))
    go_simp
    generalize W1.setRow (w.heap.size + 1) (byts zero32) = W2 at HZ ⊢
    go_step
    go_step
    go_step
    refine wpList_nil ?_
    go_wp2_with fail
    refine bodyPost_ret (v := .tuple #[.agg (byts zero32), .int .i64 1]) ?_ rfl ⟨rfl, HZ.out.1⟩
    exact ret_dig2 Tryd.results13 _ _ (w.heap.size + 1) _ _ rfl rfl HZ.out.2

theorem tops_any (d : List UInt8) (i n : Int) (p cap : Nat) (a : Option Addr) (ds : List (List UInt8)) (hd : d.length = 32) (hp : ds.length = p) (hpc : p ≤ cap) (hpl : p ≤ 1099511627776) :
    ∃ (rt : List UInt8) (er : Int), rt.length = 32 ∧ ∀ V, KT V → DigsAt V a ds →
      Calls Tryd.prog 13 #[.agg (byts d), .int .i64 i, .int .i64 n, .slice a p cap] V (fun e w' => e = .returned (.tuple #[.agg (byts rt), .int .i64 er]) ∧ Below V.heap.size V w') ∧
      Calls Tryd.prog 14 #[.agg (byts d), .int .i64 i, .int .i64 n, .slice a p cap] V (fun e w' => e = .returned (.tuple #[.agg (byts rt), .int .i64 er]) ∧ Below V.heap.size V w') := by
  by_cases hf : i < 0 ∨ n ≤ i ∨ 1099511627776 < n
  · exact ⟨zero32, 1, zero32_len, fun V _ _ => ⟨climb_off d i n p cap a V hd hf, rtop_far d i n p cap a V hd hf⟩⟩
  obtain ⟨I, rfl⟩ : ∃ I : Nat, i = I := ⟨i.toNat, by omega⟩
  obtain ⟨N, rfl⟩ : ∃ N : Nat, n = N := ⟨n.toNat, by omega⟩
  have h1 : I < N := by omega
  have h2 : N ≤ 1099511627776 := by omega
  clear hf
  have hok := H.climb_ok d N I N ds.reverse (by omega) (Nat.le_refl _) h2 h1
  rw [List.length_reverse, hp] at hok
  have hT := fun V hK hda => top_all d I N p cap a ds V hK hd hp hpc h1 h2 hpl hda
  by_cases hq : p = H.stp N I N
  · have hc : (H.climbR d I N ds.reverse).2 = true := by rw [hok]; exact decide_eq_true hq
    rw [hc] at hT
    refine ⟨(H.climbR d I N ds.reverse).1, 0, H.climbR_len _ _ _ _, fun V hK hda => ⟨hT V hK hda, ?_⟩⟩
    exact rtop_ok d _ I N p cap a V hd (H.climbR_len _ _ _ _) h1 h2 hq (fun W hW => rclimb_all p d I N a cap ds W hd hp hpc (by omega) h2 h1 hpl (hda.kept hW) hc)
  · have hc : (H.climbR d I N ds.reverse).2 = false := by rw [hok]; exact decide_eq_false hq
    rw [hc] at hT
    exact ⟨zero32, 1, zero32_len, fun V hK hda => ⟨hT V hK hda, rtop_len d I N p cap a V hd h1 h2 hq⟩⟩

end Go.Proofs.YthamligdmfhmeaaDoor
