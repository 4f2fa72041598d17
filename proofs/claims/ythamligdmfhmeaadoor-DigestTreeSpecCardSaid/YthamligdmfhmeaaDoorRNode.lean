/- Contract of the reference's node. -/
import Derived.Test.YthamligdmfhmeaaDoorRTagged
import Derived.Test.YthamligdmfhmeaaDoorPair
import Derived.Test.YthamligdmfhmeaaDoorJoin
namespace Go.Proofs.YthamligdmfhmeaaDoor
open Go.RowKit

theorem step_putn {ops : Array Oper} {o : Oper} {a : Act} {K : Act → World → Prop} {Q : Exit → Act → World → Prop} {E : Prop} {w : World} (t : Option Tmp) (hdst : o.dst = t) (hgd : o.guard = none) (x y : Operand) (ho : o.op = .store 24 x y)
    (B : Nat) (d e : List UInt8) (hx : a.eval x = .pointer (some ⟨B, 0, none⟩)) (hy : a.eval y = .agg (byts e)) (hd : Dig w B d) (he : e.length = 32)
    (h : K (a.put t undef) (w.setRow B (byts e))) :
    if Region.wanted o (yielded ops a.tmps) = true then Oper.wp Tryd.prog o a w K Q else E := by
  subst hdst
  have hw : Region.wanted o (yielded ops a.tmps) = true := by simp [Region.wanted, hgd]
  rw [if_pos hw]
  have hi := byts_size32 he
  have hr := run_storeVar_row (P := Tryd.prog) w B 24 24 _ (byts e) hd.1 hi (by rw [byts_size, byts_size, hd.2, he]) (byts_one _)
  unfold Oper.wp execOp
  simp only [ho, hx, hy, Instr.storeAt, Instr.sureAddr, Sem.run_bind, Sem.run_pure, Result.andThen_ok, hr]
  simpa [go_sem] using h

set_option maxRecDepth 100000 in
set_option maxHeartbeats 4000000 in
theorem rnode_any (a b : List UInt8) (w : World) (ha : a.length = 32) (hb : b.length = 32) :
    Calls Tryd.prog 24 #[.agg (byts a), .agg (byts b)] w fun e w' => e = .returned (.agg (byts (H.node a b))) ∧ Below w.heap.size w w' := by
  have HA := Lib.hid ha; have HB := Lib.hid hb
  clear ha hb
  obtain ⟨r, hr⟩ : ∃ r, H.node a b = r := ⟨_, rfl⟩
  have hrl : r.length = 32 := by rw [← hr]; exact H.tagged_len _ _
  rw [hr]
  have HR := Lib.hid hr; have HRL := Lib.hid hrl
  clear hr hrl
  go_enter Tryd.func24, Tryd.ntmps24
  go_step
  go_step
  refine wp_region_list ?_
  refine wpl_box rfl 24 _ rfl (byts a) rfl ?_
  refine wpl_box rfl 24 _ rfl (byts b) rfl ?_
  refine wpl_cell rfl rfl ?_
  refine wpList_nil ?_
  rename_i K1 hK1
  refine hK1 _ _ ?_
  clear hK1
  have HW := Lib.hid (boxes2 w HA.out HB.out)
  go_simp
  generalize ((w.alloc (.cells (byts a) 24)).alloc (.cells (byts b) 24)).alloc (.cells (byts zero32) 24) = W1 at HW ⊢
  have HWB := Lib.hid HW.out.1
  have HG2 := Lib.hid (show w.heap.size ≤ w.heap.size + 1 + 1 by omega)
  have HWD := Lib.hid HW.out.2
  clear HW
  generalize w.heap.size + 1 + 1 = g2 at HWD HG2 ⊢
  generalize w.heap.size + 1 = g1 at HWD ⊢
  obtain ⟨g0, hg0⟩ : ∃ g0, w.heap.size = g0 := ⟨_, rfl⟩
  have HG0 := Lib.hid hg0
  rw [hg0] at HWD
  rw [hg0]
  clear hg0
  have HT : Hid (∀ V A c, Below W1.heap.size W1 V → V.ownsRow W1.heap.size 5 1 (.slice A (0 + 32 + 32) c) (0 + 32 + 32) (bytes (([] ++ a) ++ b)) → Calls Tryd.prog 22 #[.string ⟨#[110, 111, 100, 101]⟩, .slice A (0 + 32 + 32) c] V fun e w' => e = .returned (.agg (byts r)) ∧ Hid (Below W1.heap.size W1 w')) := Lib.hid (fun V A c hV ho => by
    obtain ⟨hc, hby⟩ := owns_slice ho
    refine (rtagged_any ⟨#[110, 111, 100, 101]⟩ A (0 + 32 + 32) c (([] ++ a) ++ b) V (by decide) (by simp [HA.out, HB.out]) (by decide) hby).mono ?_
    rintro e w' ⟨rfl, hb⟩
    exact ⟨by rw [← HR.out]; rfl, Lib.hid (hV.trans (hb.mono hV.size))⟩)
  have har1 := array_all g0
  have har2 := array_all g1
  have HI : Hid (Below W1.heap.size W1 W1.drew) := Lib.hid (Below.refl _ _).drew
  go_wp2_with fail
  refine wp_region_any (by kernel_rfl) ?_
  change wpAny _ _ _ _ _ _ _ (World.drew _)
  refine wpAny_take (i := 1) (v := ?_) rfl (by kernel_rfl) (by kernel_rfl) (by kernel_rfl) (fun _ _ _ h => h) (Or.inl ⟨by rfl, ?_⟩) ?_
  rotate_left
  · intro W'
    have h := har1 W'
    first
      | (go_simp; with_reducible rfl)
      | (simp [Act.eval, h, go_sem]; with_reducible rfl)
  refine wpAny_take (i := 3) (v := ?_) rfl (by kernel_rfl) (by kernel_rfl) (by kernel_rfl) (fun _ _ _ h => h) (Or.inl ⟨by rfl, ?_⟩) ?_
  rotate_left
  · intro W'
    have h := har2 W'
    first
      | (go_simp; with_reducible rfl)
      | (simp [Act.eval, h, go_sem]; with_reducible rfl)
  refine wpAny_ready (rs := [0]) (by kernel_rfl) (by simp) ?_
  refine AllReady.cons rfl (fun K hK => ?_) AllReady.nil
  go_simp
  refine hK _ _ ?_
  clear hK K
  have HE : Hid ((W1.alloc (.cells #[] 5 (0, 0))).drew.ownsRow W1.heap.size 5 1 (.slice (some ⟨W1.heap.size, 0, none⟩) 0 0) 0 (bytes []) ∧ Below W1.heap.size W1 (W1.alloc (.cells #[] 5 (0, 0))).drew) := Lib.hid ⟨owns_none W1.heap.size W1 (Nat.le_refl _), ((Below.refl _ _).alloc (Nat.le_refl _) _).drew⟩
  generalize (W1.alloc (.cells #[] 5 (0, 0))).drew = V2 at HE ⊢
  refine wpAny_ready (rs := [2]) (by kernel_rfl) (by simp) ?_
  refine AllReady.cons rfl (fun K hK => ?_) AllReady.nil
  refine step_cat rfl _ _ (by rfl) W1.heap.size _ 0 [] (by rfl) HE.out.1 (some ⟨g0, 0, none⟩) 32 32 a (by rfl) HA.out (HWD.out.1.kept HE.out.2 HWD.out.1.lt).bytes (by decide) HE.out.2.size ?_
  intro A3 c3 w3 ho3 hk3
  have HF := Lib.hid (And.intro ho3 (HE.out.2.trans (hk3.below HE.out.2.size)))
  clear ho3 hk3
  (try go_simp)
  refine hK _ _ ?_
  clear hK K
  refine wpAny_ready (rs := [4]) (by kernel_rfl) (by simp) ?_
  refine AllReady.cons rfl (fun K hK => ?_) AllReady.nil
  refine step_cat rfl _ _ (by rfl) W1.heap.size _ (0 + 32) ([] ++ a) (by rfl) HF.out.1 (some ⟨g1, 0, none⟩) 32 32 b (by rfl) HB.out (HWD.out.2.1.kept HF.out.2 HWD.out.2.1.lt).bytes (by decide) HF.out.2.size ?_
  intro A4 c4 w4 ho4 hk4
  have HG := Lib.hid (And.intro ho4 (HF.out.2.trans (hk4.below HF.out.2.size)))
  clear ho4 hk4
  (try go_simp)
  refine hK _ _ ?_
  clear hK K
  refine wpAny_ready (rs := [5]) (by kernel_rfl) (by simp) ?_
  refine AllReady.cons rfl (fun K hK => ?_) AllReady.nil
  go_simp
  refine (HT.out _ _ _ HG.out.2 HG.out.1).mono ?_
  rintro e w5 ⟨rfl, HX⟩
  refine hK _ _ ?_
  clear hK K
  refine wpAny_ready (rs := [6]) (by kernel_rfl) (by simp) ?_
  refine AllReady.cons rfl (fun K hK => ?_) AllReady.nil
  refine step_putn (none) rfl rfl _ _ rfl g2 zero32 r (by rfl) (by rfl) (HWD.out.2.2.kept HX.out HWD.out.2.2.lt) HRL.out ?_
  (try go_simp)
  refine hK _ _ ?_
  clear hK K
  refine wpAny_done (by kernel_rfl) ?_ _
  have HZ := Lib.hid (And.intro (below_setRow (C := g2) (HWB.out.trans (HX.out.mono HWB.out.size)) HG2.out (byts r)) ((HWD.out.2.2.kept HX.out HWD.out.2.2.lt).set HRL.out))
  go_wp2_with fail
  refine bodyPost_ret (v := .agg (byts r)) ?_ rfl ⟨rfl, HZ.out.1⟩
  exact ret_dig Tryd.results24 _ _ g2 _ rfl HZ.out.2

end Go.Proofs.YthamligdmfhmeaaDoor
