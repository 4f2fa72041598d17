/- The law of the climbs: paths lead to the digest of the list. -/
import Derived.Test.YtaamifgneopocaaDoorTrail
import Derived.Test.YtaamifgneopocaaDoorSane
import Derived.Test.YtaamifgneopocaaDoorDigStep
import Derived.Deep.CutRange
import Derived.Deep.DeepCutAuto
namespace Go.Proofs.YtaamifgneopocaaDoor
open Go.RowKit

/-- Climb, at any place of a list. -/
theorem top_all (d : List UInt8) (at_ n p cap : Nat) (a : Option Addr) (ds : List (List UInt8)) (w : World) (hK : KT w) (hd : d.length = 32) (hp : ds.length = p) (hpc : p ≤ cap) (h1 : at_ < n) (h2 : n ≤ 1099511627776) (hpl : p ≤ 1099511627776) (hda : DigsAt w a ds) :
    Calls Tryd.prog 22 #[.agg (byts d), .int .i64 at_, .int .i64 n, .slice a p cap] w fun e w' =>
      e = .returned (.tuple #[.agg (byts (if (H.climbR d at_ n ds.reverse).2 then (H.climbR d at_ n ds.reverse).1 else zero32)), .int .i64 (if (H.climbR d at_ n ds.reverse).2 then 0 else 1)]) ∧ Below w.heap.size w w' :=
  top_in d _ _ at_ n p cap a w hd (H.climbR_len _ _ _ _) h1 h2 fun W hW => (climb_all p d at_ n a cap ds W (hK.kept hW hK.pos) hd hp hpc (by omega) h2 h1 hpl (hda.kept hW))

set_option maxRecDepth 100000 in
set_option maxHeartbeats 4000000 in
theorem climbs_walk (a : Option Addr) (n cap : Nat) (bs : List UInt8) (w : World) (hK : KT w) (hn : bs.length = n) (hc : n ≤ cap) (hb : BytesAt w a bs) :
    Calls Tryd.prog 5 #[.slice a n cap] w fun e w' => e = .returned (.bool true) ∧ Below w.heap.size w w' := by
  have HK := Lib.hid hK; have HB := Lib.hid hb; have HN := Lib.hid hn; have HCAP := Lib.hid hc
  clear hK hb hn hc
  have HS := Lib.hid (sane_any w HK.out)
  go_enter Tryd.func5, Tryd.ntmps5
  go_wp2_with fail
  refine HS.out.mono ?_
  rintro e w1 ⟨rfl, hb1⟩
  have HW1 := Lib.hid hb1
  clear hb1 HS
  have HO := Lib.hid (digestsOf_any a n cap bs w1 HN.out HCAP.out (HB.out.kept HW1.out))
  go_wp2_with fail
  refine HO.out.mono ?_
  rintro e w2 ⟨A, m, c, ds, rfl, hmc, h24, hm, hds, hb2⟩
  have HW2 := Lib.hid (HW1.out.trans (hb2.mono HW1.out.size))
  have HDS := Lib.hid hds; have HM := Lib.hid hm; have HMC := Lib.hid hmc; have H24 := Lib.hid h24
  clear HO HW1 hds hm hmc hb2 HB HN HCAP
  obtain ⟨t, ht⟩ : ∃ t, H.tree ds = t := ⟨_, rfl⟩
  have htl : t.length = 32 := by rw [← ht]; exact H.tree_len _
  have HT := Lib.hid ht; have HTL := Lib.hid htl
  clear ht htl
  have HTT : Hid (Calls Tryd.prog 17 #[.slice A m c] w2 fun e w' => e = .returned (.agg (byts t)) ∧ Hid (Below w2.heap.size w2 w')) := Lib.hid (by
    have h24 := H24.out
    refine (tree_all m A m c ds w2 (Nat.le_refl _) (HK.out.kept HW2.out HK.out.pos) HM.out HMC.out (by omega) HDS.out).mono ?_
    rintro e w' ⟨rfl, hb⟩
    exact ⟨by rw [HT.out], Lib.hid hb⟩)
  go_wp2_with fail
  refine HTT.out.mono ?_
  rintro e w3 ⟨rfl, HI⟩
  rename_i K9 hK9
  refine hK9 _ _ ?_
  clear hK9 HTT
  refine wpl_cell rfl rfl ?_
  refine wpl_put rfl _ _ rfl w3.heap.size zero32 t rfl rfl (Dig.new w3 zero32_len) HTL.out ?_
  refine wpList_nil ?_
  have HW : Hid (Below w.heap.size w ((w3.alloc (.cells (byts zero32) 26)).setRow w3.heap.size (byts t)) ∧ DigsAt ((w3.alloc (.cells (byts zero32) 26)).setRow w3.heap.size (byts t)) A ds ∧
      Dig ((w3.alloc (.cells (byts zero32) 26)).setRow w3.heap.size (byts t)) w3.heap.size t) := Lib.hid (by
    have h2 : Below w2.heap.size w2 ((w3.alloc (.cells (byts zero32) 26)).setRow w3.heap.size (byts t)) := below_setRow (HI.out.alloc HI.out.size _) HI.out.size _
    exact ⟨HW2.out.trans (h2.mono HW2.out.size), HDS.out.kept h2, (Dig.new w3 zero32_len).set HTL.out⟩)
  clear HI HW2 HDS
  go_simp
  generalize (w3.alloc (.cells (byts zero32) 26)).setRow w3.heap.size (byts t) = W at HW ⊢
  generalize w3.heap.size = g at HW ⊢
  go_wp2_with fail
  go_loopw [21] (fun ii wr => ∃ i : Nat, i ≤ m ∧ ii = .int .i64 i ∧ Hid (Below W.heap.size W wr)) (fun ii _ => m - (intOf ii).toNat)
  case atStart => exact ⟨0, Nat.zero_le _, rfl, Lib.hid (Below.refl _ _)⟩
  case round =>
    obtain ⟨i, hi, rfl, HR⟩ := hrel
    by_cases hlt : i < m
    · have hil : i < ds.length := by rw [HM.out]; exact hlt
      obtain ⟨d, hd⟩ : ∃ d, d = ds[i] := ⟨_, rfl⟩
      have hdl : d.length = 32 := by rw [hd]; exact HW.out.2.1.1 _ (List.getElem_mem hil)
      have hdi : ds[i]? = some d := by rw [hd]; exact List.getElem?_eq_getElem hil
      have hdw := HW.out.2.1.kept HR.out
      obtain ⟨b, off, ha, hb, hcl⟩ := hdw.elem hil
      rw [← hd] at hcl
      have HDA := Lib.hid hdw
      subst ha
      rw [Nat.mul_comm 32 i] at hcl
      have HC := Lib.hid hcl; have HDL := Lib.hid hdl; have HDI := Lib.hid hdi
      have hmm : m ≤ 24 := H24.out
      clear hdw hcl hd hdl hdi hil hb
      go_upto_region 7 with (fail)
      refine wp_region_list ?_
      go_step
      go_step
      go_step
      go_step
      go_step
      refine wpl_elem rfl _ rfl b (off + i * 32) d rfl HDL.out HC.out ?_
      refine wpl_cell rfl rfl ?_
      go_step
      go_step
      go_step
      refine wpl_put rfl _ _ rfl wr.heap.size zero32 d rfl rfl (Dig.new wr zero32_len) HDL.out ?_
      refine wpList_nil ?_
      have HQ : Hid (Below W.heap.size W ((wr.alloc (.cells (byts zero32) 26)).setRow wr.heap.size (byts d)) ∧ Dig ((wr.alloc (.cells (byts zero32) 26)).setRow wr.heap.size (byts d)) wr.heap.size d) :=
        Lib.hid ⟨below_setRow (HR.out.alloc HR.out.size _) HR.out.size _, (Dig.new wr zero32_len).set HDL.out⟩
      clear HR
      go_simp
      generalize (wr.alloc (.cells (byts zero32) 26)).setRow wr.heap.size (byts d) = W1 at HQ ⊢
      generalize wr.heap.size = g6 at HQ ⊢
      obtain ⟨ss, hss⟩ : ∃ ss, ss = H.sibsF m ds i := ⟨_, rfl⟩
      have hcs := H.climb_sibs m i ds d (by rw [HM.out]; exact Nat.le_refl _) (by rw [HM.out]; omega) HDI.out
      have hsl := H.sibs_steps m i ds (by rw [HM.out]; exact Nat.le_refl _) (by rw [HM.out]; omega) (by rw [HM.out]; exact hlt)
      have hs32 := H.sibsF_len m ds i
      rw [HM.out] at hcs hsl
      have hle : H.stp m i m ≤ 5 := H.stp_small m (by omega) i hlt
      rw [← hsl] at hle
      have hno := H.climb_ok d m i m (d :: ss.reverse) (by omega) (Nat.le_refl _) (by omega) hlt
      rw [← hss] at hcs hsl hs32 hle
      rw [List.length_cons, List.length_reverse, hsl] at hno
      rw [HT.out] at hcs
      have hno' : (H.climbR d i m (d :: ss.reverse)).2 = false := by rw [hno]; simp
      have HP : Hid (Calls Tryd.prog 19 #[.slice (some ⟨b, off, none⟩) m c, .int .i64 i] W1 fun e w' => ∃ A p c, e = .returned (.tuple #[.slice A p c, .int .i64 0]) ∧ p ≤ c ∧ p ≤ 5 ∧ Hid (ss.length = p ∧ DigsAt w' A ss ∧ Below W1.heap.size W1 w')) := Lib.hid (by
        refine (path_all _ m c i ds W1 (HK.out.kept (HW.out.1.trans (HQ.out.1.mono HW.out.1.size)) HK.out.pos) HM.out HMC.out (by omega) hlt (HW.out.2.1.kept HQ.out.1)).mono ?_
        rintro e w' ⟨A, p, c, rfl, hp, ho, hb⟩
        rw [← hss] at hp ho
        obtain ⟨a', c', he, hc', hda⟩ := owns_digs ho hs32
        cases he
        exact ⟨A, p, c, rfl, hc', by omega, Lib.hid ⟨hp, hda, hb⟩⟩)
      have HCS := Lib.hid (And.intro hcs (And.intro hno' hs32))
      clear hss hcs hsl hs32 hle hno hno' HDI
      go_wp2_with fail
      refine HP.out.mono ?_
      rintro e w4 ⟨A', p, c', rfl, hpc, hp5, HX⟩
      have HR : Hid (Below W.heap.size W w4 ∧ Dig w4 g6 d ∧ DigsAt w4 A' ss ∧ ss.length = p) := Lib.hid ⟨HQ.out.1.trans (HX.out.2.2.mono HQ.out.1.size), HQ.out.2.kept HX.out.2.2 HQ.out.2.lt, HX.out.2.1, HX.out.1⟩
      clear HP HX HQ
      go_upto_region 9 with (fail)
      refine wp_region_list ?_
      refine wpl_get rfl _ rfl g6 d rfl HR.out.2.1 ?_
      have HCL : Hid (Calls Tryd.prog 22 #[.agg (byts d), .int .i64 i, .int .i64 m, .slice A' p c'] w4 fun e w' => e = .returned (.tuple #[.agg (byts t), .int .i64 0]) ∧ Hid (Below w4.heap.size w4 w')) := Lib.hid (by
        refine (top_all d i m p c' A' ss w4 (HK.out.kept (HW.out.1.trans (HR.out.1.mono HW.out.1.size)) HK.out.pos) HDL.out HR.out.2.2.2 hpc hlt (by omega) (by omega) HR.out.2.2.1).mono ?_
        rintro e w' ⟨rfl, hb⟩
        rw [HCS.out.1]
        exact ⟨rfl, Lib.hid hb⟩)
      go_simp
      go_wp2_with fail
      refine HCL.out.mono ?_
      rintro e w5 ⟨rfl, HY⟩
      rename_i K9 hK9
      refine hK9 _ _ ?_
      clear hK9
      iterate 9 go_step
      refine wpl_cell rfl rfl ?_
      refine wpl_put rfl _ _ rfl w5.heap.size zero32 t rfl rfl (Dig.new w5 zero32_len) HTL.out ?_
      go_step
      go_step
      go_step
      refine wpList_nil ?_
      have HZ : Hid (Below W.heap.size W ((w5.alloc (.cells (byts zero32) 26)).setRow w5.heap.size (byts t)) ∧ Dig ((w5.alloc (.cells (byts zero32) 26)).setRow w5.heap.size (byts t)) g6 d ∧
          Dig ((w5.alloc (.cells (byts zero32) 26)).setRow w5.heap.size (byts t)) w5.heap.size t ∧ DigsAt ((w5.alloc (.cells (byts zero32) 26)).setRow w5.heap.size (byts t)) A' ss ∧ ss.length = p ∧
          Dig ((w5.alloc (.cells (byts zero32) 26)).setRow w5.heap.size (byts t)) g t) := Lib.hid (by
        have h4 : Below w4.heap.size w4 ((w5.alloc (.cells (byts zero32) 26)).setRow w5.heap.size (byts t)) := below_setRow (HY.out.alloc HY.out.size _) HY.out.size _
        have h5 := HR.out.1.trans (h4.mono HR.out.1.size)
        exact ⟨h5, HR.out.2.1.kept h4 HR.out.2.1.lt, (Dig.new w5 zero32_len).set HTL.out, HR.out.2.2.1.kept h4, HR.out.2.2.2, HW.out.2.2.kept h5 HW.out.2.2.lt⟩)
      clear HR HY HCL
      go_simp
      generalize (w5.alloc (.cells (byts zero32) 26)).setRow w5.heap.size (byts t) = W6 at HZ ⊢
      generalize w5.heap.size = g9 at HZ ⊢
      go_upto_region 10 with (fail)
      go_cut [11, 12] (fun a11 a12 wx => ∃ v11 : Value, a11 = v11 ∧ a12 = .int .i64 1 ∧ Hid (Below W6.heap.size W6 wx))
      case first =>
        have HP := Lib.hid HZ.out.2.2.2.2.1
        have HS32 := Lib.hid HCS.out.2.2
        have HSSW : Hid (∀ V, Below W6.heap.size W6 V → DigsAt V A' ss) := Lib.hid fun V hV => HZ.out.2.2.2.1.kept hV
        have HDX : Hid (∀ V, Below W6.heap.size W6 V → Dig V g6 d) := Lib.hid fun V hV => HZ.out.2.1.kept hV HZ.out.2.1.lt
        have HCL2 : Hid (∀ V A c, Below W6.heap.size W6 V → V.ownsRow W6.heap.size 26 32 (.slice A (p + 1) c) (p + 1) (bytes (ss ++ [d]).flatten) → Calls Tryd.prog 22 #[.agg (bytes d).toArray, .int .i64 i, .int .i64 m, .slice A (p + 1) c] V fun e w' => e = .returned (.tuple #[.agg (byts zero32), .int .i64 1]) ∧ Hid (Below W6.heap.size W6 w') ∧ (∀ B e, Dig V B e → Dig w' B e)) := Lib.hid (fun V A c hV ho => by
          have hW := HW.out.1.trans ((HZ.out.1.trans (hV.mono HZ.out.1.size)).mono HW.out.1.size)
          obtain ⟨a2, c2, he, hc2, hda⟩ := owns_digs ho (fun e he => by
            rcases List.mem_append.1 he with he | he
            · exact HS32.out e he
            · rw [List.mem_singleton.1 he]; exact HDL.out)
          cases he
          refine (top_all d i m (p + 1) c A (ss ++ [d]) V (HK.out.kept hW HK.out.pos) HDL.out (by rw [List.length_append, HP.out]; rfl) hc2 hlt (by omega) (by omega) hda).mono ?_
          rintro e w' ⟨rfl, hb⟩
          rw [List.reverse_append, List.reverse_singleton, List.singleton_append, HCS.out.2.1]
          exact ⟨rfl, Lib.hid (hV.trans (hb.mono hV.size)), fun B e h => h.kept hb h.lt⟩)
        -- region 10
        have hind : (Tryd.prog.info? 26).map (·.size) = some (bytes d).length := by rw [bytes_len, HDL.out]; kernel_rfl
        refine Code.wp_mono onlyN ?_
        refine wp_region_held_drew (S := fun V => Below W6.heap.size W6 V) (by kernel_rfl) (Below.refl _ _).drew (fun hHeld => ?_)
        refine wpAnyH_put 0 42 rfl rfl (by kernel_rfl) (by kernel_rfl) (by kernel_rfl) (fun _ _ _ h => h) (yieldsIf_load_mid (by rfl) 26 (.tmp 6) rfl g6 0 (by rfl) (bytes d) _ (fun V hV => dig_range (HDX.out V hV)) Tryd.underlying26 rfl hind) hHeld ?_
        (try simp only [Act.put, List.setIfInBounds_toArray, List.set_cons_zero, List.set_cons_succ])
        refine wpAnyH_put 1 43 (v := ?_) rfl rfl (by kernel_rfl) (by kernel_rfl) (by kernel_rfl) (fun _ _ _ h => h) (Or.inl ⟨by rfl, ?_⟩) hHeld ?_
        rotate_left
        · intro W' _; go_simp; with_reducible rfl
        (try simp only [Act.put, List.setIfInBounds_toArray, List.set_cons_zero, List.set_cons_succ])
        refine wpAnyH_put 2 44 (v := ?_) rfl rfl (by kernel_rfl) (by kernel_rfl) (by kernel_rfl) (fun _ _ _ h => h) (Or.inl ⟨by rfl, ?_⟩) hHeld ?_
        rotate_left
        · intro W' _; go_simp; with_reducible rfl
        (try simp only [Act.put, List.setIfInBounds_toArray, List.set_cons_zero, List.set_cons_succ])
        refine wpAnyH_put 3 45 (v := ?_) rfl rfl (by kernel_rfl) (by kernel_rfl) (by kernel_rfl) (fun _ _ _ h => h) (Or.inl ⟨by rfl, ?_⟩) hHeld ?_
        rotate_left
        · intro W' _; go_simp; with_reducible rfl
        (try simp only [Act.put, List.setIfInBounds_toArray, List.set_cons_zero, List.set_cons_succ])
        refine wpAnyH_put 5 47 (v := ?_) rfl rfl (by kernel_rfl) (by kernel_rfl) (by kernel_rfl) (fun _ _ _ h => h) (Or.inl ⟨by rfl, ?_⟩) hHeld ?_
        rotate_left
        · intro W' _; go_simp; with_reducible rfl
        (try simp only [Act.put, List.setIfInBounds_toArray, List.set_cons_zero, List.set_cons_succ])
        refine wpAnyH_put 7 49 rfl rfl (by kernel_rfl) (by kernel_rfl) (by kernel_rfl) (fun _ _ _ h => h) (yieldsIf_load_mid (by rfl) 26 (.tmp 6) rfl g6 0 (by rfl) (bytes d) _ (fun V hV => dig_range (HDX.out V hV)) Tryd.underlying26 rfl hind) hHeld ?_
        (try simp only [Act.put, List.setIfInBounds_toArray, List.set_cons_zero, List.set_cons_succ])
        refine wpAnyH_ready (rs := [4, 8, 14]) (by kernel_rfl) (by simp) ?_
        refine AllReadyH.cons rfl (fun K hK => ?_) (AllReadyH.cons rfl (fun K hK => ?_) (AllReadyH.cons rfl (fun K hK => ?_) AllReadyH.nil))
        · -- operation 4
          refine step_empty (some 46) rfl rfl (by rfl) ?_
          intro gA v1 hg hb hx
          have hgA : W6.heap.size ≤ gA := Nat.le_trans hHeld.size hg
          have HA := Lib.hid hx
          have hN := hHeld.trans (hb.mono hHeld.size)
          clear hg hb hx hHeld
          refine hK.out _ _ hN (fun hHeld => ?_)
          clear hK K hN
          (try simp only [Act.put, List.setIfInBounds_toArray, List.set_cons_zero, List.set_cons_succ])
          refine wpAnyH_ready (rs := [6, 8, 14]) (by kernel_rfl) (by simp) ?_
          refine AllReadyH.cons rfl (fun K hK => ?_) (AllReadyH.cons rfl (fun K hK => ?_) (AllReadyH.cons rfl (fun K hK => ?_) AllReadyH.nil))
          · -- operation 6
            refine step_first (some 48) rfl rfl _ _ (by rfl) (W6.heap.size) gA (by rfl) HA.out hgA A' p c' ss (by rfl) HP.out (HSSW.out _ hHeld) (by omega) hHeld.size ?_
            intro A2 c2 v2 ho hb hk
            have HS := Lib.hid ho
            have hN := hHeld.trans hb
            clear ho hb hk hHeld HA
            refine hK.out _ _ hN (fun hHeld => ?_)
            clear hK K hN
            (try simp only [Act.put, List.setIfInBounds_toArray, List.set_cons_zero, List.set_cons_succ])
            refine wpAnyH_ready (rs := [8, 14]) (by kernel_rfl) (by simp) ?_
            refine AllReadyH.cons rfl (fun K hK => ?_) (AllReadyH.cons rfl (fun K hK => ?_) AllReadyH.nil)
            · -- operation 8
              refine step_single (some 50) rfl rfl _ (by rfl) d HDL.out (by rfl) ?_
              intro gC v3 hg hb hx
              have hgC : W6.heap.size ≤ gC := Nat.le_trans hHeld.size hg
              have HS := Lib.hid (owns_kept HS.out hb)
              have HC := Lib.hid hx
              have hN := hHeld.trans (hb.mono hHeld.size)
              clear hg hb hx hHeld
              refine hK.out _ _ hN (fun hHeld => ?_)
              clear hK K hN
              (try simp only [Act.put, List.setIfInBounds_toArray, List.set_cons_zero, List.set_cons_succ])
              refine wpAnyH_ready (rs := [9, 14]) (by kernel_rfl) (by simp) ?_
              refine AllReadyH.cons rfl (fun K hK => ?_) (AllReadyH.cons rfl (fun K hK => ?_) AllReadyH.nil)
              · -- operation 9
                refine step_more (some 51) rfl rfl _ _ (by rfl) (W6.heap.size) A2 p c2 ss (by rfl) HS.out HS32.out gC d (by rfl) HC.out (by omega) hHeld.size ?_
                intro A4 c4 v4 ho hb hk
                have HS := Lib.hid ho
                have hN := hHeld.trans hb
                clear ho hb hk hHeld HC
                refine hK.out _ _ hN (fun hHeld => ?_)
                clear hK K hN
                (try simp only [Act.put, List.setIfInBounds_toArray, List.set_cons_zero, List.set_cons_succ])
                refine wpAnyH_ready (rs := [10, 14]) (by kernel_rfl) (by simp) ?_
                refine AllReadyH.cons rfl (fun K hK => ?_) (AllReadyH.cons rfl (fun K hK => ?_) AllReadyH.nil)
                · -- operation 10
                  refine step_call (some 52) rfl rfl _ _ _ (by rfl) _ (by rfl) _ (enters_of Tryd.func22 (by kernel_rfl) rfl) (HCL2.out _ _ _ hHeld HS.out) ?_
                  rintro e v5 ⟨rfl, HI7, hk⟩
                  refine ⟨_, rfl, ?_⟩
                  have hN := HI7.out
                  clear hk hHeld HS HI7
                  refine hK.out _ _ hN (fun hHeld => ?_)
                  clear hK K hN
                  (try simp only [Act.put, List.setIfInBounds_toArray, List.set_cons_zero, List.set_cons_succ])
                  refine wpAnyH_put 11 41 (v := ?_) rfl rfl (by kernel_rfl) (by kernel_rfl) (by kernel_rfl) (fun _ _ _ h => h) (Or.inl ⟨by rfl, ?_⟩) hHeld ?_
                  rotate_left
                  · intro W' _; go_simp; with_reducible rfl
                  (try simp only [Act.put, List.setIfInBounds_toArray, List.set_cons_zero, List.set_cons_succ])
                  refine wpAnyH_put 12 53 (v := ?_) rfl rfl (by kernel_rfl) (by kernel_rfl) (by kernel_rfl) (fun _ _ _ h => h) (Or.inl ⟨by rfl, ?_⟩) hHeld ?_
                  rotate_left
                  · intro W' _; go_simp; with_reducible rfl
                  (try simp only [Act.put, List.setIfInBounds_toArray, List.set_cons_zero, List.set_cons_succ])
                  refine wpAnyH_put 13 54 (v := ?_) rfl rfl (by kernel_rfl) (by kernel_rfl) (by kernel_rfl) (fun _ _ _ h => h) (Or.inl ⟨by rfl, ?_⟩) hHeld ?_
                  rotate_left
                  · intro W' _; go_simp; with_reducible rfl
                  (try simp only [Act.put, List.setIfInBounds_toArray, List.set_cons_zero, List.set_cons_succ])
                  refine wpAnyH_ready (rs := [14]) (by kernel_rfl) (by simp) ?_
                  refine AllReadyH.cons rfl (fun K hK => ?_) AllReadyH.nil
                  refine step_box (some 11) rfl rfl (by rfl) ?_
                  intro gF v6 hg hb hx
                  have hgF : W6.heap.size ≤ gF := Nat.le_trans hHeld.size hg
                  have HF := Lib.hid hx
                  have hN := hHeld.trans (hb.mono hHeld.size)
                  clear hg hb hx hHeld
                  refine hK.out _ _ hN (fun hHeld => ?_)
                  clear hK K hN
                  (try simp only [Act.put, List.setIfInBounds_toArray, List.set_cons_zero, List.set_cons_succ])
                  refine wpAnyH_ready (rs := [15]) (by kernel_rfl) (by simp) ?_
                  refine AllReadyH.cons rfl (fun K hK => ?_) AllReadyH.nil
                  refine step_put (none) rfl rfl _ _ rfl gF zero32 zero32 (by rfl) (by rfl) HF.out zero32_len ?_
                  have hN := below_setRow hHeld hgF (byts zero32)
                  clear HF hHeld
                  refine hK.out _ _ hN (fun hHeld => ?_)
                  clear hK K hN
                  (try simp only [Act.put])
                  refine wpAnyH_put 16 12 (v := ?_) rfl rfl (by kernel_rfl) (by kernel_rfl) (by kernel_rfl) (fun _ _ _ h => h) (Or.inl ⟨by rfl, ?_⟩) hHeld ?_
                  rotate_left
                  · intro W' _; go_simp; with_reducible rfl
                  (try simp only [Act.put, List.setIfInBounds_toArray, List.set_cons_zero, List.set_cons_succ])
                  refine wpAnyH_done (by kernel_rfl) ?_ _
                  simp only [OnlyN]
                  go_wp2_with fail
                  go_meet
                  exact ⟨_, rfl, rfl, Lib.hid hHeld⟩
                · -- operation 14
                  refine step_box (some 11) rfl rfl (by rfl) ?_
                  intro gF v8 hg hb hx
                  have hgF : W6.heap.size ≤ gF := Nat.le_trans hHeld.size hg
                  have HNE0 : Hid ((Value.slice A4 (p + 1) c4).ownBlock ≠ some gF) := Lib.hid (fun e => absurd (own_lt HS.out e) (Nat.not_lt.2 hg))
                  have HS := Lib.hid (owns_kept HS.out hb)
                  have HNE := HNE0
                  have HF := Lib.hid hx
                  have hN := hHeld.trans (hb.mono hHeld.size)
                  clear hg hb hx hHeld
                  refine hK.out _ _ hN (fun hHeld => ?_)
                  clear hK K hN
                  (try simp only [Act.put, List.setIfInBounds_toArray, List.set_cons_zero, List.set_cons_succ])
                  refine wpAnyH_ready (rs := [10]) (by kernel_rfl) (by simp) ?_
                  refine AllReadyH.cons rfl (fun K hK => ?_) AllReadyH.nil
                  refine step_call (some 52) rfl rfl _ _ _ (by rfl) _ (by rfl) _ (enters_of Tryd.func22 (by kernel_rfl) rfl) (HCL2.out _ _ _ hHeld HS.out) ?_
                  rintro e v9 ⟨rfl, HI7, hk⟩
                  refine ⟨_, rfl, ?_⟩
                  have HF := Lib.hid (hk _ _ HF.out)
                  have hN := HI7.out
                  clear hk hHeld HS HI7
                  refine hK.out _ _ hN (fun hHeld => ?_)
                  clear hK K hN
                  (try simp only [Act.put, List.setIfInBounds_toArray, List.set_cons_zero, List.set_cons_succ])
                  refine wpAnyH_put 11 41 (v := ?_) rfl rfl (by kernel_rfl) (by kernel_rfl) (by kernel_rfl) (fun _ _ _ h => h) (Or.inl ⟨by rfl, ?_⟩) hHeld ?_
                  rotate_left
                  · intro W' _; go_simp; with_reducible rfl
                  (try simp only [Act.put, List.setIfInBounds_toArray, List.set_cons_zero, List.set_cons_succ])
                  refine wpAnyH_put 12 53 (v := ?_) rfl rfl (by kernel_rfl) (by kernel_rfl) (by kernel_rfl) (fun _ _ _ h => h) (Or.inl ⟨by rfl, ?_⟩) hHeld ?_
                  rotate_left
                  · intro W' _; go_simp; with_reducible rfl
                  (try simp only [Act.put, List.setIfInBounds_toArray, List.set_cons_zero, List.set_cons_succ])
                  refine wpAnyH_put 13 54 (v := ?_) rfl rfl (by kernel_rfl) (by kernel_rfl) (by kernel_rfl) (fun _ _ _ h => h) (Or.inl ⟨by rfl, ?_⟩) hHeld ?_
                  rotate_left
                  · intro W' _; go_simp; with_reducible rfl
                  (try simp only [Act.put, List.setIfInBounds_toArray, List.set_cons_zero, List.set_cons_succ])
                  refine wpAnyH_ready (rs := [15]) (by kernel_rfl) (by simp) ?_
                  refine AllReadyH.cons rfl (fun K hK => ?_) AllReadyH.nil
                  refine step_put (none) rfl rfl _ _ rfl gF zero32 zero32 (by rfl) (by rfl) HF.out zero32_len ?_
                  have hN := below_setRow hHeld hgF (byts zero32)
                  clear HF hHeld
                  refine hK.out _ _ hN (fun hHeld => ?_)
                  clear hK K hN
                  (try simp only [Act.put])
                  refine wpAnyH_put 16 12 (v := ?_) rfl rfl (by kernel_rfl) (by kernel_rfl) (by kernel_rfl) (fun _ _ _ h => h) (Or.inl ⟨by rfl, ?_⟩) hHeld ?_
                  rotate_left
                  · intro W' _; go_simp; with_reducible rfl
                  (try simp only [Act.put, List.setIfInBounds_toArray, List.set_cons_zero, List.set_cons_succ])
                  refine wpAnyH_done (by kernel_rfl) ?_ _
                  simp only [OnlyN]
                  go_wp2_with fail
                  go_meet
                  exact ⟨_, rfl, rfl, Lib.hid hHeld⟩
              · -- operation 14
                refine step_box (some 11) rfl rfl (by rfl) ?_
                intro gF v11 hg hb hx
                have hgF : W6.heap.size ≤ gF := Nat.le_trans hHeld.size hg
                have HNE0 : Hid ((Value.slice A2 p c2).ownBlock ≠ some gF) := Lib.hid (fun e => absurd (own_lt HS.out e) (Nat.not_lt.2 hg))
                have HC := Lib.hid (HC.out.kept hb HC.out.lt)
                have HS := Lib.hid (owns_kept HS.out hb)
                have HNE := HNE0
                have HF := Lib.hid hx
                have hN := hHeld.trans (hb.mono hHeld.size)
                clear hg hb hx hHeld
                refine hK.out _ _ hN (fun hHeld => ?_)
                clear hK K hN
                (try simp only [Act.put, List.setIfInBounds_toArray, List.set_cons_zero, List.set_cons_succ])
                refine wpAnyH_ready (rs := [9]) (by kernel_rfl) (by simp) ?_
                refine AllReadyH.cons rfl (fun K hK => ?_) AllReadyH.nil
                refine step_more (some 51) rfl rfl _ _ (by rfl) (W6.heap.size) A2 p c2 ss (by rfl) HS.out HS32.out gC d (by rfl) HC.out (by omega) hHeld.size ?_
                intro A12 c12 v12 ho hb hk
                have HF := Lib.hid (hk _ _ HF.out HNE.out)
                have HS := Lib.hid ho
                have hN := hHeld.trans hb
                clear ho hb hk hHeld HC
                refine hK.out _ _ hN (fun hHeld => ?_)
                clear hK K hN
                (try simp only [Act.put, List.setIfInBounds_toArray, List.set_cons_zero, List.set_cons_succ])
                refine wpAnyH_ready (rs := [10]) (by kernel_rfl) (by simp) ?_
                refine AllReadyH.cons rfl (fun K hK => ?_) AllReadyH.nil
                refine step_call (some 52) rfl rfl _ _ _ (by rfl) _ (by rfl) _ (enters_of Tryd.func22 (by kernel_rfl) rfl) (HCL2.out _ _ _ hHeld HS.out) ?_
                rintro e v13 ⟨rfl, HI7, hk⟩
                refine ⟨_, rfl, ?_⟩
                have HF := Lib.hid (hk _ _ HF.out)
                have hN := HI7.out
                clear hk hHeld HS HI7
                refine hK.out _ _ hN (fun hHeld => ?_)
                clear hK K hN
                (try simp only [Act.put, List.setIfInBounds_toArray, List.set_cons_zero, List.set_cons_succ])
                refine wpAnyH_put 11 41 (v := ?_) rfl rfl (by kernel_rfl) (by kernel_rfl) (by kernel_rfl) (fun _ _ _ h => h) (Or.inl ⟨by rfl, ?_⟩) hHeld ?_
                rotate_left
                · intro W' _; go_simp; with_reducible rfl
                (try simp only [Act.put, List.setIfInBounds_toArray, List.set_cons_zero, List.set_cons_succ])
                refine wpAnyH_put 12 53 (v := ?_) rfl rfl (by kernel_rfl) (by kernel_rfl) (by kernel_rfl) (fun _ _ _ h => h) (Or.inl ⟨by rfl, ?_⟩) hHeld ?_
                rotate_left
                · intro W' _; go_simp; with_reducible rfl
                (try simp only [Act.put, List.setIfInBounds_toArray, List.set_cons_zero, List.set_cons_succ])
                refine wpAnyH_put 13 54 (v := ?_) rfl rfl (by kernel_rfl) (by kernel_rfl) (by kernel_rfl) (fun _ _ _ h => h) (Or.inl ⟨by rfl, ?_⟩) hHeld ?_
                rotate_left
                · intro W' _; go_simp; with_reducible rfl
                (try simp only [Act.put, List.setIfInBounds_toArray, List.set_cons_zero, List.set_cons_succ])
                refine wpAnyH_ready (rs := [15]) (by kernel_rfl) (by simp) ?_
                refine AllReadyH.cons rfl (fun K hK => ?_) AllReadyH.nil
                refine step_put (none) rfl rfl _ _ rfl gF zero32 zero32 (by rfl) (by rfl) HF.out zero32_len ?_
                have hN := below_setRow hHeld hgF (byts zero32)
                clear HF hHeld
                refine hK.out _ _ hN (fun hHeld => ?_)
                clear hK K hN
                (try simp only [Act.put])
                refine wpAnyH_put 16 12 (v := ?_) rfl rfl (by kernel_rfl) (by kernel_rfl) (by kernel_rfl) (fun _ _ _ h => h) (Or.inl ⟨by rfl, ?_⟩) hHeld ?_
                rotate_left
                · intro W' _; go_simp; with_reducible rfl
                (try simp only [Act.put, List.setIfInBounds_toArray, List.set_cons_zero, List.set_cons_succ])
                refine wpAnyH_done (by kernel_rfl) ?_ _
                simp only [OnlyN]
                go_wp2_with fail
                go_meet
                exact ⟨_, rfl, rfl, Lib.hid hHeld⟩
            · -- operation 14
              refine step_box (some 11) rfl rfl (by rfl) ?_
              intro gF v15 hg hb hx
              have hgF : W6.heap.size ≤ gF := Nat.le_trans hHeld.size hg
              have HNE0 : Hid ((Value.slice A2 p c2).ownBlock ≠ some gF) := Lib.hid (fun e => absurd (own_lt HS.out e) (Nat.not_lt.2 hg))
              have HS := Lib.hid (owns_kept HS.out hb)
              have HNE := HNE0
              have HF := Lib.hid hx
              have hN := hHeld.trans (hb.mono hHeld.size)
              clear hg hb hx hHeld
              refine hK.out _ _ hN (fun hHeld => ?_)
              clear hK K hN
              (try simp only [Act.put, List.setIfInBounds_toArray, List.set_cons_zero, List.set_cons_succ])
              refine wpAnyH_ready (rs := [8]) (by kernel_rfl) (by simp) ?_
              refine AllReadyH.cons rfl (fun K hK => ?_) AllReadyH.nil
              refine step_single (some 50) rfl rfl _ (by rfl) d HDL.out (by rfl) ?_
              intro gC v16 hg hb hx
              have hgC : W6.heap.size ≤ gC := Nat.le_trans hHeld.size hg
              have HF := Lib.hid (HF.out.kept hb HF.out.lt)
              have HS := Lib.hid (owns_kept HS.out hb)
              have HC := Lib.hid hx
              have hN := hHeld.trans (hb.mono hHeld.size)
              clear hg hb hx hHeld
              refine hK.out _ _ hN (fun hHeld => ?_)
              clear hK K hN
              (try simp only [Act.put, List.setIfInBounds_toArray, List.set_cons_zero, List.set_cons_succ])
              refine wpAnyH_ready (rs := [9]) (by kernel_rfl) (by simp) ?_
              refine AllReadyH.cons rfl (fun K hK => ?_) AllReadyH.nil
              refine step_more (some 51) rfl rfl _ _ (by rfl) (W6.heap.size) A2 p c2 ss (by rfl) HS.out HS32.out gC d (by rfl) HC.out (by omega) hHeld.size ?_
              intro A17 c17 v17 ho hb hk
              have HF := Lib.hid (hk _ _ HF.out HNE.out)
              have HS := Lib.hid ho
              have hN := hHeld.trans hb
              clear ho hb hk hHeld HC
              refine hK.out _ _ hN (fun hHeld => ?_)
              clear hK K hN
              (try simp only [Act.put, List.setIfInBounds_toArray, List.set_cons_zero, List.set_cons_succ])
              refine wpAnyH_ready (rs := [10]) (by kernel_rfl) (by simp) ?_
              refine AllReadyH.cons rfl (fun K hK => ?_) AllReadyH.nil
              refine step_call (some 52) rfl rfl _ _ _ (by rfl) _ (by rfl) _ (enters_of Tryd.func22 (by kernel_rfl) rfl) (HCL2.out _ _ _ hHeld HS.out) ?_
              rintro e v18 ⟨rfl, HI7, hk⟩
              refine ⟨_, rfl, ?_⟩
              have HF := Lib.hid (hk _ _ HF.out)
              have hN := HI7.out
              clear hk hHeld HS HI7
              refine hK.out _ _ hN (fun hHeld => ?_)
              clear hK K hN
              (try simp only [Act.put, List.setIfInBounds_toArray, List.set_cons_zero, List.set_cons_succ])
              refine wpAnyH_put 11 41 (v := ?_) rfl rfl (by kernel_rfl) (by kernel_rfl) (by kernel_rfl) (fun _ _ _ h => h) (Or.inl ⟨by rfl, ?_⟩) hHeld ?_
              rotate_left
              · intro W' _; go_simp; with_reducible rfl
              (try simp only [Act.put, List.setIfInBounds_toArray, List.set_cons_zero, List.set_cons_succ])
              refine wpAnyH_put 12 53 (v := ?_) rfl rfl (by kernel_rfl) (by kernel_rfl) (by kernel_rfl) (fun _ _ _ h => h) (Or.inl ⟨by rfl, ?_⟩) hHeld ?_
              rotate_left
              · intro W' _; go_simp; with_reducible rfl
              (try simp only [Act.put, List.setIfInBounds_toArray, List.set_cons_zero, List.set_cons_succ])
              refine wpAnyH_put 13 54 (v := ?_) rfl rfl (by kernel_rfl) (by kernel_rfl) (by kernel_rfl) (fun _ _ _ h => h) (Or.inl ⟨by rfl, ?_⟩) hHeld ?_
              rotate_left
              · intro W' _; go_simp; with_reducible rfl
              (try simp only [Act.put, List.setIfInBounds_toArray, List.set_cons_zero, List.set_cons_succ])
              refine wpAnyH_ready (rs := [15]) (by kernel_rfl) (by simp) ?_
              refine AllReadyH.cons rfl (fun K hK => ?_) AllReadyH.nil
              refine step_put (none) rfl rfl _ _ rfl gF zero32 zero32 (by rfl) (by rfl) HF.out zero32_len ?_
              have hN := below_setRow hHeld hgF (byts zero32)
              clear HF hHeld
              refine hK.out _ _ hN (fun hHeld => ?_)
              clear hK K hN
              (try simp only [Act.put])
              refine wpAnyH_put 16 12 (v := ?_) rfl rfl (by kernel_rfl) (by kernel_rfl) (by kernel_rfl) (fun _ _ _ h => h) (Or.inl ⟨by rfl, ?_⟩) hHeld ?_
              rotate_left
              · intro W' _; go_simp; with_reducible rfl
              (try simp only [Act.put, List.setIfInBounds_toArray, List.set_cons_zero, List.set_cons_succ])
              refine wpAnyH_done (by kernel_rfl) ?_ _
              simp only [OnlyN]
              go_wp2_with fail
              go_meet
              exact ⟨_, rfl, rfl, Lib.hid hHeld⟩
          · -- operation 8
            refine step_single (some 50) rfl rfl _ (by rfl) d HDL.out (by rfl) ?_
            intro gC v20 hg hb hx
            have hgC : W6.heap.size ≤ gC := Nat.le_trans hHeld.size hg
            have HA := Lib.hid ((hb.block _ (Array.getElem?_eq_some_iff.1 HA.out).1).trans HA.out)
            have HC := Lib.hid hx
            have hN := hHeld.trans (hb.mono hHeld.size)
            clear hg hb hx hHeld
            refine hK.out _ _ hN (fun hHeld => ?_)
            clear hK K hN
            (try simp only [Act.put, List.setIfInBounds_toArray, List.set_cons_zero, List.set_cons_succ])
            refine wpAnyH_ready (rs := [6, 14]) (by kernel_rfl) (by simp) ?_
            refine AllReadyH.cons rfl (fun K hK => ?_) (AllReadyH.cons rfl (fun K hK => ?_) AllReadyH.nil)
            · -- operation 6
              refine step_first (some 48) rfl rfl _ _ (by rfl) (W6.heap.size) gA (by rfl) HA.out hgA A' p c' ss (by rfl) HP.out (HSSW.out _ hHeld) (by omega) hHeld.size ?_
              intro A21 c21 v21 ho hb hk
              have HC := Lib.hid (hk _ _ HC.out).1
              have HS := Lib.hid ho
              have hN := hHeld.trans hb
              clear ho hb hk hHeld HA
              refine hK.out _ _ hN (fun hHeld => ?_)
              clear hK K hN
              (try simp only [Act.put, List.setIfInBounds_toArray, List.set_cons_zero, List.set_cons_succ])
              refine wpAnyH_ready (rs := [9, 14]) (by kernel_rfl) (by simp) ?_
              refine AllReadyH.cons rfl (fun K hK => ?_) (AllReadyH.cons rfl (fun K hK => ?_) AllReadyH.nil)
              · -- operation 9
                refine step_more (some 51) rfl rfl _ _ (by rfl) (W6.heap.size) A21 p c21 ss (by rfl) HS.out HS32.out gC d (by rfl) HC.out (by omega) hHeld.size ?_
                intro A22 c22 v22 ho hb hk
                have HS := Lib.hid ho
                have hN := hHeld.trans hb
                clear ho hb hk hHeld HC
                refine hK.out _ _ hN (fun hHeld => ?_)
                clear hK K hN
                (try simp only [Act.put, List.setIfInBounds_toArray, List.set_cons_zero, List.set_cons_succ])
                refine wpAnyH_ready (rs := [10, 14]) (by kernel_rfl) (by simp) ?_
                refine AllReadyH.cons rfl (fun K hK => ?_) (AllReadyH.cons rfl (fun K hK => ?_) AllReadyH.nil)
                · -- operation 10
                  refine step_call (some 52) rfl rfl _ _ _ (by rfl) _ (by rfl) _ (enters_of Tryd.func22 (by kernel_rfl) rfl) (HCL2.out _ _ _ hHeld HS.out) ?_
                  rintro e v23 ⟨rfl, HI7, hk⟩
                  refine ⟨_, rfl, ?_⟩
                  have hN := HI7.out
                  clear hk hHeld HS HI7
                  refine hK.out _ _ hN (fun hHeld => ?_)
                  clear hK K hN
                  (try simp only [Act.put, List.setIfInBounds_toArray, List.set_cons_zero, List.set_cons_succ])
                  refine wpAnyH_put 11 41 (v := ?_) rfl rfl (by kernel_rfl) (by kernel_rfl) (by kernel_rfl) (fun _ _ _ h => h) (Or.inl ⟨by rfl, ?_⟩) hHeld ?_
                  rotate_left
                  · intro W' _; go_simp; with_reducible rfl
                  (try simp only [Act.put, List.setIfInBounds_toArray, List.set_cons_zero, List.set_cons_succ])
                  refine wpAnyH_put 12 53 (v := ?_) rfl rfl (by kernel_rfl) (by kernel_rfl) (by kernel_rfl) (fun _ _ _ h => h) (Or.inl ⟨by rfl, ?_⟩) hHeld ?_
                  rotate_left
                  · intro W' _; go_simp; with_reducible rfl
                  (try simp only [Act.put, List.setIfInBounds_toArray, List.set_cons_zero, List.set_cons_succ])
                  refine wpAnyH_put 13 54 (v := ?_) rfl rfl (by kernel_rfl) (by kernel_rfl) (by kernel_rfl) (fun _ _ _ h => h) (Or.inl ⟨by rfl, ?_⟩) hHeld ?_
                  rotate_left
                  · intro W' _; go_simp; with_reducible rfl
                  (try simp only [Act.put, List.setIfInBounds_toArray, List.set_cons_zero, List.set_cons_succ])
                  refine wpAnyH_ready (rs := [14]) (by kernel_rfl) (by simp) ?_
                  refine AllReadyH.cons rfl (fun K hK => ?_) AllReadyH.nil
                  refine step_box (some 11) rfl rfl (by rfl) ?_
                  intro gF v24 hg hb hx
                  have hgF : W6.heap.size ≤ gF := Nat.le_trans hHeld.size hg
                  have HF := Lib.hid hx
                  have hN := hHeld.trans (hb.mono hHeld.size)
                  clear hg hb hx hHeld
                  refine hK.out _ _ hN (fun hHeld => ?_)
                  clear hK K hN
                  (try simp only [Act.put, List.setIfInBounds_toArray, List.set_cons_zero, List.set_cons_succ])
                  refine wpAnyH_ready (rs := [15]) (by kernel_rfl) (by simp) ?_
                  refine AllReadyH.cons rfl (fun K hK => ?_) AllReadyH.nil
                  refine step_put (none) rfl rfl _ _ rfl gF zero32 zero32 (by rfl) (by rfl) HF.out zero32_len ?_
                  have hN := below_setRow hHeld hgF (byts zero32)
                  clear HF hHeld
                  refine hK.out _ _ hN (fun hHeld => ?_)
                  clear hK K hN
                  (try simp only [Act.put])
                  refine wpAnyH_put 16 12 (v := ?_) rfl rfl (by kernel_rfl) (by kernel_rfl) (by kernel_rfl) (fun _ _ _ h => h) (Or.inl ⟨by rfl, ?_⟩) hHeld ?_
                  rotate_left
                  · intro W' _; go_simp; with_reducible rfl
                  (try simp only [Act.put, List.setIfInBounds_toArray, List.set_cons_zero, List.set_cons_succ])
                  refine wpAnyH_done (by kernel_rfl) ?_ _
                  simp only [OnlyN]
                  go_wp2_with fail
                  go_meet
                  exact ⟨_, rfl, rfl, Lib.hid hHeld⟩
                · -- operation 14
                  refine step_box (some 11) rfl rfl (by rfl) ?_
                  intro gF v26 hg hb hx
                  have hgF : W6.heap.size ≤ gF := Nat.le_trans hHeld.size hg
                  have HNE0 : Hid ((Value.slice A22 (p + 1) c22).ownBlock ≠ some gF) := Lib.hid (fun e => absurd (own_lt HS.out e) (Nat.not_lt.2 hg))
                  have HS := Lib.hid (owns_kept HS.out hb)
                  have HNE := HNE0
                  have HF := Lib.hid hx
                  have hN := hHeld.trans (hb.mono hHeld.size)
                  clear hg hb hx hHeld
                  refine hK.out _ _ hN (fun hHeld => ?_)
                  clear hK K hN
                  (try simp only [Act.put, List.setIfInBounds_toArray, List.set_cons_zero, List.set_cons_succ])
                  refine wpAnyH_ready (rs := [10]) (by kernel_rfl) (by simp) ?_
                  refine AllReadyH.cons rfl (fun K hK => ?_) AllReadyH.nil
                  refine step_call (some 52) rfl rfl _ _ _ (by rfl) _ (by rfl) _ (enters_of Tryd.func22 (by kernel_rfl) rfl) (HCL2.out _ _ _ hHeld HS.out) ?_
                  rintro e v27 ⟨rfl, HI7, hk⟩
                  refine ⟨_, rfl, ?_⟩
                  have HF := Lib.hid (hk _ _ HF.out)
                  have hN := HI7.out
                  clear hk hHeld HS HI7
                  refine hK.out _ _ hN (fun hHeld => ?_)
                  clear hK K hN
                  (try simp only [Act.put, List.setIfInBounds_toArray, List.set_cons_zero, List.set_cons_succ])
                  refine wpAnyH_put 11 41 (v := ?_) rfl rfl (by kernel_rfl) (by kernel_rfl) (by kernel_rfl) (fun _ _ _ h => h) (Or.inl ⟨by rfl, ?_⟩) hHeld ?_
                  rotate_left
                  · intro W' _; go_simp; with_reducible rfl
                  (try simp only [Act.put, List.setIfInBounds_toArray, List.set_cons_zero, List.set_cons_succ])
                  refine wpAnyH_put 12 53 (v := ?_) rfl rfl (by kernel_rfl) (by kernel_rfl) (by kernel_rfl) (fun _ _ _ h => h) (Or.inl ⟨by rfl, ?_⟩) hHeld ?_
                  rotate_left
                  · intro W' _; go_simp; with_reducible rfl
                  (try simp only [Act.put, List.setIfInBounds_toArray, List.set_cons_zero, List.set_cons_succ])
                  refine wpAnyH_put 13 54 (v := ?_) rfl rfl (by kernel_rfl) (by kernel_rfl) (by kernel_rfl) (fun _ _ _ h => h) (Or.inl ⟨by rfl, ?_⟩) hHeld ?_
                  rotate_left
                  · intro W' _; go_simp; with_reducible rfl
                  (try simp only [Act.put, List.setIfInBounds_toArray, List.set_cons_zero, List.set_cons_succ])
                  refine wpAnyH_ready (rs := [15]) (by kernel_rfl) (by simp) ?_
                  refine AllReadyH.cons rfl (fun K hK => ?_) AllReadyH.nil
                  refine step_put (none) rfl rfl _ _ rfl gF zero32 zero32 (by rfl) (by rfl) HF.out zero32_len ?_
                  have hN := below_setRow hHeld hgF (byts zero32)
                  clear HF hHeld
                  refine hK.out _ _ hN (fun hHeld => ?_)
                  clear hK K hN
                  (try simp only [Act.put])
                  refine wpAnyH_put 16 12 (v := ?_) rfl rfl (by kernel_rfl) (by kernel_rfl) (by kernel_rfl) (fun _ _ _ h => h) (Or.inl ⟨by rfl, ?_⟩) hHeld ?_
                  rotate_left
                  · intro W' _; go_simp; with_reducible rfl
                  (try simp only [Act.put, List.setIfInBounds_toArray, List.set_cons_zero, List.set_cons_succ])
                  refine wpAnyH_done (by kernel_rfl) ?_ _
                  simp only [OnlyN]
                  go_wp2_with fail
                  go_meet
                  exact ⟨_, rfl, rfl, Lib.hid hHeld⟩
              · -- operation 14
                refine step_box (some 11) rfl rfl (by rfl) ?_
                intro gF v29 hg hb hx
                have hgF : W6.heap.size ≤ gF := Nat.le_trans hHeld.size hg
                have HNE0 : Hid ((Value.slice A21 p c21).ownBlock ≠ some gF) := Lib.hid (fun e => absurd (own_lt HS.out e) (Nat.not_lt.2 hg))
                have HC := Lib.hid (HC.out.kept hb HC.out.lt)
                have HS := Lib.hid (owns_kept HS.out hb)
                have HNE := HNE0
                have HF := Lib.hid hx
                have hN := hHeld.trans (hb.mono hHeld.size)
                clear hg hb hx hHeld
                refine hK.out _ _ hN (fun hHeld => ?_)
                clear hK K hN
                (try simp only [Act.put, List.setIfInBounds_toArray, List.set_cons_zero, List.set_cons_succ])
                refine wpAnyH_ready (rs := [9]) (by kernel_rfl) (by simp) ?_
                refine AllReadyH.cons rfl (fun K hK => ?_) AllReadyH.nil
                refine step_more (some 51) rfl rfl _ _ (by rfl) (W6.heap.size) A21 p c21 ss (by rfl) HS.out HS32.out gC d (by rfl) HC.out (by omega) hHeld.size ?_
                intro A30 c30 v30 ho hb hk
                have HF := Lib.hid (hk _ _ HF.out HNE.out)
                have HS := Lib.hid ho
                have hN := hHeld.trans hb
                clear ho hb hk hHeld HC
                refine hK.out _ _ hN (fun hHeld => ?_)
                clear hK K hN
                (try simp only [Act.put, List.setIfInBounds_toArray, List.set_cons_zero, List.set_cons_succ])
                refine wpAnyH_ready (rs := [10]) (by kernel_rfl) (by simp) ?_
                refine AllReadyH.cons rfl (fun K hK => ?_) AllReadyH.nil
                refine step_call (some 52) rfl rfl _ _ _ (by rfl) _ (by rfl) _ (enters_of Tryd.func22 (by kernel_rfl) rfl) (HCL2.out _ _ _ hHeld HS.out) ?_
                rintro e v31 ⟨rfl, HI7, hk⟩
                refine ⟨_, rfl, ?_⟩
                have HF := Lib.hid (hk _ _ HF.out)
                have hN := HI7.out
                clear hk hHeld HS HI7
                refine hK.out _ _ hN (fun hHeld => ?_)
                clear hK K hN
                (try simp only [Act.put, List.setIfInBounds_toArray, List.set_cons_zero, List.set_cons_succ])
                refine wpAnyH_put 11 41 (v := ?_) rfl rfl (by kernel_rfl) (by kernel_rfl) (by kernel_rfl) (fun _ _ _ h => h) (Or.inl ⟨by rfl, ?_⟩) hHeld ?_
                rotate_left
                · intro W' _; go_simp; with_reducible rfl
                (try simp only [Act.put, List.setIfInBounds_toArray, List.set_cons_zero, List.set_cons_succ])
                refine wpAnyH_put 12 53 (v := ?_) rfl rfl (by kernel_rfl) (by kernel_rfl) (by kernel_rfl) (fun _ _ _ h => h) (Or.inl ⟨by rfl, ?_⟩) hHeld ?_
                rotate_left
                · intro W' _; go_simp; with_reducible rfl
                (try simp only [Act.put, List.setIfInBounds_toArray, List.set_cons_zero, List.set_cons_succ])
                refine wpAnyH_put 13 54 (v := ?_) rfl rfl (by kernel_rfl) (by kernel_rfl) (by kernel_rfl) (fun _ _ _ h => h) (Or.inl ⟨by rfl, ?_⟩) hHeld ?_
                rotate_left
                · intro W' _; go_simp; with_reducible rfl
                (try simp only [Act.put, List.setIfInBounds_toArray, List.set_cons_zero, List.set_cons_succ])
                refine wpAnyH_ready (rs := [15]) (by kernel_rfl) (by simp) ?_
                refine AllReadyH.cons rfl (fun K hK => ?_) AllReadyH.nil
                refine step_put (none) rfl rfl _ _ rfl gF zero32 zero32 (by rfl) (by rfl) HF.out zero32_len ?_
                have hN := below_setRow hHeld hgF (byts zero32)
                clear HF hHeld
                refine hK.out _ _ hN (fun hHeld => ?_)
                clear hK K hN
                (try simp only [Act.put])
                refine wpAnyH_put 16 12 (v := ?_) rfl rfl (by kernel_rfl) (by kernel_rfl) (by kernel_rfl) (fun _ _ _ h => h) (Or.inl ⟨by rfl, ?_⟩) hHeld ?_
                rotate_left
                · intro W' _; go_simp; with_reducible rfl
                (try simp only [Act.put, List.setIfInBounds_toArray, List.set_cons_zero, List.set_cons_succ])
                refine wpAnyH_done (by kernel_rfl) ?_ _
                simp only [OnlyN]
                go_wp2_with fail
                go_meet
                exact ⟨_, rfl, rfl, Lib.hid hHeld⟩
            · -- operation 14
              refine step_box (some 11) rfl rfl (by rfl) ?_
              intro gF v33 hg hb hx
              have hgF : W6.heap.size ≤ gF := Nat.le_trans hHeld.size hg
              have HA := Lib.hid ((hb.block _ (Array.getElem?_eq_some_iff.1 HA.out).1).trans HA.out)
              have HC := Lib.hid (HC.out.kept hb HC.out.lt)
              have HF := Lib.hid hx
              have hN := hHeld.trans (hb.mono hHeld.size)
              clear hg hb hx hHeld
              refine hK.out _ _ hN (fun hHeld => ?_)
              clear hK K hN
              (try simp only [Act.put, List.setIfInBounds_toArray, List.set_cons_zero, List.set_cons_succ])
              refine wpAnyH_ready (rs := [6]) (by kernel_rfl) (by simp) ?_
              refine AllReadyH.cons rfl (fun K hK => ?_) AllReadyH.nil
              refine step_first (some 48) rfl rfl _ _ (by rfl) (W6.heap.size) gA (by rfl) HA.out hgA A' p c' ss (by rfl) HP.out (HSSW.out _ hHeld) (by omega) hHeld.size ?_
              intro A34 c34 v34 ho hb hk
              have HC := Lib.hid (hk _ _ HC.out).1
              have HNE := Lib.hid (hk _ _ HF.out).2
              have HF := Lib.hid (hk _ _ HF.out).1
              have HS := Lib.hid ho
              have hN := hHeld.trans hb
              clear ho hb hk hHeld HA
              refine hK.out _ _ hN (fun hHeld => ?_)
              clear hK K hN
              (try simp only [Act.put, List.setIfInBounds_toArray, List.set_cons_zero, List.set_cons_succ])
              refine wpAnyH_ready (rs := [9]) (by kernel_rfl) (by simp) ?_
              refine AllReadyH.cons rfl (fun K hK => ?_) AllReadyH.nil
              refine step_more (some 51) rfl rfl _ _ (by rfl) (W6.heap.size) A34 p c34 ss (by rfl) HS.out HS32.out gC d (by rfl) HC.out (by omega) hHeld.size ?_
              intro A35 c35 v35 ho hb hk
              have HF := Lib.hid (hk _ _ HF.out HNE.out)
              have HS := Lib.hid ho
              have hN := hHeld.trans hb
              clear ho hb hk hHeld HC
              refine hK.out _ _ hN (fun hHeld => ?_)
              clear hK K hN
              (try simp only [Act.put, List.setIfInBounds_toArray, List.set_cons_zero, List.set_cons_succ])
              refine wpAnyH_ready (rs := [10]) (by kernel_rfl) (by simp) ?_
              refine AllReadyH.cons rfl (fun K hK => ?_) AllReadyH.nil
              refine step_call (some 52) rfl rfl _ _ _ (by rfl) _ (by rfl) _ (enters_of Tryd.func22 (by kernel_rfl) rfl) (HCL2.out _ _ _ hHeld HS.out) ?_
              rintro e v36 ⟨rfl, HI7, hk⟩
              refine ⟨_, rfl, ?_⟩
              have HF := Lib.hid (hk _ _ HF.out)
              have hN := HI7.out
              clear hk hHeld HS HI7
              refine hK.out _ _ hN (fun hHeld => ?_)
              clear hK K hN
              (try simp only [Act.put, List.setIfInBounds_toArray, List.set_cons_zero, List.set_cons_succ])
              refine wpAnyH_put 11 41 (v := ?_) rfl rfl (by kernel_rfl) (by kernel_rfl) (by kernel_rfl) (fun _ _ _ h => h) (Or.inl ⟨by rfl, ?_⟩) hHeld ?_
              rotate_left
              · intro W' _; go_simp; with_reducible rfl
              (try simp only [Act.put, List.setIfInBounds_toArray, List.set_cons_zero, List.set_cons_succ])
              refine wpAnyH_put 12 53 (v := ?_) rfl rfl (by kernel_rfl) (by kernel_rfl) (by kernel_rfl) (fun _ _ _ h => h) (Or.inl ⟨by rfl, ?_⟩) hHeld ?_
              rotate_left
              · intro W' _; go_simp; with_reducible rfl
              (try simp only [Act.put, List.setIfInBounds_toArray, List.set_cons_zero, List.set_cons_succ])
              refine wpAnyH_put 13 54 (v := ?_) rfl rfl (by kernel_rfl) (by kernel_rfl) (by kernel_rfl) (fun _ _ _ h => h) (Or.inl ⟨by rfl, ?_⟩) hHeld ?_
              rotate_left
              · intro W' _; go_simp; with_reducible rfl
              (try simp only [Act.put, List.setIfInBounds_toArray, List.set_cons_zero, List.set_cons_succ])
              refine wpAnyH_ready (rs := [15]) (by kernel_rfl) (by simp) ?_
              refine AllReadyH.cons rfl (fun K hK => ?_) AllReadyH.nil
              refine step_put (none) rfl rfl _ _ rfl gF zero32 zero32 (by rfl) (by rfl) HF.out zero32_len ?_
              have hN := below_setRow hHeld hgF (byts zero32)
              clear HF hHeld
              refine hK.out _ _ hN (fun hHeld => ?_)
              clear hK K hN
              (try simp only [Act.put])
              refine wpAnyH_put 16 12 (v := ?_) rfl rfl (by kernel_rfl) (by kernel_rfl) (by kernel_rfl) (fun _ _ _ h => h) (Or.inl ⟨by rfl, ?_⟩) hHeld ?_
              rotate_left
              · intro W' _; go_simp; with_reducible rfl
              (try simp only [Act.put, List.setIfInBounds_toArray, List.set_cons_zero, List.set_cons_succ])
              refine wpAnyH_done (by kernel_rfl) ?_ _
              simp only [OnlyN]
              go_wp2_with fail
              go_meet
              exact ⟨_, rfl, rfl, Lib.hid hHeld⟩
          · -- operation 14
            refine step_box (some 11) rfl rfl (by rfl) ?_
            intro gF v38 hg hb hx
            have hgF : W6.heap.size ≤ gF := Nat.le_trans hHeld.size hg
            have HA := Lib.hid ((hb.block _ (Array.getElem?_eq_some_iff.1 HA.out).1).trans HA.out)
            have HF := Lib.hid hx
            have hN := hHeld.trans (hb.mono hHeld.size)
            clear hg hb hx hHeld
            refine hK.out _ _ hN (fun hHeld => ?_)
            clear hK K hN
            (try simp only [Act.put, List.setIfInBounds_toArray, List.set_cons_zero, List.set_cons_succ])
            refine wpAnyH_ready (rs := [6, 8]) (by kernel_rfl) (by simp) ?_
            refine AllReadyH.cons rfl (fun K hK => ?_) (AllReadyH.cons rfl (fun K hK => ?_) AllReadyH.nil)
            · -- operation 6
              refine step_first (some 48) rfl rfl _ _ (by rfl) (W6.heap.size) gA (by rfl) HA.out hgA A' p c' ss (by rfl) HP.out (HSSW.out _ hHeld) (by omega) hHeld.size ?_
              intro A39 c39 v39 ho hb hk
              have HNE := Lib.hid (hk _ _ HF.out).2
              have HF := Lib.hid (hk _ _ HF.out).1
              have HS := Lib.hid ho
              have hN := hHeld.trans hb
              clear ho hb hk hHeld HA
              refine hK.out _ _ hN (fun hHeld => ?_)
              clear hK K hN
              (try simp only [Act.put, List.setIfInBounds_toArray, List.set_cons_zero, List.set_cons_succ])
              refine wpAnyH_ready (rs := [8]) (by kernel_rfl) (by simp) ?_
              refine AllReadyH.cons rfl (fun K hK => ?_) AllReadyH.nil
              refine step_single (some 50) rfl rfl _ (by rfl) d HDL.out (by rfl) ?_
              intro gC v40 hg hb hx
              have hgC : W6.heap.size ≤ gC := Nat.le_trans hHeld.size hg
              have HF := Lib.hid (HF.out.kept hb HF.out.lt)
              have HS := Lib.hid (owns_kept HS.out hb)
              have HC := Lib.hid hx
              have hN := hHeld.trans (hb.mono hHeld.size)
              clear hg hb hx hHeld
              refine hK.out _ _ hN (fun hHeld => ?_)
              clear hK K hN
              (try simp only [Act.put, List.setIfInBounds_toArray, List.set_cons_zero, List.set_cons_succ])
              refine wpAnyH_ready (rs := [9]) (by kernel_rfl) (by simp) ?_
              refine AllReadyH.cons rfl (fun K hK => ?_) AllReadyH.nil
              refine step_more (some 51) rfl rfl _ _ (by rfl) (W6.heap.size) A39 p c39 ss (by rfl) HS.out HS32.out gC d (by rfl) HC.out (by omega) hHeld.size ?_
              intro A41 c41 v41 ho hb hk
              have HF := Lib.hid (hk _ _ HF.out HNE.out)
              have HS := Lib.hid ho
              have hN := hHeld.trans hb
              clear ho hb hk hHeld HC
              refine hK.out _ _ hN (fun hHeld => ?_)
              clear hK K hN
              (try simp only [Act.put, List.setIfInBounds_toArray, List.set_cons_zero, List.set_cons_succ])
              refine wpAnyH_ready (rs := [10]) (by kernel_rfl) (by simp) ?_
              refine AllReadyH.cons rfl (fun K hK => ?_) AllReadyH.nil
              refine step_call (some 52) rfl rfl _ _ _ (by rfl) _ (by rfl) _ (enters_of Tryd.func22 (by kernel_rfl) rfl) (HCL2.out _ _ _ hHeld HS.out) ?_
              rintro e v42 ⟨rfl, HI7, hk⟩
              refine ⟨_, rfl, ?_⟩
              have HF := Lib.hid (hk _ _ HF.out)
              have hN := HI7.out
              clear hk hHeld HS HI7
              refine hK.out _ _ hN (fun hHeld => ?_)
              clear hK K hN
              (try simp only [Act.put, List.setIfInBounds_toArray, List.set_cons_zero, List.set_cons_succ])
              refine wpAnyH_put 11 41 (v := ?_) rfl rfl (by kernel_rfl) (by kernel_rfl) (by kernel_rfl) (fun _ _ _ h => h) (Or.inl ⟨by rfl, ?_⟩) hHeld ?_
              rotate_left
              · intro W' _; go_simp; with_reducible rfl
              (try simp only [Act.put, List.setIfInBounds_toArray, List.set_cons_zero, List.set_cons_succ])
              refine wpAnyH_put 12 53 (v := ?_) rfl rfl (by kernel_rfl) (by kernel_rfl) (by kernel_rfl) (fun _ _ _ h => h) (Or.inl ⟨by rfl, ?_⟩) hHeld ?_
              rotate_left
              · intro W' _; go_simp; with_reducible rfl
              (try simp only [Act.put, List.setIfInBounds_toArray, List.set_cons_zero, List.set_cons_succ])
              refine wpAnyH_put 13 54 (v := ?_) rfl rfl (by kernel_rfl) (by kernel_rfl) (by kernel_rfl) (fun _ _ _ h => h) (Or.inl ⟨by rfl, ?_⟩) hHeld ?_
              rotate_left
              · intro W' _; go_simp; with_reducible rfl
              (try simp only [Act.put, List.setIfInBounds_toArray, List.set_cons_zero, List.set_cons_succ])
              refine wpAnyH_ready (rs := [15]) (by kernel_rfl) (by simp) ?_
              refine AllReadyH.cons rfl (fun K hK => ?_) AllReadyH.nil
              refine step_put (none) rfl rfl _ _ rfl gF zero32 zero32 (by rfl) (by rfl) HF.out zero32_len ?_
              have hN := below_setRow hHeld hgF (byts zero32)
              clear HF hHeld
              refine hK.out _ _ hN (fun hHeld => ?_)
              clear hK K hN
              (try simp only [Act.put])
              refine wpAnyH_put 16 12 (v := ?_) rfl rfl (by kernel_rfl) (by kernel_rfl) (by kernel_rfl) (fun _ _ _ h => h) (Or.inl ⟨by rfl, ?_⟩) hHeld ?_
              rotate_left
              · intro W' _; go_simp; with_reducible rfl
              (try simp only [Act.put, List.setIfInBounds_toArray, List.set_cons_zero, List.set_cons_succ])
              refine wpAnyH_done (by kernel_rfl) ?_ _
              simp only [OnlyN]
              go_wp2_with fail
              go_meet
              exact ⟨_, rfl, rfl, Lib.hid hHeld⟩
            · -- operation 8
              refine step_single (some 50) rfl rfl _ (by rfl) d HDL.out (by rfl) ?_
              intro gC v44 hg hb hx
              have hgC : W6.heap.size ≤ gC := Nat.le_trans hHeld.size hg
              have HA := Lib.hid ((hb.block _ (Array.getElem?_eq_some_iff.1 HA.out).1).trans HA.out)
              have HF := Lib.hid (HF.out.kept hb HF.out.lt)
              have HC := Lib.hid hx
              have hN := hHeld.trans (hb.mono hHeld.size)
              clear hg hb hx hHeld
              refine hK.out _ _ hN (fun hHeld => ?_)
              clear hK K hN
              (try simp only [Act.put, List.setIfInBounds_toArray, List.set_cons_zero, List.set_cons_succ])
              refine wpAnyH_ready (rs := [6]) (by kernel_rfl) (by simp) ?_
              refine AllReadyH.cons rfl (fun K hK => ?_) AllReadyH.nil
              refine step_first (some 48) rfl rfl _ _ (by rfl) (W6.heap.size) gA (by rfl) HA.out hgA A' p c' ss (by rfl) HP.out (HSSW.out _ hHeld) (by omega) hHeld.size ?_
              intro A45 c45 v45 ho hb hk
              have HC := Lib.hid (hk _ _ HC.out).1
              have HNE := Lib.hid (hk _ _ HF.out).2
              have HF := Lib.hid (hk _ _ HF.out).1
              have HS := Lib.hid ho
              have hN := hHeld.trans hb
              clear ho hb hk hHeld HA
              refine hK.out _ _ hN (fun hHeld => ?_)
              clear hK K hN
              (try simp only [Act.put, List.setIfInBounds_toArray, List.set_cons_zero, List.set_cons_succ])
              refine wpAnyH_ready (rs := [9]) (by kernel_rfl) (by simp) ?_
              refine AllReadyH.cons rfl (fun K hK => ?_) AllReadyH.nil
              refine step_more (some 51) rfl rfl _ _ (by rfl) (W6.heap.size) A45 p c45 ss (by rfl) HS.out HS32.out gC d (by rfl) HC.out (by omega) hHeld.size ?_
              intro A46 c46 v46 ho hb hk
              have HF := Lib.hid (hk _ _ HF.out HNE.out)
              have HS := Lib.hid ho
              have hN := hHeld.trans hb
              clear ho hb hk hHeld HC
              refine hK.out _ _ hN (fun hHeld => ?_)
              clear hK K hN
              (try simp only [Act.put, List.setIfInBounds_toArray, List.set_cons_zero, List.set_cons_succ])
              refine wpAnyH_ready (rs := [10]) (by kernel_rfl) (by simp) ?_
              refine AllReadyH.cons rfl (fun K hK => ?_) AllReadyH.nil
              refine step_call (some 52) rfl rfl _ _ _ (by rfl) _ (by rfl) _ (enters_of Tryd.func22 (by kernel_rfl) rfl) (HCL2.out _ _ _ hHeld HS.out) ?_
              rintro e v47 ⟨rfl, HI7, hk⟩
              refine ⟨_, rfl, ?_⟩
              have HF := Lib.hid (hk _ _ HF.out)
              have hN := HI7.out
              clear hk hHeld HS HI7
              refine hK.out _ _ hN (fun hHeld => ?_)
              clear hK K hN
              (try simp only [Act.put, List.setIfInBounds_toArray, List.set_cons_zero, List.set_cons_succ])
              refine wpAnyH_put 11 41 (v := ?_) rfl rfl (by kernel_rfl) (by kernel_rfl) (by kernel_rfl) (fun _ _ _ h => h) (Or.inl ⟨by rfl, ?_⟩) hHeld ?_
              rotate_left
              · intro W' _; go_simp; with_reducible rfl
              (try simp only [Act.put, List.setIfInBounds_toArray, List.set_cons_zero, List.set_cons_succ])
              refine wpAnyH_put 12 53 (v := ?_) rfl rfl (by kernel_rfl) (by kernel_rfl) (by kernel_rfl) (fun _ _ _ h => h) (Or.inl ⟨by rfl, ?_⟩) hHeld ?_
              rotate_left
              · intro W' _; go_simp; with_reducible rfl
              (try simp only [Act.put, List.setIfInBounds_toArray, List.set_cons_zero, List.set_cons_succ])
              refine wpAnyH_put 13 54 (v := ?_) rfl rfl (by kernel_rfl) (by kernel_rfl) (by kernel_rfl) (fun _ _ _ h => h) (Or.inl ⟨by rfl, ?_⟩) hHeld ?_
              rotate_left
              · intro W' _; go_simp; with_reducible rfl
              (try simp only [Act.put, List.setIfInBounds_toArray, List.set_cons_zero, List.set_cons_succ])
              refine wpAnyH_ready (rs := [15]) (by kernel_rfl) (by simp) ?_
              refine AllReadyH.cons rfl (fun K hK => ?_) AllReadyH.nil
              refine step_put (none) rfl rfl _ _ rfl gF zero32 zero32 (by rfl) (by rfl) HF.out zero32_len ?_
              have hN := below_setRow hHeld hgF (byts zero32)
              clear HF hHeld
              refine hK.out _ _ hN (fun hHeld => ?_)
              clear hK K hN
              (try simp only [Act.put])
              refine wpAnyH_put 16 12 (v := ?_) rfl rfl (by kernel_rfl) (by kernel_rfl) (by kernel_rfl) (fun _ _ _ h => h) (Or.inl ⟨by rfl, ?_⟩) hHeld ?_
              rotate_left
              · intro W' _; go_simp; with_reducible rfl
              (try simp only [Act.put, List.setIfInBounds_toArray, List.set_cons_zero, List.set_cons_succ])
              refine wpAnyH_done (by kernel_rfl) ?_ _
              simp only [OnlyN]
              go_wp2_with fail
              go_meet
              exact ⟨_, rfl, rfl, Lib.hid hHeld⟩
        · -- operation 8
          refine step_single (some 50) rfl rfl _ (by rfl) d HDL.out (by rfl) ?_
          intro gC v49 hg hb hx
          have hgC : W6.heap.size ≤ gC := Nat.le_trans hHeld.size hg
          have HC := Lib.hid hx
          have hN := hHeld.trans (hb.mono hHeld.size)
          clear hg hb hx hHeld
          refine hK.out _ _ hN (fun hHeld => ?_)
          clear hK K hN
          (try simp only [Act.put, List.setIfInBounds_toArray, List.set_cons_zero, List.set_cons_succ])
          refine wpAnyH_ready (rs := [4, 14]) (by kernel_rfl) (by simp) ?_
          refine AllReadyH.cons rfl (fun K hK => ?_) (AllReadyH.cons rfl (fun K hK => ?_) AllReadyH.nil)
          · -- operation 4
            refine step_empty (some 46) rfl rfl (by rfl) ?_
            intro gA v50 hg hb hx
            have hgA : W6.heap.size ≤ gA := Nat.le_trans hHeld.size hg
            have HC := Lib.hid (HC.out.kept hb HC.out.lt)
            have HA := Lib.hid hx
            have hN := hHeld.trans (hb.mono hHeld.size)
            clear hg hb hx hHeld
            refine hK.out _ _ hN (fun hHeld => ?_)
            clear hK K hN
            (try simp only [Act.put, List.setIfInBounds_toArray, List.set_cons_zero, List.set_cons_succ])
            refine wpAnyH_ready (rs := [6, 14]) (by kernel_rfl) (by simp) ?_
            refine AllReadyH.cons rfl (fun K hK => ?_) (AllReadyH.cons rfl (fun K hK => ?_) AllReadyH.nil)
            · -- operation 6
              refine step_first (some 48) rfl rfl _ _ (by rfl) (W6.heap.size) gA (by rfl) HA.out hgA A' p c' ss (by rfl) HP.out (HSSW.out _ hHeld) (by omega) hHeld.size ?_
              intro A51 c51 v51 ho hb hk
              have HC := Lib.hid (hk _ _ HC.out).1
              have HS := Lib.hid ho
              have hN := hHeld.trans hb
              clear ho hb hk hHeld HA
              refine hK.out _ _ hN (fun hHeld => ?_)
              clear hK K hN
              (try simp only [Act.put, List.setIfInBounds_toArray, List.set_cons_zero, List.set_cons_succ])
              refine wpAnyH_ready (rs := [9, 14]) (by kernel_rfl) (by simp) ?_
              refine AllReadyH.cons rfl (fun K hK => ?_) (AllReadyH.cons rfl (fun K hK => ?_) AllReadyH.nil)
              · -- operation 9
                refine step_more (some 51) rfl rfl _ _ (by rfl) (W6.heap.size) A51 p c51 ss (by rfl) HS.out HS32.out gC d (by rfl) HC.out (by omega) hHeld.size ?_
                intro A52 c52 v52 ho hb hk
                have HS := Lib.hid ho
                have hN := hHeld.trans hb
                clear ho hb hk hHeld HC
                refine hK.out _ _ hN (fun hHeld => ?_)
                clear hK K hN
                (try simp only [Act.put, List.setIfInBounds_toArray, List.set_cons_zero, List.set_cons_succ])
                refine wpAnyH_ready (rs := [10, 14]) (by kernel_rfl) (by simp) ?_
                refine AllReadyH.cons rfl (fun K hK => ?_) (AllReadyH.cons rfl (fun K hK => ?_) AllReadyH.nil)
                · -- operation 10
                  refine step_call (some 52) rfl rfl _ _ _ (by rfl) _ (by rfl) _ (enters_of Tryd.func22 (by kernel_rfl) rfl) (HCL2.out _ _ _ hHeld HS.out) ?_
                  rintro e v53 ⟨rfl, HI7, hk⟩
                  refine ⟨_, rfl, ?_⟩
                  have hN := HI7.out
                  clear hk hHeld HS HI7
                  refine hK.out _ _ hN (fun hHeld => ?_)
                  clear hK K hN
                  (try simp only [Act.put, List.setIfInBounds_toArray, List.set_cons_zero, List.set_cons_succ])
                  refine wpAnyH_put 11 41 (v := ?_) rfl rfl (by kernel_rfl) (by kernel_rfl) (by kernel_rfl) (fun _ _ _ h => h) (Or.inl ⟨by rfl, ?_⟩) hHeld ?_
                  rotate_left
                  · intro W' _; go_simp; with_reducible rfl
                  (try simp only [Act.put, List.setIfInBounds_toArray, List.set_cons_zero, List.set_cons_succ])
                  refine wpAnyH_put 12 53 (v := ?_) rfl rfl (by kernel_rfl) (by kernel_rfl) (by kernel_rfl) (fun _ _ _ h => h) (Or.inl ⟨by rfl, ?_⟩) hHeld ?_
                  rotate_left
                  · intro W' _; go_simp; with_reducible rfl
                  (try simp only [Act.put, List.setIfInBounds_toArray, List.set_cons_zero, List.set_cons_succ])
                  refine wpAnyH_put 13 54 (v := ?_) rfl rfl (by kernel_rfl) (by kernel_rfl) (by kernel_rfl) (fun _ _ _ h => h) (Or.inl ⟨by rfl, ?_⟩) hHeld ?_
                  rotate_left
                  · intro W' _; go_simp; with_reducible rfl
                  (try simp only [Act.put, List.setIfInBounds_toArray, List.set_cons_zero, List.set_cons_succ])
                  refine wpAnyH_ready (rs := [14]) (by kernel_rfl) (by simp) ?_
                  refine AllReadyH.cons rfl (fun K hK => ?_) AllReadyH.nil
                  refine step_box (some 11) rfl rfl (by rfl) ?_
                  intro gF v54 hg hb hx
                  have hgF : W6.heap.size ≤ gF := Nat.le_trans hHeld.size hg
                  have HF := Lib.hid hx
                  have hN := hHeld.trans (hb.mono hHeld.size)
                  clear hg hb hx hHeld
                  refine hK.out _ _ hN (fun hHeld => ?_)
                  clear hK K hN
                  (try simp only [Act.put, List.setIfInBounds_toArray, List.set_cons_zero, List.set_cons_succ])
                  refine wpAnyH_ready (rs := [15]) (by kernel_rfl) (by simp) ?_
                  refine AllReadyH.cons rfl (fun K hK => ?_) AllReadyH.nil
                  refine step_put (none) rfl rfl _ _ rfl gF zero32 zero32 (by rfl) (by rfl) HF.out zero32_len ?_
                  have hN := below_setRow hHeld hgF (byts zero32)
                  clear HF hHeld
                  refine hK.out _ _ hN (fun hHeld => ?_)
                  clear hK K hN
                  (try simp only [Act.put])
                  refine wpAnyH_put 16 12 (v := ?_) rfl rfl (by kernel_rfl) (by kernel_rfl) (by kernel_rfl) (fun _ _ _ h => h) (Or.inl ⟨by rfl, ?_⟩) hHeld ?_
                  rotate_left
                  · intro W' _; go_simp; with_reducible rfl
                  (try simp only [Act.put, List.setIfInBounds_toArray, List.set_cons_zero, List.set_cons_succ])
                  refine wpAnyH_done (by kernel_rfl) ?_ _
                  simp only [OnlyN]
                  go_wp2_with fail
                  go_meet
                  exact ⟨_, rfl, rfl, Lib.hid hHeld⟩
                · -- operation 14
                  refine step_box (some 11) rfl rfl (by rfl) ?_
                  intro gF v56 hg hb hx
                  have hgF : W6.heap.size ≤ gF := Nat.le_trans hHeld.size hg
                  have HNE0 : Hid ((Value.slice A52 (p + 1) c52).ownBlock ≠ some gF) := Lib.hid (fun e => absurd (own_lt HS.out e) (Nat.not_lt.2 hg))
                  have HS := Lib.hid (owns_kept HS.out hb)
                  have HNE := HNE0
                  have HF := Lib.hid hx
                  have hN := hHeld.trans (hb.mono hHeld.size)
                  clear hg hb hx hHeld
                  refine hK.out _ _ hN (fun hHeld => ?_)
                  clear hK K hN
                  (try simp only [Act.put, List.setIfInBounds_toArray, List.set_cons_zero, List.set_cons_succ])
                  refine wpAnyH_ready (rs := [10]) (by kernel_rfl) (by simp) ?_
                  refine AllReadyH.cons rfl (fun K hK => ?_) AllReadyH.nil
                  refine step_call (some 52) rfl rfl _ _ _ (by rfl) _ (by rfl) _ (enters_of Tryd.func22 (by kernel_rfl) rfl) (HCL2.out _ _ _ hHeld HS.out) ?_
                  rintro e v57 ⟨rfl, HI7, hk⟩
                  refine ⟨_, rfl, ?_⟩
                  have HF := Lib.hid (hk _ _ HF.out)
                  have hN := HI7.out
                  clear hk hHeld HS HI7
                  refine hK.out _ _ hN (fun hHeld => ?_)
                  clear hK K hN
                  (try simp only [Act.put, List.setIfInBounds_toArray, List.set_cons_zero, List.set_cons_succ])
                  refine wpAnyH_put 11 41 (v := ?_) rfl rfl (by kernel_rfl) (by kernel_rfl) (by kernel_rfl) (fun _ _ _ h => h) (Or.inl ⟨by rfl, ?_⟩) hHeld ?_
                  rotate_left
                  · intro W' _; go_simp; with_reducible rfl
                  (try simp only [Act.put, List.setIfInBounds_toArray, List.set_cons_zero, List.set_cons_succ])
                  refine wpAnyH_put 12 53 (v := ?_) rfl rfl (by kernel_rfl) (by kernel_rfl) (by kernel_rfl) (fun _ _ _ h => h) (Or.inl ⟨by rfl, ?_⟩) hHeld ?_
                  rotate_left
                  · intro W' _; go_simp; with_reducible rfl
                  (try simp only [Act.put, List.setIfInBounds_toArray, List.set_cons_zero, List.set_cons_succ])
                  refine wpAnyH_put 13 54 (v := ?_) rfl rfl (by kernel_rfl) (by kernel_rfl) (by kernel_rfl) (fun _ _ _ h => h) (Or.inl ⟨by rfl, ?_⟩) hHeld ?_
                  rotate_left
                  · intro W' _; go_simp; with_reducible rfl
                  (try simp only [Act.put, List.setIfInBounds_toArray, List.set_cons_zero, List.set_cons_succ])
                  refine wpAnyH_ready (rs := [15]) (by kernel_rfl) (by simp) ?_
                  refine AllReadyH.cons rfl (fun K hK => ?_) AllReadyH.nil
                  refine step_put (none) rfl rfl _ _ rfl gF zero32 zero32 (by rfl) (by rfl) HF.out zero32_len ?_
                  have hN := below_setRow hHeld hgF (byts zero32)
                  clear HF hHeld
                  refine hK.out _ _ hN (fun hHeld => ?_)
                  clear hK K hN
                  (try simp only [Act.put])
                  refine wpAnyH_put 16 12 (v := ?_) rfl rfl (by kernel_rfl) (by kernel_rfl) (by kernel_rfl) (fun _ _ _ h => h) (Or.inl ⟨by rfl, ?_⟩) hHeld ?_
                  rotate_left
                  · intro W' _; go_simp; with_reducible rfl
                  (try simp only [Act.put, List.setIfInBounds_toArray, List.set_cons_zero, List.set_cons_succ])
                  refine wpAnyH_done (by kernel_rfl) ?_ _
                  simp only [OnlyN]
                  go_wp2_with fail
                  go_meet
                  exact ⟨_, rfl, rfl, Lib.hid hHeld⟩
              · -- operation 14
                refine step_box (some 11) rfl rfl (by rfl) ?_
                intro gF v59 hg hb hx
                have hgF : W6.heap.size ≤ gF := Nat.le_trans hHeld.size hg
                have HNE0 : Hid ((Value.slice A51 p c51).ownBlock ≠ some gF) := Lib.hid (fun e => absurd (own_lt HS.out e) (Nat.not_lt.2 hg))
                have HC := Lib.hid (HC.out.kept hb HC.out.lt)
                have HS := Lib.hid (owns_kept HS.out hb)
                have HNE := HNE0
                have HF := Lib.hid hx
                have hN := hHeld.trans (hb.mono hHeld.size)
                clear hg hb hx hHeld
                refine hK.out _ _ hN (fun hHeld => ?_)
                clear hK K hN
                (try simp only [Act.put, List.setIfInBounds_toArray, List.set_cons_zero, List.set_cons_succ])
                refine wpAnyH_ready (rs := [9]) (by kernel_rfl) (by simp) ?_
                refine AllReadyH.cons rfl (fun K hK => ?_) AllReadyH.nil
                refine step_more (some 51) rfl rfl _ _ (by rfl) (W6.heap.size) A51 p c51 ss (by rfl) HS.out HS32.out gC d (by rfl) HC.out (by omega) hHeld.size ?_
                intro A60 c60 v60 ho hb hk
                have HF := Lib.hid (hk _ _ HF.out HNE.out)
                have HS := Lib.hid ho
                have hN := hHeld.trans hb
                clear ho hb hk hHeld HC
                refine hK.out _ _ hN (fun hHeld => ?_)
                clear hK K hN
                (try simp only [Act.put, List.setIfInBounds_toArray, List.set_cons_zero, List.set_cons_succ])
                refine wpAnyH_ready (rs := [10]) (by kernel_rfl) (by simp) ?_
                refine AllReadyH.cons rfl (fun K hK => ?_) AllReadyH.nil
                refine step_call (some 52) rfl rfl _ _ _ (by rfl) _ (by rfl) _ (enters_of Tryd.func22 (by kernel_rfl) rfl) (HCL2.out _ _ _ hHeld HS.out) ?_
                rintro e v61 ⟨rfl, HI7, hk⟩
                refine ⟨_, rfl, ?_⟩
                have HF := Lib.hid (hk _ _ HF.out)
                have hN := HI7.out
                clear hk hHeld HS HI7
                refine hK.out _ _ hN (fun hHeld => ?_)
                clear hK K hN
                (try simp only [Act.put, List.setIfInBounds_toArray, List.set_cons_zero, List.set_cons_succ])
                refine wpAnyH_put 11 41 (v := ?_) rfl rfl (by kernel_rfl) (by kernel_rfl) (by kernel_rfl) (fun _ _ _ h => h) (Or.inl ⟨by rfl, ?_⟩) hHeld ?_
                rotate_left
                · intro W' _; go_simp; with_reducible rfl
                (try simp only [Act.put, List.setIfInBounds_toArray, List.set_cons_zero, List.set_cons_succ])
                refine wpAnyH_put 12 53 (v := ?_) rfl rfl (by kernel_rfl) (by kernel_rfl) (by kernel_rfl) (fun _ _ _ h => h) (Or.inl ⟨by rfl, ?_⟩) hHeld ?_
                rotate_left
                · intro W' _; go_simp; with_reducible rfl
                (try simp only [Act.put, List.setIfInBounds_toArray, List.set_cons_zero, List.set_cons_succ])
                refine wpAnyH_put 13 54 (v := ?_) rfl rfl (by kernel_rfl) (by kernel_rfl) (by kernel_rfl) (fun _ _ _ h => h) (Or.inl ⟨by rfl, ?_⟩) hHeld ?_
                rotate_left
                · intro W' _; go_simp; with_reducible rfl
                (try simp only [Act.put, List.setIfInBounds_toArray, List.set_cons_zero, List.set_cons_succ])
                refine wpAnyH_ready (rs := [15]) (by kernel_rfl) (by simp) ?_
                refine AllReadyH.cons rfl (fun K hK => ?_) AllReadyH.nil
                refine step_put (none) rfl rfl _ _ rfl gF zero32 zero32 (by rfl) (by rfl) HF.out zero32_len ?_
                have hN := below_setRow hHeld hgF (byts zero32)
                clear HF hHeld
                refine hK.out _ _ hN (fun hHeld => ?_)
                clear hK K hN
                (try simp only [Act.put])
                refine wpAnyH_put 16 12 (v := ?_) rfl rfl (by kernel_rfl) (by kernel_rfl) (by kernel_rfl) (fun _ _ _ h => h) (Or.inl ⟨by rfl, ?_⟩) hHeld ?_
                rotate_left
                · intro W' _; go_simp; with_reducible rfl
                (try simp only [Act.put, List.setIfInBounds_toArray, List.set_cons_zero, List.set_cons_succ])
                refine wpAnyH_done (by kernel_rfl) ?_ _
                simp only [OnlyN]
                go_wp2_with fail
                go_meet
                exact ⟨_, rfl, rfl, Lib.hid hHeld⟩
            · -- operation 14
              refine step_box (some 11) rfl rfl (by rfl) ?_
              intro gF v63 hg hb hx
              have hgF : W6.heap.size ≤ gF := Nat.le_trans hHeld.size hg
              have HA := Lib.hid ((hb.block _ (Array.getElem?_eq_some_iff.1 HA.out).1).trans HA.out)
              have HC := Lib.hid (HC.out.kept hb HC.out.lt)
              have HF := Lib.hid hx
              have hN := hHeld.trans (hb.mono hHeld.size)
              clear hg hb hx hHeld
              refine hK.out _ _ hN (fun hHeld => ?_)
              clear hK K hN
              (try simp only [Act.put, List.setIfInBounds_toArray, List.set_cons_zero, List.set_cons_succ])
              refine wpAnyH_ready (rs := [6]) (by kernel_rfl) (by simp) ?_
              refine AllReadyH.cons rfl (fun K hK => ?_) AllReadyH.nil
              refine step_first (some 48) rfl rfl _ _ (by rfl) (W6.heap.size) gA (by rfl) HA.out hgA A' p c' ss (by rfl) HP.out (HSSW.out _ hHeld) (by omega) hHeld.size ?_
              intro A64 c64 v64 ho hb hk
              have HC := Lib.hid (hk _ _ HC.out).1
              have HNE := Lib.hid (hk _ _ HF.out).2
              have HF := Lib.hid (hk _ _ HF.out).1
              have HS := Lib.hid ho
              have hN := hHeld.trans hb
              clear ho hb hk hHeld HA
              refine hK.out _ _ hN (fun hHeld => ?_)
              clear hK K hN
              (try simp only [Act.put, List.setIfInBounds_toArray, List.set_cons_zero, List.set_cons_succ])
              refine wpAnyH_ready (rs := [9]) (by kernel_rfl) (by simp) ?_
              refine AllReadyH.cons rfl (fun K hK => ?_) AllReadyH.nil
              refine step_more (some 51) rfl rfl _ _ (by rfl) (W6.heap.size) A64 p c64 ss (by rfl) HS.out HS32.out gC d (by rfl) HC.out (by omega) hHeld.size ?_
              intro A65 c65 v65 ho hb hk
              have HF := Lib.hid (hk _ _ HF.out HNE.out)
              have HS := Lib.hid ho
              have hN := hHeld.trans hb
              clear ho hb hk hHeld HC
              refine hK.out _ _ hN (fun hHeld => ?_)
              clear hK K hN
              (try simp only [Act.put, List.setIfInBounds_toArray, List.set_cons_zero, List.set_cons_succ])
              refine wpAnyH_ready (rs := [10]) (by kernel_rfl) (by simp) ?_
              refine AllReadyH.cons rfl (fun K hK => ?_) AllReadyH.nil
              refine step_call (some 52) rfl rfl _ _ _ (by rfl) _ (by rfl) _ (enters_of Tryd.func22 (by kernel_rfl) rfl) (HCL2.out _ _ _ hHeld HS.out) ?_
              rintro e v66 ⟨rfl, HI7, hk⟩
              refine ⟨_, rfl, ?_⟩
              have HF := Lib.hid (hk _ _ HF.out)
              have hN := HI7.out
              clear hk hHeld HS HI7
              refine hK.out _ _ hN (fun hHeld => ?_)
              clear hK K hN
              (try simp only [Act.put, List.setIfInBounds_toArray, List.set_cons_zero, List.set_cons_succ])
              refine wpAnyH_put 11 41 (v := ?_) rfl rfl (by kernel_rfl) (by kernel_rfl) (by kernel_rfl) (fun _ _ _ h => h) (Or.inl ⟨by rfl, ?_⟩) hHeld ?_
              rotate_left
              · intro W' _; go_simp; with_reducible rfl
              (try simp only [Act.put, List.setIfInBounds_toArray, List.set_cons_zero, List.set_cons_succ])
              refine wpAnyH_put 12 53 (v := ?_) rfl rfl (by kernel_rfl) (by kernel_rfl) (by kernel_rfl) (fun _ _ _ h => h) (Or.inl ⟨by rfl, ?_⟩) hHeld ?_
              rotate_left
              · intro W' _; go_simp; with_reducible rfl
              (try simp only [Act.put, List.setIfInBounds_toArray, List.set_cons_zero, List.set_cons_succ])
              refine wpAnyH_put 13 54 (v := ?_) rfl rfl (by kernel_rfl) (by kernel_rfl) (by kernel_rfl) (fun _ _ _ h => h) (Or.inl ⟨by rfl, ?_⟩) hHeld ?_
              rotate_left
              · intro W' _; go_simp; with_reducible rfl
              (try simp only [Act.put, List.setIfInBounds_toArray, List.set_cons_zero, List.set_cons_succ])
              refine wpAnyH_ready (rs := [15]) (by kernel_rfl) (by simp) ?_
              refine AllReadyH.cons rfl (fun K hK => ?_) AllReadyH.nil
              refine step_put (none) rfl rfl _ _ rfl gF zero32 zero32 (by rfl) (by rfl) HF.out zero32_len ?_
              have hN := below_setRow hHeld hgF (byts zero32)
              clear HF hHeld
              refine hK.out _ _ hN (fun hHeld => ?_)
              clear hK K hN
              (try simp only [Act.put])
              refine wpAnyH_put 16 12 (v := ?_) rfl rfl (by kernel_rfl) (by kernel_rfl) (by kernel_rfl) (fun _ _ _ h => h) (Or.inl ⟨by rfl, ?_⟩) hHeld ?_
              rotate_left
              · intro W' _; go_simp; with_reducible rfl
              (try simp only [Act.put, List.setIfInBounds_toArray, List.set_cons_zero, List.set_cons_succ])
              refine wpAnyH_done (by kernel_rfl) ?_ _
              simp only [OnlyN]
              go_wp2_with fail
              go_meet
              exact ⟨_, rfl, rfl, Lib.hid hHeld⟩
          · -- operation 14
            refine step_box (some 11) rfl rfl (by rfl) ?_
            intro gF v68 hg hb hx
            have hgF : W6.heap.size ≤ gF := Nat.le_trans hHeld.size hg
            have HC := Lib.hid (HC.out.kept hb HC.out.lt)
            have HF := Lib.hid hx
            have hN := hHeld.trans (hb.mono hHeld.size)
            clear hg hb hx hHeld
            refine hK.out _ _ hN (fun hHeld => ?_)
            clear hK K hN
            (try simp only [Act.put, List.setIfInBounds_toArray, List.set_cons_zero, List.set_cons_succ])
            refine wpAnyH_ready (rs := [4]) (by kernel_rfl) (by simp) ?_
            refine AllReadyH.cons rfl (fun K hK => ?_) AllReadyH.nil
            refine step_empty (some 46) rfl rfl (by rfl) ?_
            intro gA v69 hg hb hx
            have hgA : W6.heap.size ≤ gA := Nat.le_trans hHeld.size hg
            have HC := Lib.hid (HC.out.kept hb HC.out.lt)
            have HF := Lib.hid (HF.out.kept hb HF.out.lt)
            have HA := Lib.hid hx
            have hN := hHeld.trans (hb.mono hHeld.size)
            clear hg hb hx hHeld
            refine hK.out _ _ hN (fun hHeld => ?_)
            clear hK K hN
            (try simp only [Act.put, List.setIfInBounds_toArray, List.set_cons_zero, List.set_cons_succ])
            refine wpAnyH_ready (rs := [6]) (by kernel_rfl) (by simp) ?_
            refine AllReadyH.cons rfl (fun K hK => ?_) AllReadyH.nil
            refine step_first (some 48) rfl rfl _ _ (by rfl) (W6.heap.size) gA (by rfl) HA.out hgA A' p c' ss (by rfl) HP.out (HSSW.out _ hHeld) (by omega) hHeld.size ?_
            intro A70 c70 v70 ho hb hk
            have HC := Lib.hid (hk _ _ HC.out).1
            have HNE := Lib.hid (hk _ _ HF.out).2
            have HF := Lib.hid (hk _ _ HF.out).1
            have HS := Lib.hid ho
            have hN := hHeld.trans hb
            clear ho hb hk hHeld HA
            refine hK.out _ _ hN (fun hHeld => ?_)
            clear hK K hN
            (try simp only [Act.put, List.setIfInBounds_toArray, List.set_cons_zero, List.set_cons_succ])
            refine wpAnyH_ready (rs := [9]) (by kernel_rfl) (by simp) ?_
            refine AllReadyH.cons rfl (fun K hK => ?_) AllReadyH.nil
            refine step_more (some 51) rfl rfl _ _ (by rfl) (W6.heap.size) A70 p c70 ss (by rfl) HS.out HS32.out gC d (by rfl) HC.out (by omega) hHeld.size ?_
            intro A71 c71 v71 ho hb hk
            have HF := Lib.hid (hk _ _ HF.out HNE.out)
            have HS := Lib.hid ho
            have hN := hHeld.trans hb
            clear ho hb hk hHeld HC
            refine hK.out _ _ hN (fun hHeld => ?_)
            clear hK K hN
            (try simp only [Act.put, List.setIfInBounds_toArray, List.set_cons_zero, List.set_cons_succ])
            refine wpAnyH_ready (rs := [10]) (by kernel_rfl) (by simp) ?_
            refine AllReadyH.cons rfl (fun K hK => ?_) AllReadyH.nil
            refine step_call (some 52) rfl rfl _ _ _ (by rfl) _ (by rfl) _ (enters_of Tryd.func22 (by kernel_rfl) rfl) (HCL2.out _ _ _ hHeld HS.out) ?_
            rintro e v72 ⟨rfl, HI7, hk⟩
            refine ⟨_, rfl, ?_⟩
            have HF := Lib.hid (hk _ _ HF.out)
            have hN := HI7.out
            clear hk hHeld HS HI7
            refine hK.out _ _ hN (fun hHeld => ?_)
            clear hK K hN
            (try simp only [Act.put, List.setIfInBounds_toArray, List.set_cons_zero, List.set_cons_succ])
            refine wpAnyH_put 11 41 (v := ?_) rfl rfl (by kernel_rfl) (by kernel_rfl) (by kernel_rfl) (fun _ _ _ h => h) (Or.inl ⟨by rfl, ?_⟩) hHeld ?_
            rotate_left
            · intro W' _; go_simp; with_reducible rfl
            (try simp only [Act.put, List.setIfInBounds_toArray, List.set_cons_zero, List.set_cons_succ])
            refine wpAnyH_put 12 53 (v := ?_) rfl rfl (by kernel_rfl) (by kernel_rfl) (by kernel_rfl) (fun _ _ _ h => h) (Or.inl ⟨by rfl, ?_⟩) hHeld ?_
            rotate_left
            · intro W' _; go_simp; with_reducible rfl
            (try simp only [Act.put, List.setIfInBounds_toArray, List.set_cons_zero, List.set_cons_succ])
            refine wpAnyH_put 13 54 (v := ?_) rfl rfl (by kernel_rfl) (by kernel_rfl) (by kernel_rfl) (fun _ _ _ h => h) (Or.inl ⟨by rfl, ?_⟩) hHeld ?_
            rotate_left
            · intro W' _; go_simp; with_reducible rfl
            (try simp only [Act.put, List.setIfInBounds_toArray, List.set_cons_zero, List.set_cons_succ])
            refine wpAnyH_ready (rs := [15]) (by kernel_rfl) (by simp) ?_
            refine AllReadyH.cons rfl (fun K hK => ?_) AllReadyH.nil
            refine step_put (none) rfl rfl _ _ rfl gF zero32 zero32 (by rfl) (by rfl) HF.out zero32_len ?_
            have hN := below_setRow hHeld hgF (byts zero32)
            clear HF hHeld
            refine hK.out _ _ hN (fun hHeld => ?_)
            clear hK K hN
            (try simp only [Act.put])
            refine wpAnyH_put 16 12 (v := ?_) rfl rfl (by kernel_rfl) (by kernel_rfl) (by kernel_rfl) (fun _ _ _ h => h) (Or.inl ⟨by rfl, ?_⟩) hHeld ?_
            rotate_left
            · intro W' _; go_simp; with_reducible rfl
            (try simp only [Act.put, List.setIfInBounds_toArray, List.set_cons_zero, List.set_cons_succ])
            refine wpAnyH_done (by kernel_rfl) ?_ _
            simp only [OnlyN]
            go_wp2_with fail
            go_meet
            exact ⟨_, rfl, rfl, Lib.hid hHeld⟩
        · -- operation 14
          refine step_box (some 11) rfl rfl (by rfl) ?_
          intro gF v74 hg hb hx
          have hgF : W6.heap.size ≤ gF := Nat.le_trans hHeld.size hg
          have HF := Lib.hid hx
          have hN := hHeld.trans (hb.mono hHeld.size)
          clear hg hb hx hHeld
          refine hK.out _ _ hN (fun hHeld => ?_)
          clear hK K hN
          (try simp only [Act.put, List.setIfInBounds_toArray, List.set_cons_zero, List.set_cons_succ])
          refine wpAnyH_ready (rs := [4, 8]) (by kernel_rfl) (by simp) ?_
          refine AllReadyH.cons rfl (fun K hK => ?_) (AllReadyH.cons rfl (fun K hK => ?_) AllReadyH.nil)
          · -- operation 4
            refine step_empty (some 46) rfl rfl (by rfl) ?_
            intro gA v75 hg hb hx
            have hgA : W6.heap.size ≤ gA := Nat.le_trans hHeld.size hg
            have HF := Lib.hid (HF.out.kept hb HF.out.lt)
            have HA := Lib.hid hx
            have hN := hHeld.trans (hb.mono hHeld.size)
            clear hg hb hx hHeld
            refine hK.out _ _ hN (fun hHeld => ?_)
            clear hK K hN
            (try simp only [Act.put, List.setIfInBounds_toArray, List.set_cons_zero, List.set_cons_succ])
            refine wpAnyH_ready (rs := [6, 8]) (by kernel_rfl) (by simp) ?_
            refine AllReadyH.cons rfl (fun K hK => ?_) (AllReadyH.cons rfl (fun K hK => ?_) AllReadyH.nil)
            · -- operation 6
              refine step_first (some 48) rfl rfl _ _ (by rfl) (W6.heap.size) gA (by rfl) HA.out hgA A' p c' ss (by rfl) HP.out (HSSW.out _ hHeld) (by omega) hHeld.size ?_
              intro A76 c76 v76 ho hb hk
              have HNE := Lib.hid (hk _ _ HF.out).2
              have HF := Lib.hid (hk _ _ HF.out).1
              have HS := Lib.hid ho
              have hN := hHeld.trans hb
              clear ho hb hk hHeld HA
              refine hK.out _ _ hN (fun hHeld => ?_)
              clear hK K hN
              (try simp only [Act.put, List.setIfInBounds_toArray, List.set_cons_zero, List.set_cons_succ])
              refine wpAnyH_ready (rs := [8]) (by kernel_rfl) (by simp) ?_
              refine AllReadyH.cons rfl (fun K hK => ?_) AllReadyH.nil
              refine step_single (some 50) rfl rfl _ (by rfl) d HDL.out (by rfl) ?_
              intro gC v77 hg hb hx
              have hgC : W6.heap.size ≤ gC := Nat.le_trans hHeld.size hg
              have HF := Lib.hid (HF.out.kept hb HF.out.lt)
              have HS := Lib.hid (owns_kept HS.out hb)
              have HC := Lib.hid hx
              have hN := hHeld.trans (hb.mono hHeld.size)
              clear hg hb hx hHeld
              refine hK.out _ _ hN (fun hHeld => ?_)
              clear hK K hN
              (try simp only [Act.put, List.setIfInBounds_toArray, List.set_cons_zero, List.set_cons_succ])
              refine wpAnyH_ready (rs := [9]) (by kernel_rfl) (by simp) ?_
              refine AllReadyH.cons rfl (fun K hK => ?_) AllReadyH.nil
              refine step_more (some 51) rfl rfl _ _ (by rfl) (W6.heap.size) A76 p c76 ss (by rfl) HS.out HS32.out gC d (by rfl) HC.out (by omega) hHeld.size ?_
              intro A78 c78 v78 ho hb hk
              have HF := Lib.hid (hk _ _ HF.out HNE.out)
              have HS := Lib.hid ho
              have hN := hHeld.trans hb
              clear ho hb hk hHeld HC
              refine hK.out _ _ hN (fun hHeld => ?_)
              clear hK K hN
              (try simp only [Act.put, List.setIfInBounds_toArray, List.set_cons_zero, List.set_cons_succ])
              refine wpAnyH_ready (rs := [10]) (by kernel_rfl) (by simp) ?_
              refine AllReadyH.cons rfl (fun K hK => ?_) AllReadyH.nil
              refine step_call (some 52) rfl rfl _ _ _ (by rfl) _ (by rfl) _ (enters_of Tryd.func22 (by kernel_rfl) rfl) (HCL2.out _ _ _ hHeld HS.out) ?_
              rintro e v79 ⟨rfl, HI7, hk⟩
              refine ⟨_, rfl, ?_⟩
              have HF := Lib.hid (hk _ _ HF.out)
              have hN := HI7.out
              clear hk hHeld HS HI7
              refine hK.out _ _ hN (fun hHeld => ?_)
              clear hK K hN
              (try simp only [Act.put, List.setIfInBounds_toArray, List.set_cons_zero, List.set_cons_succ])
              refine wpAnyH_put 11 41 (v := ?_) rfl rfl (by kernel_rfl) (by kernel_rfl) (by kernel_rfl) (fun _ _ _ h => h) (Or.inl ⟨by rfl, ?_⟩) hHeld ?_
              rotate_left
              · intro W' _; go_simp; with_reducible rfl
              (try simp only [Act.put, List.setIfInBounds_toArray, List.set_cons_zero, List.set_cons_succ])
              refine wpAnyH_put 12 53 (v := ?_) rfl rfl (by kernel_rfl) (by kernel_rfl) (by kernel_rfl) (fun _ _ _ h => h) (Or.inl ⟨by rfl, ?_⟩) hHeld ?_
              rotate_left
              · intro W' _; go_simp; with_reducible rfl
              (try simp only [Act.put, List.setIfInBounds_toArray, List.set_cons_zero, List.set_cons_succ])
              refine wpAnyH_put 13 54 (v := ?_) rfl rfl (by kernel_rfl) (by kernel_rfl) (by kernel_rfl) (fun _ _ _ h => h) (Or.inl ⟨by rfl, ?_⟩) hHeld ?_
              rotate_left
              · intro W' _; go_simp; with_reducible rfl
              (try simp only [Act.put, List.setIfInBounds_toArray, List.set_cons_zero, List.set_cons_succ])
              refine wpAnyH_ready (rs := [15]) (by kernel_rfl) (by simp) ?_
              refine AllReadyH.cons rfl (fun K hK => ?_) AllReadyH.nil
              refine step_put (none) rfl rfl _ _ rfl gF zero32 zero32 (by rfl) (by rfl) HF.out zero32_len ?_
              have hN := below_setRow hHeld hgF (byts zero32)
              clear HF hHeld
              refine hK.out _ _ hN (fun hHeld => ?_)
              clear hK K hN
              (try simp only [Act.put])
              refine wpAnyH_put 16 12 (v := ?_) rfl rfl (by kernel_rfl) (by kernel_rfl) (by kernel_rfl) (fun _ _ _ h => h) (Or.inl ⟨by rfl, ?_⟩) hHeld ?_
              rotate_left
              · intro W' _; go_simp; with_reducible rfl
              (try simp only [Act.put, List.setIfInBounds_toArray, List.set_cons_zero, List.set_cons_succ])
              refine wpAnyH_done (by kernel_rfl) ?_ _
              simp only [OnlyN]
              go_wp2_with fail
              go_meet
              exact ⟨_, rfl, rfl, Lib.hid hHeld⟩
            · -- operation 8
              refine step_single (some 50) rfl rfl _ (by rfl) d HDL.out (by rfl) ?_
              intro gC v81 hg hb hx
              have hgC : W6.heap.size ≤ gC := Nat.le_trans hHeld.size hg
              have HA := Lib.hid ((hb.block _ (Array.getElem?_eq_some_iff.1 HA.out).1).trans HA.out)
              have HF := Lib.hid (HF.out.kept hb HF.out.lt)
              have HC := Lib.hid hx
              have hN := hHeld.trans (hb.mono hHeld.size)
              clear hg hb hx hHeld
              refine hK.out _ _ hN (fun hHeld => ?_)
              clear hK K hN
              (try simp only [Act.put, List.setIfInBounds_toArray, List.set_cons_zero, List.set_cons_succ])
              refine wpAnyH_ready (rs := [6]) (by kernel_rfl) (by simp) ?_
              refine AllReadyH.cons rfl (fun K hK => ?_) AllReadyH.nil
              refine step_first (some 48) rfl rfl _ _ (by rfl) (W6.heap.size) gA (by rfl) HA.out hgA A' p c' ss (by rfl) HP.out (HSSW.out _ hHeld) (by omega) hHeld.size ?_
              intro A82 c82 v82 ho hb hk
              have HC := Lib.hid (hk _ _ HC.out).1
              have HNE := Lib.hid (hk _ _ HF.out).2
              have HF := Lib.hid (hk _ _ HF.out).1
              have HS := Lib.hid ho
              have hN := hHeld.trans hb
              clear ho hb hk hHeld HA
              refine hK.out _ _ hN (fun hHeld => ?_)
              clear hK K hN
              (try simp only [Act.put, List.setIfInBounds_toArray, List.set_cons_zero, List.set_cons_succ])
              refine wpAnyH_ready (rs := [9]) (by kernel_rfl) (by simp) ?_
              refine AllReadyH.cons rfl (fun K hK => ?_) AllReadyH.nil
              refine step_more (some 51) rfl rfl _ _ (by rfl) (W6.heap.size) A82 p c82 ss (by rfl) HS.out HS32.out gC d (by rfl) HC.out (by omega) hHeld.size ?_
              intro A83 c83 v83 ho hb hk
              have HF := Lib.hid (hk _ _ HF.out HNE.out)
              have HS := Lib.hid ho
              have hN := hHeld.trans hb
              clear ho hb hk hHeld HC
              refine hK.out _ _ hN (fun hHeld => ?_)
              clear hK K hN
              (try simp only [Act.put, List.setIfInBounds_toArray, List.set_cons_zero, List.set_cons_succ])
              refine wpAnyH_ready (rs := [10]) (by kernel_rfl) (by simp) ?_
              refine AllReadyH.cons rfl (fun K hK => ?_) AllReadyH.nil
              refine step_call (some 52) rfl rfl _ _ _ (by rfl) _ (by rfl) _ (enters_of Tryd.func22 (by kernel_rfl) rfl) (HCL2.out _ _ _ hHeld HS.out) ?_
              rintro e v84 ⟨rfl, HI7, hk⟩
              refine ⟨_, rfl, ?_⟩
              have HF := Lib.hid (hk _ _ HF.out)
              have hN := HI7.out
              clear hk hHeld HS HI7
              refine hK.out _ _ hN (fun hHeld => ?_)
              clear hK K hN
              (try simp only [Act.put, List.setIfInBounds_toArray, List.set_cons_zero, List.set_cons_succ])
              refine wpAnyH_put 11 41 (v := ?_) rfl rfl (by kernel_rfl) (by kernel_rfl) (by kernel_rfl) (fun _ _ _ h => h) (Or.inl ⟨by rfl, ?_⟩) hHeld ?_
              rotate_left
              · intro W' _; go_simp; with_reducible rfl
              (try simp only [Act.put, List.setIfInBounds_toArray, List.set_cons_zero, List.set_cons_succ])
              refine wpAnyH_put 12 53 (v := ?_) rfl rfl (by kernel_rfl) (by kernel_rfl) (by kernel_rfl) (fun _ _ _ h => h) (Or.inl ⟨by rfl, ?_⟩) hHeld ?_
              rotate_left
              · intro W' _; go_simp; with_reducible rfl
              (try simp only [Act.put, List.setIfInBounds_toArray, List.set_cons_zero, List.set_cons_succ])
              refine wpAnyH_put 13 54 (v := ?_) rfl rfl (by kernel_rfl) (by kernel_rfl) (by kernel_rfl) (fun _ _ _ h => h) (Or.inl ⟨by rfl, ?_⟩) hHeld ?_
              rotate_left
              · intro W' _; go_simp; with_reducible rfl
              (try simp only [Act.put, List.setIfInBounds_toArray, List.set_cons_zero, List.set_cons_succ])
              refine wpAnyH_ready (rs := [15]) (by kernel_rfl) (by simp) ?_
              refine AllReadyH.cons rfl (fun K hK => ?_) AllReadyH.nil
              refine step_put (none) rfl rfl _ _ rfl gF zero32 zero32 (by rfl) (by rfl) HF.out zero32_len ?_
              have hN := below_setRow hHeld hgF (byts zero32)
              clear HF hHeld
              refine hK.out _ _ hN (fun hHeld => ?_)
              clear hK K hN
              (try simp only [Act.put])
              refine wpAnyH_put 16 12 (v := ?_) rfl rfl (by kernel_rfl) (by kernel_rfl) (by kernel_rfl) (fun _ _ _ h => h) (Or.inl ⟨by rfl, ?_⟩) hHeld ?_
              rotate_left
              · intro W' _; go_simp; with_reducible rfl
              (try simp only [Act.put, List.setIfInBounds_toArray, List.set_cons_zero, List.set_cons_succ])
              refine wpAnyH_done (by kernel_rfl) ?_ _
              simp only [OnlyN]
              go_wp2_with fail
              go_meet
              exact ⟨_, rfl, rfl, Lib.hid hHeld⟩
          · -- operation 8
            refine step_single (some 50) rfl rfl _ (by rfl) d HDL.out (by rfl) ?_
            intro gC v86 hg hb hx
            have hgC : W6.heap.size ≤ gC := Nat.le_trans hHeld.size hg
            have HF := Lib.hid (HF.out.kept hb HF.out.lt)
            have HC := Lib.hid hx
            have hN := hHeld.trans (hb.mono hHeld.size)
            clear hg hb hx hHeld
            refine hK.out _ _ hN (fun hHeld => ?_)
            clear hK K hN
            (try simp only [Act.put, List.setIfInBounds_toArray, List.set_cons_zero, List.set_cons_succ])
            refine wpAnyH_ready (rs := [4]) (by kernel_rfl) (by simp) ?_
            refine AllReadyH.cons rfl (fun K hK => ?_) AllReadyH.nil
            refine step_empty (some 46) rfl rfl (by rfl) ?_
            intro gA v87 hg hb hx
            have hgA : W6.heap.size ≤ gA := Nat.le_trans hHeld.size hg
            have HC := Lib.hid (HC.out.kept hb HC.out.lt)
            have HF := Lib.hid (HF.out.kept hb HF.out.lt)
            have HA := Lib.hid hx
            have hN := hHeld.trans (hb.mono hHeld.size)
            clear hg hb hx hHeld
            refine hK.out _ _ hN (fun hHeld => ?_)
            clear hK K hN
            (try simp only [Act.put, List.setIfInBounds_toArray, List.set_cons_zero, List.set_cons_succ])
            refine wpAnyH_ready (rs := [6]) (by kernel_rfl) (by simp) ?_
            refine AllReadyH.cons rfl (fun K hK => ?_) AllReadyH.nil
            refine step_first (some 48) rfl rfl _ _ (by rfl) (W6.heap.size) gA (by rfl) HA.out hgA A' p c' ss (by rfl) HP.out (HSSW.out _ hHeld) (by omega) hHeld.size ?_
            intro A88 c88 v88 ho hb hk
            have HC := Lib.hid (hk _ _ HC.out).1
            have HNE := Lib.hid (hk _ _ HF.out).2
            have HF := Lib.hid (hk _ _ HF.out).1
            have HS := Lib.hid ho
            have hN := hHeld.trans hb
            clear ho hb hk hHeld HA
            refine hK.out _ _ hN (fun hHeld => ?_)
            clear hK K hN
            (try simp only [Act.put, List.setIfInBounds_toArray, List.set_cons_zero, List.set_cons_succ])
            refine wpAnyH_ready (rs := [9]) (by kernel_rfl) (by simp) ?_
            refine AllReadyH.cons rfl (fun K hK => ?_) AllReadyH.nil
            refine step_more (some 51) rfl rfl _ _ (by rfl) (W6.heap.size) A88 p c88 ss (by rfl) HS.out HS32.out gC d (by rfl) HC.out (by omega) hHeld.size ?_
            intro A89 c89 v89 ho hb hk
            have HF := Lib.hid (hk _ _ HF.out HNE.out)
            have HS := Lib.hid ho
            have hN := hHeld.trans hb
            clear ho hb hk hHeld HC
            refine hK.out _ _ hN (fun hHeld => ?_)
            clear hK K hN
            (try simp only [Act.put, List.setIfInBounds_toArray, List.set_cons_zero, List.set_cons_succ])
            refine wpAnyH_ready (rs := [10]) (by kernel_rfl) (by simp) ?_
            refine AllReadyH.cons rfl (fun K hK => ?_) AllReadyH.nil
            refine step_call (some 52) rfl rfl _ _ _ (by rfl) _ (by rfl) _ (enters_of Tryd.func22 (by kernel_rfl) rfl) (HCL2.out _ _ _ hHeld HS.out) ?_
            rintro e v90 ⟨rfl, HI7, hk⟩
            refine ⟨_, rfl, ?_⟩
            have HF := Lib.hid (hk _ _ HF.out)
            have hN := HI7.out
            clear hk hHeld HS HI7
            refine hK.out _ _ hN (fun hHeld => ?_)
            clear hK K hN
            (try simp only [Act.put, List.setIfInBounds_toArray, List.set_cons_zero, List.set_cons_succ])
            refine wpAnyH_put 11 41 (v := ?_) rfl rfl (by kernel_rfl) (by kernel_rfl) (by kernel_rfl) (fun _ _ _ h => h) (Or.inl ⟨by rfl, ?_⟩) hHeld ?_
            rotate_left
            · intro W' _; go_simp; with_reducible rfl
            (try simp only [Act.put, List.setIfInBounds_toArray, List.set_cons_zero, List.set_cons_succ])
            refine wpAnyH_put 12 53 (v := ?_) rfl rfl (by kernel_rfl) (by kernel_rfl) (by kernel_rfl) (fun _ _ _ h => h) (Or.inl ⟨by rfl, ?_⟩) hHeld ?_
            rotate_left
            · intro W' _; go_simp; with_reducible rfl
            (try simp only [Act.put, List.setIfInBounds_toArray, List.set_cons_zero, List.set_cons_succ])
            refine wpAnyH_put 13 54 (v := ?_) rfl rfl (by kernel_rfl) (by kernel_rfl) (by kernel_rfl) (fun _ _ _ h => h) (Or.inl ⟨by rfl, ?_⟩) hHeld ?_
            rotate_left
            · intro W' _; go_simp; with_reducible rfl
            (try simp only [Act.put, List.setIfInBounds_toArray, List.set_cons_zero, List.set_cons_succ])
            refine wpAnyH_ready (rs := [15]) (by kernel_rfl) (by simp) ?_
            refine AllReadyH.cons rfl (fun K hK => ?_) AllReadyH.nil
            refine step_put (none) rfl rfl _ _ rfl gF zero32 zero32 (by rfl) (by rfl) HF.out zero32_len ?_
            have hN := below_setRow hHeld hgF (byts zero32)
            clear HF hHeld
            refine hK.out _ _ hN (fun hHeld => ?_)
            clear hK K hN
            (try simp only [Act.put])
            refine wpAnyH_put 16 12 (v := ?_) rfl rfl (by kernel_rfl) (by kernel_rfl) (by kernel_rfl) (fun _ _ _ h => h) (Or.inl ⟨by rfl, ?_⟩) hHeld ?_
            rotate_left
            · intro W' _; go_simp; with_reducible rfl
            (try simp only [Act.put, List.setIfInBounds_toArray, List.set_cons_zero, List.set_cons_succ])
            refine wpAnyH_done (by kernel_rfl) ?_ _
            simp only [OnlyN]
            go_wp2_with fail
            go_meet
            exact ⟨_, rfl, rfl, Lib.hid hHeld⟩
      case rest =>
        obtain ⟨v11, rfl, rfl, HV⟩ := hcut
        have HE : Hid (Below W.heap.size W wc) := Lib.hid (HZ.out.1.trans (HV.out.mono HZ.out.1.size))
        have HL9 := Lib.hid (dig_range (HZ.out.2.2.1.kept HV.out HZ.out.2.2.1.lt))
        have HL4 := Lib.hid (dig_range (HZ.out.2.2.2.2.2.kept HV.out HZ.out.2.2.2.2.2.lt))
        have HIN : Hid ((Tryd.prog.info? 26).map (·.size) = some (bytes t).length) := Lib.hid (by rw [bytes_len, HTL.out]; kernel_rfl)
        have hq : ∀ V, (Op.equalIn 10000 26 (.agg (bytes t).toArray) (.agg (bytes t).toArray)).run Tryd.prog V = .ok true V := fun V => run_eq_same t HTL.out V
        have heg : Tryd.prog.eqGuardType Tryd.prog.depth 26 = false := by kernel_rfl
        have hp5' : ¬ (5 : Int) < (p : Int) := by omega
        clear HZ HV HCS
        go_upto_region 11 with (fail)
        refine wp_region_list ?_
        iterate 7
          refine BigFrame.wpList_want (by rfl) (fun K hK => ?_)
          go_simp
          refine hK _ _ ?_
          clear hK K
        refine BigFrame.wpList_want (by rfl) (fun K hK => wp_load_mid 26 (.tmp 9) rfl g9 0 rfl (bytes t) _ HL9.out Tryd.underlying26 rfl HIN.out (hK _ _ ?_))
        refine BigFrame.wpList_want (by rfl) (fun K hK => wp_load_mid 26 (.tmp 4) rfl g 0 rfl (bytes t) _ HL4.out Tryd.underlying26 rfl HIN.out (hK _ _ ?_))
        go_simp
        go_wp2_with fail
        go_roundw
        case rel => exact ⟨i + 1, by omega, by go_num, HE⟩
        case measure => simp [intOf]; omega
    · obtain rfl : i = m := by omega
      go_wp2_with fail
      go_ret
      exact ⟨rfl, HW.out.1.trans (HR.out.mono HW.out.1.size)⟩

end Go.Proofs.YtaamifgneopocaaDoor
