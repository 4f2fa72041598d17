/- The law DigestTreeSpec: the walk. -/
import Derived.Test.YthamligdmfhmeaaDoorPathsBoth
import Derived.Test.YthamligdmfhmeaaDoorTops
import Derived.Test.YthamligdmfhmeaaDoorOf
import Derived.Test.YthamligdmfhmeaaDoorSane
import Derived.Test.YthamligdmfhmeaaDoorDigStep
import Derived.Deep.DeepCutAuto
namespace Go.Proofs.YthamligdmfhmeaaDoor
open Go.RowKit

theorem ind32' {d : List UInt8} (h : d.length = 32) : (Tryd.prog.info? 24).map (·.size) = some (bytes d).length := by rw [bytes_len, h]; kernel_rfl
def three (u v x : Value) (j : Nat) : Value := if j = 0 then u else if j = 1 then v else x
theorem step_lists {ops : Array Oper} {o : Oper} {a : Act} {K : Act → World → Prop} {Q : Exit → Act → World → Prop} {E : Prop} {w : World} (t : Option Tmp) (hdst : o.dst = t) (hgd : o.guard = none) (x y z : Operand)
    (ho : o.op = .buildSlice 34 3 #[(0, x), (1, y), (2, z)]) (u v s : Value) (hx : a.eval x = u) (hy : a.eval y = v) (hz : a.eval z = s)
    (hu : ∃ A p c, u = .slice A p c) (hv : ∃ A p c, v = .slice A p c) (hs : ∃ A p c, s = .slice A p c)
    (h : ∀ gL w', gL < w'.heap.size → (∀ j, j < 3 → w'.cell? ⟨gL, j, none⟩ = some (three u v s j)) → Below w.heap.size w w' → K (a.put t (.slice (some ⟨gL, 0, none⟩) 3 3)) w') :
    if Region.wanted o (yielded ops a.tmps) = true then Oper.wp Tryd.prog o a w K Q else E := by
  subst hdst
  have hw : Region.wanted o (yielded ops a.tmps) = true := by simp [Region.wanted, hgd]
  rw [if_pos hw]
  obtain ⟨A, p, c, rfl⟩ := hu
  obtain ⟨A', p', c', rfl⟩ := hv
  obtain ⟨AP, p2, cP, rfl⟩ := hs
  have hr : (Instr.buildSlice 34 3 #[(0, .slice A p c), (1, .slice A' p' c'), (2, .slice AP p2 cP)]).run Tryd.prog w = .ok (.slice (some ⟨w.heap.size, 0, none⟩) 3 3) (w.alloc (.cells #[.slice A p c, .slice A' p' c', .slice AP p2 cP] 26)) := by kernel_rfl
  unfold Oper.wp execOp
  simp only [ho, List.map_toArray, List.map_cons, List.map_nil, hx, hy, hz, hr, Sem.run_bind, Result.andThen_ok, Sem.run_pure]
  refine h _ _ (by simp) (fun j hj => ?_) (below_new _ _)
  rcases (show j = 0 ∨ j = 1 ∨ j = 2 by omega) with rfl | rfl | rfl <;> simp [World.cell?_alloc_new, three]
def two (u v : Int) (j : Nat) : Int := if j = 0 then u else v
theorem two_cells (w : World) (u v : Int) : ∀ j, j < 2 → (w.alloc (.cells #[.int .i64 u, .int .i64 v] 3)).cell? ⟨w.heap.size, j, none⟩ = some (.int .i64 (two u v j)) := by
  intro j hj
  rcases (show j = 0 ∨ j = 1 by omega) with rfl | rfl <;> simp [World.cell?_alloc_new, two]

set_option maxRecDepth 100000 in
set_option maxHeartbeats 8000000 in
theorem tree_walk (a : Option Addr) (n cap : Nat) (bs : List UInt8) (i0 n0 : Int) (d : List UInt8) (w : World) (hK : KT w) (hn : bs.length = n) (hc : n ≤ cap) (hb : BytesAt w a bs) (hd0 : d.length = 32) :
    Calls Tryd.prog 3 #[.slice a n cap, .int .i64 i0, .int .i64 n0, .agg (byts d)] w fun e w' => e = .returned (.bool true) ∧ Below w.heap.size w w' := by
  have HK := Lib.hid hK; have HB := Lib.hid hb; have HN := Lib.hid hn; have HD := Lib.hid hd0; have HCAP := Lib.hid hc
  clear hK hb hn hd0 hc
  have hb0 : Below w.heap.size w (w.alloc (.cells (byts d) 24)) := (Below.refl _ _).alloc (Nat.le_refl _) _
  have HS : Hid (Calls Tryd.prog 6 #[] (w.alloc (.cells (byts d) 24)) fun e w' => e = .returned (.bool true) ∧ Hid (Below w.heap.size w w' ∧ Dig w' w.heap.size d)) := Lib.hid (by
    refine (sane_any _ (HK.out.kept hb0 HK.out.pos)).mono ?_
    rintro e w' ⟨rfl, hb⟩
    exact ⟨rfl, Lib.hid ⟨hb0.trans (hb.mono (by simp)), (Dig.new w HD.out).kept hb (by simp)⟩⟩)
  clear hb0
  obtain ⟨g3, hg3⟩ : ∃ g3, w.heap.size = g3 := ⟨_, rfl⟩
  have HG3 := Lib.hid hg3
  clear hg3
  go_enter Tryd.func3, Tryd.ntmps3
  go_step
  go_step
  refine wp_region_list ?_
  refine wpl_box rfl 24 _ rfl (byts d) rfl ?_
  iterate 3 go_step
  refine wpList_nil ?_
  rename_i K1 hK1
  refine hK1 _ _ ?_
  clear hK1
  go_simp
  go_wp2_with fail
  refine HS.out.mono ?_
  rintro e w1 ⟨rfl, HW1⟩
  clear HS
  have HO : Hid (Calls Tryd.prog 7 #[.slice a n cap] w1 fun e w' => ∃ A m c ds, e = .returned (.slice A m c) ∧ m ≤ c ∧ m ≤ 24 ∧ Hid (ds.length = m ∧ DigsAt w' A ds ∧ Dig w' g3 d ∧ Below w.heap.size w w')) := Lib.hid (by
    refine (digestsOf_any a n cap bs w1 HN.out HCAP.out (HB.out.kept HW1.out.1)).mono ?_
    rintro e w' ⟨A, m, c, ds, rfl, hmc, h24, hm, hds, hb⟩
    exact ⟨A, m, c, ds, rfl, hmc, h24, Lib.hid ⟨hm, hds, by rw [← HG3.out]; exact HW1.out.2.kept hb HW1.out.2.lt, HW1.out.1.trans (hb.mono HW1.out.1.size)⟩⟩)
  rw [HG3.out]
  go_wp2_with fail
  refine HO.out.mono ?_
  rintro e W ⟨A, m, c, ds, rfl, hmc, h24, HDS⟩
  clear HO HW1 HB HN HCAP
  obtain ⟨tS, htS⟩ : ∃ t, H.tree ds = t := ⟨_, rfl⟩
  have hlS : tS.length = 32 := by rw [← htS]; exact H.tree_len _
  have HTS := Lib.hid htS
  have hqS : ∀ W, (Op.equalIn 10000 24 (.agg (byts tS)) (.agg (byts tS))).run Tryd.prog W = .ok true W := run_eq_same tS hlS
  have heg : Tryd.prog.eqGuardType Tryd.prog.depth 24 = false := by kernel_rfl
  have HKT : Hid (∀ V, Below W.heap.size W V → KT V) := Lib.hid (fun V hV => HK.out.kept (HDS.out.2.2.2.trans (hV.mono HDS.out.2.2.2.size)) HK.out.pos)
  have HT1 : Hid (Calls Tryd.prog 8 #[.slice A m c] W fun e w' => e = .returned (.agg (byts tS)) ∧ Hid (Below W.heap.size W w')) := Lib.hid (by
    refine (tree_all m A m c ds W (Nat.le_refl _) (HKT.out W (Below.refl _ _)) HDS.out.1 hmc (by omega) HDS.out.2.1).mono ?_
    rintro e w' ⟨rfl, hb⟩
    exact ⟨by rw [HTS.out], Lib.hid hb⟩)
  have HT2 : Hid (∀ V, Below W.heap.size W V → Calls Tryd.prog 9 #[.slice A m c] V fun e w' => e = .returned (.agg (byts tS)) ∧ Hid (Below W.heap.size W w')) := Lib.hid (fun V hV => by
    refine (rtree_all m A m c ds V (Nat.le_refl _) (HKT.out V hV) HDS.out.1 hmc (by omega) (HDS.out.2.1.kept hV)).mono ?_
    rintro e w' ⟨rfl, hb⟩
    exact ⟨by rw [HTS.out], Lib.hid (hV.trans (hb.mono hV.size))⟩)
  clear htS hlS
  go_wp2_with fail
  refine HT1.out.mono ?_
  rintro e w2 ⟨rfl, HW2⟩
  go_wp2_with fail
  refine (HT2.out _ HW2.out).mono ?_
  rintro e w3 ⟨rfl, HW3⟩
  obtain ⟨z, hz⟩ : ∃ z, bits .and .i64 i0 15 = z := ⟨_, rfl⟩
  clear HT1 HT2 HW2 HTS
  go_wp2_with fail
  have HWB : Hid (Below W.heap.size W (w3.alloc (.cells #[.int .i64 i0, .int .i64 z] 3)) ∧ w3.heap.size < (w3.alloc (.cells #[.int .i64 i0, .int .i64 z] 3)).heap.size ∧ ∀ j, j < 2 → (w3.alloc (.cells #[.int .i64 i0, .int .i64 z] 3)).cell? ⟨w3.heap.size, j, none⟩ = some (.int .i64 (two i0 z j))) := Lib.hid
    ⟨HW3.out.alloc HW3.out.size _, by simp, two_cells w3 i0 z⟩
  clear HW3 hz hqS
  generalize w3.alloc (.cells #[.int .i64 i0, .int .i64 z] 3) = Wb at HWB ⊢
  generalize w3.heap.size = g at HWB ⊢
  go_loopw [38] (fun jj wr => ∃ j : Nat, j ≤ 2 ∧ jj = .int .i64 j ∧ Hid (Below Wb.heap.size Wb wr)) (fun jj _ => 2 - (intOf jj).toNat)
  case atStart => exact ⟨0, Nat.zero_le _, rfl, Lib.hid (Below.refl _ _)⟩
  case round =>
    obtain ⟨j, hj, rfl, HR⟩ := hrel
    by_cases hlt : j < 2
    · have hcx := (HR.out.cell (p := ⟨g, j, none⟩) HWB.out.2.1).trans (HWB.out.2.2 j hlt)
      obtain ⟨x, hx⟩ : ∃ x, two i0 z j = x := ⟨_, rfl⟩
      rw [hx] at hcx
      clear hx
      have HUP : Hid (∀ V, Below Wb.heap.size Wb V → Below W.heap.size W V) := Lib.hid (fun V hV => HWB.out.1.trans (hV.mono HWB.out.1.size))
      obtain ⟨ss, er, hps⟩ := paths_any ds m c A x HDS.out.1 hmc h24
      have HP : Hid (∀ V, Below Wb.heap.size Wb V → Calls Tryd.prog 10 #[.slice A m c, .int .i64 x] V (PathRes ss er V) ∧ Calls Tryd.prog 11 #[.slice A m c, .int .i64 x] V (PathRes ss er V)) :=
        Lib.hid (fun V hV => hps V (HKT.out V (HUP.out V hV)) (HDS.out.2.1.kept (HUP.out V hV)))
      clear hps
      have hee : (er == er) = true := by simp
      have hne : (er != er) = false := by simp
      go_upto_region 9 with (fail)
      clear hcx
      go_wp2_with fail
      refine (HP.out _ HR.out).1.mono ?_
      rintro e w4 ⟨A1, p1, c1, rfl, hpc1, hp1, HX1⟩
      have HW4 := Lib.hid (HR.out.trans (HX1.out.2.2.mono HR.out.size))
      go_wp2_with fail
      refine (HP.out _ HW4.out).2.mono ?_
      rintro e w5 ⟨AP, p2, cP, rfl, hpc2, hp2, HX2⟩
      have hpp : p1 = p2 := HX1.out.1.symm.trans HX2.out.1
      subst hpp
      have HW5 := Lib.hid (HW4.out.trans (HX2.out.2.2.mono HW4.out.size))
      have HSAME : Hid (Calls Tryd.prog 12 #[.slice A1 p1 c1, .slice AP p1 cP] w5 fun e w' => e = .returned (.bool true) ∧ Hid (Below w5.heap.size w5 w')) := Lib.hid (by
        refine (rsame_same A1 AP p1 c1 cP ss w5 HX1.out.1 (by omega) (HX1.out.2.1.kept HX2.out.2.2) HX2.out.2.1).mono ?_
        rintro e w' ⟨rfl, hb⟩
        exact ⟨rfl, Lib.hid hb⟩)
      go_wp2_with fail
      refine HSAME.out.mono ?_
      rintro e w6 ⟨rfl, HY6⟩
      have HW6 : Hid (Below Wb.heap.size Wb w6 ∧ ss.length = p1 ∧ DigsAt w6 AP ss) := Lib.hid ⟨HW5.out.trans (HY6.out.mono HW5.out.size), HX2.out.1, HX2.out.2.1.kept HY6.out⟩
      clear HSAME HY6 HW5 HW4 HX1 HX2 HP
      go_wp2_with fail
      have HWC : Hid (Below Wb.heap.size Wb (w6.alloc (.cells #[.int .i64 n0, .int .i64 (m : Int)] 3)) ∧ w6.heap.size < (w6.alloc (.cells #[.int .i64 n0, .int .i64 (m : Int)] 3)).heap.size ∧ (∀ j, j < 2 → (w6.alloc (.cells #[.int .i64 n0, .int .i64 (m : Int)] 3)).cell? ⟨w6.heap.size, j, none⟩ = some (.int .i64 (two n0 m j))) ∧ DigsAt (w6.alloc (.cells #[.int .i64 n0, .int .i64 (m : Int)] 3)) AP ss) := Lib.hid
        ⟨HW6.out.1.alloc HW6.out.1.size _, by simp, two_cells w6 n0 m, HW6.out.2.2.kept (below_new _ _)⟩
      have HSP := Lib.hid HW6.out.2.1
      clear HW6 hee hne
      generalize w6.alloc (.cells #[.int .i64 n0, .int .i64 (m : Int)] 3) = Wc at HWC ⊢
      generalize w6.heap.size = gn at HWC ⊢
      go_loopw [68] (fun jj wr => ∃ k : Nat, k ≤ 2 ∧ jj = .int .i64 k ∧ Hid (Below Wc.heap.size Wc wr)) (fun jj _ => 2 - (intOf jj).toNat)
      case atStart => exact ⟨0, Nat.zero_le _, rfl, Lib.hid (Below.refl _ _)⟩
      case round =>
        obtain ⟨k, hk, rfl, HQ⟩ := hrel
        by_cases hlk : k < 2
        · have hcy := (HQ.out.cell (p := ⟨gn, k, none⟩) HWC.out.2.1).trans (HWC.out.2.2.1 k hlk)
          obtain ⟨y, hy⟩ : ∃ y, two n0 m k = y := ⟨_, rfl⟩
          rw [hy] at hcy
          clear hy
          go_upto_region 16 with (fail)
          clear hcy
          have HUC : Hid (∀ V, Below wr.heap.size wr V → Below W.heap.size W V) := Lib.hid (fun V hV => HUP.out V (HWC.out.1.trans ((HQ.out.trans (hV.mono HQ.out.size)).mono HWC.out.1.size)))
          have HSSW : Hid (∀ V, Below wr.heap.size wr V → DigsAt V AP ss) := Lib.hid (fun V hV => HWC.out.2.2.2.kept (HQ.out.trans (hV.mono HQ.out.size)))
          have HDX : Hid (∀ V, Below wr.heap.size wr V → Dig V g3 d) := Lib.hid (fun V hV => HDS.out.2.2.1.kept (HUC.out V hV) HDS.out.2.2.1.lt)
          obtain ⟨hf, hhf0⟩ : ∃ hf, p1 / 2 = hf := ⟨_, rfl⟩
          have hhf : hf ≤ p1 := by omega
          have hquo : (p1 : Int).tdiv 2 = (hf : Int) := by rw [Int.tdiv_eq_ediv_of_nonneg (by omega)]; omega
          have hwq : IntKind.i64.wrap (hf : Int) = (hf : Int) := by rw [IntKind.wrap_i64]; omega
          clear hhf0
          go_cut [84, 85, 86] (fun a84 a85 a86 wx => ∃ (gL : Nat) (A6 : Option Addr) (c6 : Nat), a84 = .slice (some ⟨gL, 0, none⟩) 3 3 ∧ a85 = .int .i64 3 ∧ a86 = .int .i64 0 ∧ p1 + 1 ≤ c6 ∧ Hid (Below wr.heap.size wr wx ∧ gL < wx.heap.size ∧ (∀ j, j < 3 → wx.cell? ⟨gL, j, none⟩ = some (three (.slice AP p1 cP) (.slice A6 (p1 + 1) c6) (.slice AP hf cP) j)) ∧ DigsAt wx A6 (ss ++ [d])))
          case first =>
            have hdl := HD.out
            have HDL := HD
            have hind : (Tryd.prog.info? 24).map (·.size) = some (bytes d).length := ind32' hdl
            have HP := HSP
            have HS32 : Hid (∀ e ∈ ss, e.length = 32) := Lib.hid HWC.out.2.2.2.1
            have hsd6 : ∀ e ∈ ss ++ [d], e.length = 32 := fun e he => by
              rcases List.mem_append.1 he with he | he
              · exact HS32.out e he
              · rw [List.mem_singleton.1 he]; exact hdl
            refine wp_region_held_drew (S := fun V => Below wr.heap.size wr V) (by kernel_rfl) (Below.refl _ _).drew (fun hHeld => ?_)
-- region 16
            refine wpAnyH_put 0 72 (v := ?_) rfl rfl (by kernel_rfl) (by kernel_rfl) (by kernel_rfl) (fun _ _ _ h => h) (Or.inl ⟨by rfl, ?_⟩) hHeld ?_
            rotate_left
            · intro W' _; go_simp; with_reducible rfl
            (try simp only [Act.put, List.setIfInBounds_toArray, List.set_cons_zero, List.set_cons_succ])
            refine wpAnyH_put 2 74 (v := ?_) rfl rfl (by kernel_rfl) (by kernel_rfl) (by kernel_rfl) (fun _ _ _ h => h) (Or.inl ⟨by rfl, ?_⟩) hHeld ?_
            rotate_left
            · intro W' _; go_simp; with_reducible rfl
            (try simp only [Act.put, List.setIfInBounds_toArray, List.set_cons_zero, List.set_cons_succ])
            refine wpAnyH_put 4 76 rfl rfl (by kernel_rfl) (by kernel_rfl) (by kernel_rfl) (fun _ _ _ h => h) (yieldsIf_load_mid (by rfl) 24 (.tmp 7) rfl g3 0 (by rfl) (bytes d) _ (fun V hV => dig_range (HDX.out V hV)) Tryd.underlying24 rfl hind) hHeld ?_
            (try simp only [Act.put, List.setIfInBounds_toArray, List.set_cons_zero, List.set_cons_succ])
            refine wpAnyH_put 7 79 (v := ?_) rfl rfl (by kernel_rfl) (by kernel_rfl) (by kernel_rfl) (fun _ _ _ h => h) (Or.inl ⟨by rfl, ?_⟩) hHeld ?_
            rotate_left
            · intro W' _; go_simp; with_reducible rfl
            (try simp only [Act.put, List.setIfInBounds_toArray, List.set_cons_zero, List.set_cons_succ])
            refine wpAnyH_put 8 80 (v := ?_) rfl rfl (by kernel_rfl) (by kernel_rfl) (by kernel_rfl) (fun _ _ _ h => h) (Or.inl ⟨by rfl, ?_⟩) hHeld ?_
            rotate_left
            · intro W' _; go_simp; with_reducible rfl
            (try simp only [Act.put, List.setIfInBounds_toArray, List.set_cons_zero, List.set_cons_succ])
            refine wpAnyH_put 9 81 (v := ?_) rfl rfl (by kernel_rfl) (by kernel_rfl) (by kernel_rfl) (fun _ _ _ h => h) (Or.inl ⟨by rfl, ?_⟩) hHeld ?_
            rotate_left
            · intro W' _; go_simp; with_reducible rfl
            (try simp only [Act.put, List.setIfInBounds_toArray, List.set_cons_zero, List.set_cons_succ])
            refine wpAnyH_put 10 82 (v := .int .i64 (hf : Int)) rfl rfl (by kernel_rfl) (by kernel_rfl) (by kernel_rfl) (fun _ _ _ h => h) (Or.inl ⟨by rfl, ?_⟩) hHeld ?_
            · intro W' _
              first
                | (go_simp; with_reducible rfl)
                | (simp [Act.eval, hquo, hwq, go_sem]; done)
            (try simp only [Act.put, List.setIfInBounds_toArray, List.set_cons_zero, List.set_cons_succ])
            refine wpAnyH_put 11 83 (v := ?_) rfl rfl (by kernel_rfl) (by kernel_rfl) (by kernel_rfl) (fun _ _ _ h => h) (Or.inl ⟨by rfl, ?_⟩) hHeld ?_
            rotate_left
            · intro W' _
              have h := digs_head AP p1 cP hf hhf hpc2 W'
              first
                | (go_simp; with_reducible rfl)
                | (simp [Act.eval, h, go_sem]; with_reducible rfl)
                | (simp [Act.eval, hquo, hwq, go_sem]; done)
            (try simp only [Act.put, List.setIfInBounds_toArray, List.set_cons_zero, List.set_cons_succ])
            refine wpAnyH_put 14 86 (v := ?_) rfl rfl (by kernel_rfl) (by kernel_rfl) (by kernel_rfl) (fun _ _ _ h => h) (Or.inl ⟨by rfl, ?_⟩) hHeld ?_
            rotate_left
            · intro W' _; go_simp; with_reducible rfl
            (try simp only [Act.put, List.setIfInBounds_toArray, List.set_cons_zero, List.set_cons_succ])
            refine wpAnyH_ready (rs := [1, 5]) (by kernel_rfl) (by simp) ?_
            refine AllReadyH.cons rfl (fun K hK => ?_) (AllReadyH.cons rfl (fun K hK => ?_) AllReadyH.nil)
            · -- operation 1
              refine step_empty (some 73) rfl rfl (by rfl) ?_
              intro gA v1 hg hb hx
              have hgA : wr.heap.size ≤ gA := Nat.le_trans hHeld.size hg
              have HA := Lib.hid hx
              have hN := hHeld.trans (hb.mono hHeld.size)
              clear hg hb hx hHeld
              refine hK.out _ _ hN (fun hHeld => ?_)
              clear hK K hN
              (try simp only [Act.put, List.setIfInBounds_toArray, List.set_cons_zero, List.set_cons_succ])
              refine wpAnyH_ready (rs := [3, 5]) (by kernel_rfl) (by simp) ?_
              refine AllReadyH.cons rfl (fun K hK => ?_) (AllReadyH.cons rfl (fun K hK => ?_) AllReadyH.nil)
              · -- operation 3
                refine step_first (some 75) rfl rfl _ _ (by rfl) (wr.heap.size) gA (by rfl) HA.out hgA AP p1 cP ss (by rfl) HP.out (HSSW.out _ hHeld) (by omega) hHeld.size ?_
                intro A2 c2 v2 ho hb hk
                have HS := Lib.hid ho
                have hN := hHeld.trans hb
                clear ho hb hk hHeld HA
                refine hK.out _ _ hN (fun hHeld => ?_)
                clear hK K hN
                (try simp only [Act.put, List.setIfInBounds_toArray, List.set_cons_zero, List.set_cons_succ])
                refine wpAnyH_ready (rs := [5]) (by kernel_rfl) (by simp) ?_
                refine AllReadyH.cons rfl (fun K hK => ?_) AllReadyH.nil
                refine step_single (some 77) rfl rfl _ (by rfl) d HDL.out (by rfl) ?_
                intro gC v3 hg hb hx
                have hgC : wr.heap.size ≤ gC := Nat.le_trans hHeld.size hg
                have HS := Lib.hid (owns_kept HS.out hb)
                have HC := Lib.hid hx
                have hN := hHeld.trans (hb.mono hHeld.size)
                clear hg hb hx hHeld
                refine hK.out _ _ hN (fun hHeld => ?_)
                clear hK K hN
                (try simp only [Act.put, List.setIfInBounds_toArray, List.set_cons_zero, List.set_cons_succ])
                refine wpAnyH_ready (rs := [6]) (by kernel_rfl) (by simp) ?_
                refine AllReadyH.cons rfl (fun K hK => ?_) AllReadyH.nil
                refine step_more (some 78) rfl rfl _ _ (by rfl) (wr.heap.size) A2 p1 c2 ss (by rfl) HS.out HS32.out gC d (by rfl) HC.out (by omega) hHeld.size ?_
                intro A4 c4 v4 ho hb hk
                have HS := Lib.hid ho
                have hN := hHeld.trans hb
                clear ho hb hk hHeld HC
                refine hK.out _ _ hN (fun hHeld => ?_)
                clear hK K hN
                (try simp only [Act.put, List.setIfInBounds_toArray, List.set_cons_zero, List.set_cons_succ])
                refine wpAnyH_ready (rs := [12]) (by kernel_rfl) (by simp) ?_
                refine AllReadyH.cons rfl (fun K hK => ?_) AllReadyH.nil
                refine step_lists (some 84) rfl rfl _ _ _ rfl (.slice AP p1 cP) (.slice A4 (p1 + 1) c4) (.slice AP hf cP) (by rfl) (by rfl) (by rfl) ⟨_, _, _, rfl⟩ ⟨_, _, _, rfl⟩ ⟨_, _, _, rfl⟩ ?_
                intro gL w12 hgL hcl hb
                obtain ⟨a6, c6, he6, hle6, hda6⟩ := owns_digs HS.out hsd6
                cases he6
                have HS12 : Hid (gL < w12.heap.size ∧ (∀ j, j < 3 → w12.cell? ⟨gL, j, none⟩ = some (three (.slice AP p1 cP) (.slice A4 (p1 + 1) c4) (.slice AP hf cP) j)) ∧ DigsAt w12 A4 (ss ++ [d])) := Lib.hid ⟨hgL, hcl, hda6.kept hb⟩
                have hN := hHeld.trans (hb.mono hHeld.size)
                clear hgL hcl hb hda6 HS hHeld
                refine hK.out _ _ hN (fun hHeld => ?_)
                clear hK K hN
                (try simp only [Act.put, List.setIfInBounds_toArray, List.set_cons_zero, List.set_cons_succ])
                refine wpAnyH_put 13 85 (v := ?_) rfl rfl (by kernel_rfl) (by kernel_rfl) (by kernel_rfl) (fun _ _ _ h => h) (Or.inl ⟨by rfl, ?_⟩) hHeld ?_
                rotate_left
                · intro W' _; go_simp; with_reducible rfl
                (try simp only [Act.put, List.setIfInBounds_toArray, List.set_cons_zero, List.set_cons_succ])
                refine wpAnyH_done (by kernel_rfl) ?_ _
                have HZ := Lib.hid (And.intro hHeld HS12)
                clear hHeld HS12
                go_wp2_with fail
                go_meet
                case rel => exact ⟨_, _, _, rfl, rfl, rfl, hle6, Lib.hid ⟨HZ.out.1, HZ.out.2.out⟩⟩
              · -- operation 5
                refine step_single (some 77) rfl rfl _ (by rfl) d HDL.out (by rfl) ?_
                intro gC v6 hg hb hx
                have hgC : wr.heap.size ≤ gC := Nat.le_trans hHeld.size hg
                have HA := Lib.hid ((hb.block _ (Array.getElem?_eq_some_iff.1 HA.out).1).trans HA.out)
                have HC := Lib.hid hx
                have hN := hHeld.trans (hb.mono hHeld.size)
                clear hg hb hx hHeld
                refine hK.out _ _ hN (fun hHeld => ?_)
                clear hK K hN
                (try simp only [Act.put, List.setIfInBounds_toArray, List.set_cons_zero, List.set_cons_succ])
                refine wpAnyH_ready (rs := [3]) (by kernel_rfl) (by simp) ?_
                refine AllReadyH.cons rfl (fun K hK => ?_) AllReadyH.nil
                refine step_first (some 75) rfl rfl _ _ (by rfl) (wr.heap.size) gA (by rfl) HA.out hgA AP p1 cP ss (by rfl) HP.out (HSSW.out _ hHeld) (by omega) hHeld.size ?_
                intro A7 c7 v7 ho hb hk
                have HC := Lib.hid (hk _ _ HC.out).1
                have HS := Lib.hid ho
                have hN := hHeld.trans hb
                clear ho hb hk hHeld HA
                refine hK.out _ _ hN (fun hHeld => ?_)
                clear hK K hN
                (try simp only [Act.put, List.setIfInBounds_toArray, List.set_cons_zero, List.set_cons_succ])
                refine wpAnyH_ready (rs := [6]) (by kernel_rfl) (by simp) ?_
                refine AllReadyH.cons rfl (fun K hK => ?_) AllReadyH.nil
                refine step_more (some 78) rfl rfl _ _ (by rfl) (wr.heap.size) A7 p1 c7 ss (by rfl) HS.out HS32.out gC d (by rfl) HC.out (by omega) hHeld.size ?_
                intro A8 c8 v8 ho hb hk
                have HS := Lib.hid ho
                have hN := hHeld.trans hb
                clear ho hb hk hHeld HC
                refine hK.out _ _ hN (fun hHeld => ?_)
                clear hK K hN
                (try simp only [Act.put, List.setIfInBounds_toArray, List.set_cons_zero, List.set_cons_succ])
                refine wpAnyH_ready (rs := [12]) (by kernel_rfl) (by simp) ?_
                refine AllReadyH.cons rfl (fun K hK => ?_) AllReadyH.nil
                refine step_lists (some 84) rfl rfl _ _ _ rfl (.slice AP p1 cP) (.slice A8 (p1 + 1) c8) (.slice AP hf cP) (by rfl) (by rfl) (by rfl) ⟨_, _, _, rfl⟩ ⟨_, _, _, rfl⟩ ⟨_, _, _, rfl⟩ ?_
                intro gL w12 hgL hcl hb
                obtain ⟨a6, c6, he6, hle6, hda6⟩ := owns_digs HS.out hsd6
                cases he6
                have HS12 : Hid (gL < w12.heap.size ∧ (∀ j, j < 3 → w12.cell? ⟨gL, j, none⟩ = some (three (.slice AP p1 cP) (.slice A8 (p1 + 1) c8) (.slice AP hf cP) j)) ∧ DigsAt w12 A8 (ss ++ [d])) := Lib.hid ⟨hgL, hcl, hda6.kept hb⟩
                have hN := hHeld.trans (hb.mono hHeld.size)
                clear hgL hcl hb hda6 HS hHeld
                refine hK.out _ _ hN (fun hHeld => ?_)
                clear hK K hN
                (try simp only [Act.put, List.setIfInBounds_toArray, List.set_cons_zero, List.set_cons_succ])
                refine wpAnyH_put 13 85 (v := ?_) rfl rfl (by kernel_rfl) (by kernel_rfl) (by kernel_rfl) (fun _ _ _ h => h) (Or.inl ⟨by rfl, ?_⟩) hHeld ?_
                rotate_left
                · intro W' _; go_simp; with_reducible rfl
                (try simp only [Act.put, List.setIfInBounds_toArray, List.set_cons_zero, List.set_cons_succ])
                refine wpAnyH_done (by kernel_rfl) ?_ _
                have HZ := Lib.hid (And.intro hHeld HS12)
                clear hHeld HS12
                go_wp2_with fail
                go_meet
                case rel => exact ⟨_, _, _, rfl, rfl, rfl, hle6, Lib.hid ⟨HZ.out.1, HZ.out.2.out⟩⟩
            · -- operation 5
              refine step_single (some 77) rfl rfl _ (by rfl) d HDL.out (by rfl) ?_
              intro gC v10 hg hb hx
              have hgC : wr.heap.size ≤ gC := Nat.le_trans hHeld.size hg
              have HC := Lib.hid hx
              have hN := hHeld.trans (hb.mono hHeld.size)
              clear hg hb hx hHeld
              refine hK.out _ _ hN (fun hHeld => ?_)
              clear hK K hN
              (try simp only [Act.put, List.setIfInBounds_toArray, List.set_cons_zero, List.set_cons_succ])
              refine wpAnyH_ready (rs := [1]) (by kernel_rfl) (by simp) ?_
              refine AllReadyH.cons rfl (fun K hK => ?_) AllReadyH.nil
              refine step_empty (some 73) rfl rfl (by rfl) ?_
              intro gA v11 hg hb hx
              have hgA : wr.heap.size ≤ gA := Nat.le_trans hHeld.size hg
              have HC := Lib.hid (HC.out.kept hb HC.out.lt)
              have HA := Lib.hid hx
              have hN := hHeld.trans (hb.mono hHeld.size)
              clear hg hb hx hHeld
              refine hK.out _ _ hN (fun hHeld => ?_)
              clear hK K hN
              (try simp only [Act.put, List.setIfInBounds_toArray, List.set_cons_zero, List.set_cons_succ])
              refine wpAnyH_ready (rs := [3]) (by kernel_rfl) (by simp) ?_
              refine AllReadyH.cons rfl (fun K hK => ?_) AllReadyH.nil
              refine step_first (some 75) rfl rfl _ _ (by rfl) (wr.heap.size) gA (by rfl) HA.out hgA AP p1 cP ss (by rfl) HP.out (HSSW.out _ hHeld) (by omega) hHeld.size ?_
              intro A12 c12 v12 ho hb hk
              have HC := Lib.hid (hk _ _ HC.out).1
              have HS := Lib.hid ho
              have hN := hHeld.trans hb
              clear ho hb hk hHeld HA
              refine hK.out _ _ hN (fun hHeld => ?_)
              clear hK K hN
              (try simp only [Act.put, List.setIfInBounds_toArray, List.set_cons_zero, List.set_cons_succ])
              refine wpAnyH_ready (rs := [6]) (by kernel_rfl) (by simp) ?_
              refine AllReadyH.cons rfl (fun K hK => ?_) AllReadyH.nil
              refine step_more (some 78) rfl rfl _ _ (by rfl) (wr.heap.size) A12 p1 c12 ss (by rfl) HS.out HS32.out gC d (by rfl) HC.out (by omega) hHeld.size ?_
              intro A13 c13 v13 ho hb hk
              have HS := Lib.hid ho
              have hN := hHeld.trans hb
              clear ho hb hk hHeld HC
              refine hK.out _ _ hN (fun hHeld => ?_)
              clear hK K hN
              (try simp only [Act.put, List.setIfInBounds_toArray, List.set_cons_zero, List.set_cons_succ])
              refine wpAnyH_ready (rs := [12]) (by kernel_rfl) (by simp) ?_
              refine AllReadyH.cons rfl (fun K hK => ?_) AllReadyH.nil
              refine step_lists (some 84) rfl rfl _ _ _ rfl (.slice AP p1 cP) (.slice A13 (p1 + 1) c13) (.slice AP hf cP) (by rfl) (by rfl) (by rfl) ⟨_, _, _, rfl⟩ ⟨_, _, _, rfl⟩ ⟨_, _, _, rfl⟩ ?_
              intro gL w12 hgL hcl hb
              obtain ⟨a6, c6, he6, hle6, hda6⟩ := owns_digs HS.out hsd6
              cases he6
              have HS12 : Hid (gL < w12.heap.size ∧ (∀ j, j < 3 → w12.cell? ⟨gL, j, none⟩ = some (three (.slice AP p1 cP) (.slice A13 (p1 + 1) c13) (.slice AP hf cP) j)) ∧ DigsAt w12 A13 (ss ++ [d])) := Lib.hid ⟨hgL, hcl, hda6.kept hb⟩
              have hN := hHeld.trans (hb.mono hHeld.size)
              clear hgL hcl hb hda6 HS hHeld
              refine hK.out _ _ hN (fun hHeld => ?_)
              clear hK K hN
              (try simp only [Act.put, List.setIfInBounds_toArray, List.set_cons_zero, List.set_cons_succ])
              refine wpAnyH_put 13 85 (v := ?_) rfl rfl (by kernel_rfl) (by kernel_rfl) (by kernel_rfl) (fun _ _ _ h => h) (Or.inl ⟨by rfl, ?_⟩) hHeld ?_
              rotate_left
              · intro W' _; go_simp; with_reducible rfl
              (try simp only [Act.put, List.setIfInBounds_toArray, List.set_cons_zero, List.set_cons_succ])
              refine wpAnyH_done (by kernel_rfl) ?_ _
              have HZ := Lib.hid (And.intro hHeld HS12)
              clear hHeld HS12
              go_wp2_with fail
              go_meet
              case rel => exact ⟨_, _, _, rfl, rfl, rfl, hle6, Lib.hid ⟨HZ.out.1, HZ.out.2.out⟩⟩
            -- end 16
          case rest =>
            rename World => wl
            obtain ⟨gL, A6, c6, rfl, rfl, rfl, hc6, HL⟩ := hcut
            have HLB : Hid (∀ V, Below wl.heap.size wl V → Below wr.heap.size wr V) := Lib.hid (fun V hV => HL.out.1.trans (hV.mono HL.out.1.size))
            have HLS : Hid (∀ q, q < 3 → ∃ (A' : Option Addr) (p' c' : Nat) (es : List (List UInt8)), three (.slice AP p1 cP) (.slice A6 (p1 + 1) c6) (.slice AP hf cP) q = .slice A' p' c' ∧ es.length = p' ∧ p' ≤ c' ∧ p' ≤ 1099511627776 ∧ ∀ V, Below wl.heap.size wl V → DigsAt V A' es) := Lib.hid (fun q hq => by
              rcases (show q = 0 ∨ q = 1 ∨ q = 2 by omega) with rfl | rfl | rfl
              · exact ⟨AP, p1, cP, ss, rfl, HSP.out, hpc2, by omega, fun V hV => HSSW.out V (HLB.out V hV)⟩
              · exact ⟨A6, p1 + 1, c6, ss ++ [d], rfl, by rw [List.length_append, HSP.out]; rfl, hc6, by omega, fun V hV => HL.out.2.2.2.kept hV⟩
              · exact ⟨AP, hf, cP, ss.take hf, rfl, by rw [List.length_take, HSP.out]; omega, by omega, by omega, fun V hV => (HSSW.out V (HLB.out V hV)).take hf⟩)
            go_wp2_with fail
            go_loopw [86] (fun jj wr => ∃ q : Nat, q ≤ 3 ∧ jj = .int .i64 q ∧ Hid (Below wl.heap.size wl wr)) (fun jj _ => 3 - (intOf jj).toNat)
            case atStart => exact ⟨0, Nat.zero_le _, rfl, Lib.hid (Below.refl _ _)⟩
            case round =>
              obtain ⟨q, hq, rfl, HV⟩ := hrel
              by_cases hlq : q < 3
              · have hcz := (HV.out.cell (p := ⟨gL, q, none⟩) HL.out.2.1).trans (HL.out.2.2.1 q hlq)
                obtain ⟨A', p', c', es, he, hel, hpc', hpl', hds'⟩ := HLS.out q hlq
                rw [he] at hcz
                obtain ⟨rt, er2, hrt, hT⟩ := tops_any d x y p' c' A' es HD.out hel hpc' hpl'
                have HT : Hid (∀ V, Below wl.heap.size wl V → Calls Tryd.prog 13 #[.agg (byts d), .int .i64 x, .int .i64 y, .slice A' p' c'] V (fun e w' => e = .returned (.tuple #[.agg (byts rt), .int .i64 er2]) ∧ Below V.heap.size V w') ∧
                    Calls Tryd.prog 14 #[.agg (byts d), .int .i64 x, .int .i64 y, .slice A' p' c'] V (fun e w' => e = .returned (.tuple #[.agg (byts rt), .int .i64 er2]) ∧ Below V.heap.size V w')) := Lib.hid (fun V hV => hT V (HKT.out V (HUC.out V (HLB.out V hV))) (hds' V hV))
                have HRT := Lib.hid hrt
                have HD3 : Hid (∀ V, Below wl.heap.size wl V → Dig V g3 d) := Lib.hid (fun V hV => HDX.out V (HLB.out V hV))
                have hqR : ∀ W, (Op.equalIn 10000 24 (.agg (byts rt)) (.agg (byts rt))).run Tryd.prog W = .ok true W := run_eq_same rt hrt
                clear he hel hpl' hds' hT hrt
                have hee2 : (er2 == er2) = true := by simp
                have hne2 : (er2 != er2) = false := by simp
                go_upto_region 19 with (fail)
                clear hcz
                refine wp_region_list ?_
                refine wpl_get rfl _ rfl g3 d rfl (HD3.out _ HV.out) ?_
                have HC19 := Lib.hid (HT.out _ HV.out).1
                go_simp
                go_wp2_with fail
                refine HC19.out.mono ?_
                rintro e w5 ⟨rfl, hb19⟩
                rename_i K9 hK9
                refine hK9 _ _ ?_
                clear hK9 HC19
                iterate 9 go_step
                refine wpl_cell rfl rfl ?_
                refine wpl_put rfl _ _ rfl w5.heap.size zero32 rt rfl rfl (Dig.new w5 zero32_len) HRT.out ?_
                go_step
                go_step
                go_step
                refine wpList_nil ?_
                have HZ1 : Hid (Below wl.heap.size wl ((w5.alloc (.cells (byts zero32) 24)).setRow w5.heap.size (byts rt)) ∧ Dig ((w5.alloc (.cells (byts zero32) 24)).setRow w5.heap.size (byts rt)) w5.heap.size rt) := Lib.hid (by
                  have h5 := HV.out.trans (hb19.mono HV.out.size)
                  exact ⟨below_setRow (h5.alloc h5.size _) h5.size _, (Dig.new w5 zero32_len).set HRT.out⟩)
                clear hb19 HV
                go_simp
                generalize (w5.alloc (.cells (byts zero32) 24)).setRow w5.heap.size (byts rt) = W7 at HZ1 ⊢
                generalize w5.heap.size = g20 at HZ1 ⊢
                go_upto_region 20 with (fail)
                refine wp_region_list ?_
                refine wpl_get rfl _ rfl g3 d rfl (HD3.out _ HZ1.out.1) ?_
                have HC20 := Lib.hid (HT.out _ HZ1.out.1).2
                go_simp
                go_wp2_with fail
                refine HC20.out.mono ?_
                rintro e w6 ⟨rfl, hb20⟩
                rename_i K9 hK9
                refine hK9 _ _ ?_
                clear hK9 HC20
                iterate 9 go_step
                refine wpl_cell rfl rfl ?_
                refine wpl_put rfl _ _ rfl w6.heap.size zero32 rt rfl rfl (Dig.new w6 zero32_len) HRT.out ?_
                go_step
                go_step
                go_step
                refine wpList_nil ?_
                have HZ2 : Hid (Below wl.heap.size wl ((w6.alloc (.cells (byts zero32) 24)).setRow w6.heap.size (byts rt)) ∧ Dig ((w6.alloc (.cells (byts zero32) 24)).setRow w6.heap.size (byts rt)) g20 rt ∧ Dig ((w6.alloc (.cells (byts zero32) 24)).setRow w6.heap.size (byts rt)) w6.heap.size rt) := Lib.hid (by
                  have h6 : Below W7.heap.size W7 ((w6.alloc (.cells (byts zero32) 24)).setRow w6.heap.size (byts rt)) := below_setRow (hb20.alloc hb20.size _) hb20.size _
                  exact ⟨HZ1.out.1.trans (h6.mono HZ1.out.1.size), HZ1.out.2.kept h6 HZ1.out.2.lt, (Dig.new w6 zero32_len).set HRT.out⟩)
                clear hb20 HZ1
                go_simp
                generalize (w6.alloc (.cells (byts zero32) 24)).setRow w6.heap.size (byts rt) = W8 at HZ2 ⊢
                generalize w6.heap.size = g22 at HZ2 ⊢
                clear HT HD3 HRT
                go_upto_region 21 with (fail)
                refine wp_region_list ?_
                refine wpl_get rfl _ rfl g20 rt rfl HZ2.out.2.1 ?_
                refine wpl_get rfl _ rfl g22 rt rfl HZ2.out.2.2 ?_
                go_simp
                go_wp2_with fail
                go_roundw
                case rel => exact ⟨q + 1, by omega, by go_num, Lib.hid HZ2.out.1⟩
                case measure => simp [intOf]; omega
              · obtain rfl : q = 3 := by omega
                go_wp2_with fail
                go_roundw
                case rel => exact ⟨k + 1, by omega, by go_num, Lib.hid (HQ.out.trans ((HLB.out _ HV.out).mono HQ.out.size))⟩
                case measure => simp [intOf]; omega
        · obtain rfl : k = 2 := by omega
          go_wp2_with fail
          go_roundw
          case rel => exact ⟨j + 1, by omega, by go_num, Lib.hid (HWC.out.1.trans (HQ.out.mono HWC.out.1.size))⟩
          case measure => simp [intOf]; omega
    · obtain rfl : j = 2 := by omega
      go_wp2_with fail
      go_ret
      exact ⟨rfl, HDS.out.2.2.2.trans ((HWB.out.1.trans (HR.out.mono HWB.out.1.size)).mono HDS.out.2.2.2.size)⟩

end Go.Proofs.YthamligdmfhmeaaDoor
