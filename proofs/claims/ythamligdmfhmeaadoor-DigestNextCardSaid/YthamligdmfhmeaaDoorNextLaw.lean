/- The law DigestNext: the walk. -/
import Derived.Test.YthamligdmfhmeaaDoorChainsLaw
import Derived.Test.YthamligdmfhmeaaDoorPath
import Derived.Test.YthamligdmfhmeaaDoorTrail
import Derived.Test.YthamligdmfhmeaaDoorSpecs
namespace Go.Proofs.YthamligdmfhmeaaDoor
open Go.RowKit

namespace H
theorem split_pow : ∀ k, k ≤ 4 → split (2 ^ k + 1) = 2 ^ k
  | 0, _ => by decide
  | 1, _ => by decide
  | 2, _ => by decide
  | 3, _ => by decide
  | 4, _ => by decide
  | k + 5, h => by omega
theorem next_tree {l : List (List UInt8)} {d : List UInt8} {i : Nat} (hl : l.length = i) (hi : 1 ≤ i) (hi2 : i ≤ 24) (hs : split (i + 1) = i) : tree (l ++ [d]) = node (tree l) (tree [d]) := by
  have h := tree_cut (l := l ++ [d]) (by simp; omega) (by simp; omega)
  have e : (l ++ [d]).length = i + 1 := by simp [hl]
  rw [e, hs] at h
  rw [h, List.take_append_of_le_length (by omega), List.take_of_length_le (by omega), List.drop_append, List.drop_of_length_le (by omega), hl]
  simp
theorem next_sibs {l : List (List UInt8)} {d : List UInt8} {i : Nat} (hl : l.length = i) (hi : 1 ≤ i) (hs : split (i + 1) = i) : sibsF (i + 1) (l ++ [d]) i = [tree l] := by
  have e : (l ++ [d]).length = i + 1 := by simp [hl]
  rw [sibsF, if_neg (by omega), e, hs, if_neg (by omega), List.take_append_of_le_length (by omega), List.take_of_length_le (by omega), List.drop_append, List.drop_of_length_le (by omega), hl]
  obtain ⟨f, rfl⟩ : ∃ f, i = f + 1 := ⟨i - 1, by omega⟩
  simp [sibsF]
end H

theorem step_val {ops : Array Oper} {o : Oper} {a : Act} {K : Act → World → Prop} {Q : Exit → Act → World → Prop} {E : Prop} {w : World} {v : Value} (hgd : o.guard = none)
    (hr : (execOp a.eval o).run Tryd.prog w = .ok (.value v) w) (h : K (a.put o.dst v) w) :
    if Region.wanted o (yielded ops a.tmps) = true then Oper.wp Tryd.prog o a w K Q else E := by
  have hw : Region.wanted o (yielded ops a.tmps) = true := by simp [Region.wanted, hgd]
  rw [if_pos hw]
  unfold Oper.wp
  rw [hr]
  exact h
theorem step_head {ops : Array Oper} {o : Oper} {a : Act} {K : Act → World → Prop} {Q : Exit → Act → World → Prop} {E : Prop} {w : World} (hgd : o.guard = none) (y z : Operand)
    (hop : o.op = .slice 26 y none (some z) none) {A : Option Addr} {m c i : Nat} (ey : a.eval y = .slice A m c) (ez : a.eval z = .int .i64 (i : Int)) (hi : i ≤ m) (hc : m ≤ c)
    (h : K (a.put o.dst (.slice A i c)) w) :
    if Region.wanted o (yielded ops a.tmps) = true then Oper.wp Tryd.prog o a w K Q else E := by
  refine step_val hgd ?_ h
  have hh := digs_head A m c i hi hc w
  unfold execOp
  rw [hop]
  generalize a.eval = f at *
  simp [ey, ez]
  exact congrArg (fun r => Result.andThen r (fun a w' => Result.ok (Next.value a) w')) hh
theorem index_zero (g c : Nat) (W : World) : (Instr.indexAt 26 (.slice (some ⟨g, 0, none⟩) 1 c) (.int .i64 0)).run Tryd.prog W = .ok (.pointer (some ⟨g, 0, none⟩)) W := by kernel_rfl
theorem range_kept {w w' : World} {g : Nat} {cs : List Value} (h : w.rangeAt g 0 cs) (hg : g < w.heap.size) (hb : Below w.heap.size w w') : w'.rangeAt g 0 cs := by
  intro j v hj
  have := h j v hj
  simpa [World.cell?, hb.block g hg] using this
theorem step_nobytes {ops : Array Oper} {o : Oper} {a : Act} {K : Act → World → Prop} {Q : Exit → Act → World → Prop} {E : Prop} {w : World} (t : Option Tmp) (hdst : o.dst = t) (hgd : o.guard = none)
    (ho : o.op = .buildSlice 22 0 #[])
    (h : ∀ w', (∀ base, base ≤ w.heap.size → w'.ownsRow base 5 1 (.slice (some ⟨w.heap.size, 0, none⟩) 0 0) 0 (bytes [])) → Below w.heap.size w w' → K (a.put t (.slice (some ⟨w.heap.size, 0, none⟩) 0 0)) w') :
    if Region.wanted o (yielded ops a.tmps) = true then Oper.wp Tryd.prog o a w K Q else E := by
  subst hdst
  have hw : Region.wanted o (yielded ops a.tmps) = true := by simp [Region.wanted, hgd]
  rw [if_pos hw]
  have hr : (Instr.buildSlice 22 0 #[]).run Tryd.prog w = .ok (.slice (some ⟨w.heap.size, 0, none⟩) 0 0) (w.alloc (.cells #[] 5)) := by kernel_rfl
  unfold Oper.wp execOp
  simp only [ho, List.map_toArray, List.map_nil, Sem.run_bind, hr, Result.andThen_ok]
  exact h _ (fun base hb => ⟨rfl, .inr ⟨w.heap.size, 0, #[], rfl, hb, heap_alloc_new w _, Nat.le_refl _, by decide, rfl, rfl⟩⟩) ((Below.refl _ _).alloc (Nat.le_refl _) _)
/-- What each operation of region 7 leaves. -/
def N7 (W : World) (A : Option Addr) (m c i : Nat) (d tL tR : List UInt8) : Nat → Value → World → Prop
  | 0, v, _ => v = .slice A m c
  | 1, v, _ => v = .int .i64 (i : Int)
  | 2, v, _ => v = .slice A i c
  | 3, v, _ => v = .agg (byts tL)
  | 4, v, _ => v = .agg (bytes d).toArray
  | 5, v, w => ∃ g, v = .slice (some ⟨g, 0, none⟩) 1 1 ∧ Dig w g d
  | 6, v, _ => v = .agg (byts tR)
  | 7, v, w => ∃ g, v = .pointer (some ⟨g, 0, none⟩) ∧ W.heap.size ≤ g ∧ Dig w g zero32
  | 8, v, w => ∃ g, v = .pointer (some ⟨g, 0, none⟩) ∧ W.heap.size ≤ g ∧ Dig w g zero32
  | _, _, _ => True
theorem N7_mono {W : World} {A : Option Addr} {m c i : Nat} {d tL tR : List UInt8} {k : Nat} {v : Value} {w w' : World} (h : N7 W A m c i d tL tR k v w) (hb : Below w.heap.size w w') : N7 W A m c i d tL tR k v w' := by
  match k, h with
  | 0, h => exact h
  | 1, h => exact h
  | 2, h => exact h
  | 3, h => exact h
  | 4, h => exact h
  | 5, h => obtain ⟨g, e, hd⟩ := h; exact ⟨g, e, hd.kept hb hd.lt⟩
  | 6, h => exact h
  | 7, h => obtain ⟨g, e, hl, hd⟩ := h; exact ⟨g, e, hl, hd.kept hb hd.lt⟩
  | 8, h => obtain ⟨g, e, hl, hd⟩ := h; exact ⟨g, e, hl, hd.kept hb hd.lt⟩
  | _ + 9, _ => trivial
def N7new (k : Nat) (v : Value) (w : World) : Prop := (k = 7 ∨ k = 8) → ∃ g, v = .pointer (some ⟨g, 0, none⟩) ∧ w.heap.size ≤ g
def N7pair (k l : Nat) (v u : Value) : Prop := (k = 7 ∧ l = 8 ∨ k = 8 ∧ l = 7) → ∀ g h : Nat, v = .pointer (some ⟨g, 0, none⟩) → u = .pointer (some ⟨h, 0, none⟩) → g ≠ h
theorem N7_pair {W : World} {A : Option Addr} {m c i : Nat} {d tL tR : List UInt8} {k l : Nat} {v u : Value} {w : World} (h : N7new k v w) (hk : N7 W A m c i d tL tR l u w) : N7pair k l v u ∧ N7pair l k u v := by
  have key : (k = 7 ∧ l = 8 ∨ k = 8 ∧ l = 7) → ∀ g h : Nat, v = .pointer (some ⟨g, 0, none⟩) → u = .pointer (some ⟨h, 0, none⟩) → g ≠ h := by
    rintro hkl g g' rfl rfl
    obtain ⟨g1, e1, h1⟩ := h (by omega)
    simp at e1
    subst e1
    rcases hkl with ⟨rfl, rfl⟩ | ⟨rfl, rfl⟩
    · obtain ⟨g2, e2, _, hd⟩ := hk
      simp at e2
      subst e2
      have := hd.lt; omega
    · obtain ⟨g2, e2, _, hd⟩ := hk
      simp at e2
      subst e2
      have := hd.lt; omega
  exact ⟨key, fun hkl g g' e e' => Ne.symm (key (by omega) g' g e' e)⟩

set_option maxRecDepth 100000 in
set_option maxHeartbeats 8000000 in
theorem next_walk (a : Option Addr) (n cap : Nat) (bs : List UInt8) (d : List UInt8) (w : World) (hK : KT w) (hn : bs.length = n) (hc : n ≤ cap) (hb : BytesAt w a bs) (hd0 : d.length = 32) :
    Calls Tryd.prog 4 #[.slice a n cap, .agg (byts d)] w fun e w' => e = .returned (.bool true) ∧ Below w.heap.size w w' := by
  have HK := Lib.hid hK; have HB := Lib.hid hb; have HN := Lib.hid hn; have HD := Lib.hid hd0; have HCAP := Lib.hid hc
  clear hK hb hn hd0 hc
  have hb0 : Below w.heap.size w (w.alloc (.cells (byts d) 24)) := (Below.refl _ _).alloc (Nat.le_refl _) _
  have HS : Hid (Calls Tryd.prog 6 #[] (w.alloc (.cells (byts d) 24)) fun e w' => e = .returned (.bool true) ∧ Hid (Below w.heap.size w w' ∧ Dig w' w.heap.size d)) := Lib.hid (by
    refine (sane_any _ (HK.out.kept hb0 HK.out.pos)).mono ?_
    rintro e w' ⟨rfl, hb⟩
    exact ⟨rfl, Lib.hid ⟨hb0.trans (hb.mono (by simp)), (Dig.new w HD.out).kept hb (by simp)⟩⟩)
  clear hb0
  obtain ⟨g3, hg3⟩ : ∃ g3, w.heap.size = g3 := ⟨_, rfl⟩
  have HG3 := Lib.hid hg3
  clear hg3
  go_enter Tryd.func4, Tryd.ntmps4
  go_step
  go_step
  refine wp_region_list ?_
  refine wpl_box rfl 24 _ rfl (byts d) rfl ?_
  iterate 3 go_step
  refine wpList_nil ?_
  rename_i K1 hK1
  refine hK1 _ _ ?_
  clear hK1
  go_simp
  go_wp2_with fail
  refine HS.out.mono ?_
  rintro e w1 ⟨rfl, HW1⟩
  clear HS
  have HO : Hid (Calls Tryd.prog 7 #[.slice a n cap] w1 fun e w' => ∃ A m c ds, e = .returned (.slice A m c) ∧ m ≤ c ∧ m ≤ 24 ∧ Hid (ds.length = m ∧ DigsAt w' A ds ∧ Dig w' g3 d ∧ Below w.heap.size w w')) := Lib.hid (by
    refine (digestsOf_any a n cap bs w1 HN.out HCAP.out (HB.out.kept HW1.out.1)).mono ?_
    rintro e w' ⟨A, m, c, ds, rfl, hmc, h24, hm, hds, hb⟩
    exact ⟨A, m, c, ds, rfl, hmc, h24, Lib.hid ⟨hm, hds, by rw [← HG3.out]; exact HW1.out.2.kept hb HW1.out.2.lt, HW1.out.1.trans (hb.mono HW1.out.1.size)⟩⟩)
  rw [HG3.out]
  go_wp2_with fail
  refine HO.out.mono ?_
  rintro e W ⟨A, m, c, ds, rfl, hmc, h24, HDS⟩
  clear HO HW1 HB HN HCAP
  go_wp2_with fail
  go_loopw [6] (fun ii wr => ∃ k : Nat, k ≤ 5 ∧ ii = .int .i64 ((2 ^ k : Nat) : Int) ∧ Hid (Below W.heap.size W wr)) (fun ii _ => 32 - (intOf ii).toNat)
  case atStart => exact ⟨0, Nat.zero_le _, rfl, Lib.hid (Below.refl _ _)⟩
  case round =>
    obtain ⟨k, hk, rfl, HR⟩ := hrel
    obtain ⟨i, hi⟩ : ∃ i, 2 ^ k = i := ⟨_, rfl⟩
    have hip : 1 ≤ i := by rw [← hi]; exact Nat.two_pow_pos _
    rw [hi]
    by_cases hlt : i ≤ m
    · have hk4 : k ≤ 4 := by
        rcases Nat.lt_or_ge k 5 with h | h
        · omega
        · have h5 : k = 5 := by omega
          subst h5
          have : i = 32 := by rw [← hi]
          omega
      have hs : H.split (i + 1) = i := by rw [← hi]; exact H.split_pow k hk4
      have HI := Lib.hid hi
      obtain ⟨l, hl⟩ : ∃ l, ds.take i = l := ⟨_, rfl⟩
      have hll : l.length = i := by rw [← hl, List.length_take, HDS.out.1]; omega
      have HL := Lib.hid hl
      obtain ⟨tL, htL⟩ : ∃ t, H.tree l = t := ⟨_, rfl⟩
      obtain ⟨tR, htR⟩ : ∃ t, H.tree [d] = t := ⟨_, rfl⟩
      have hnt := H.next_tree (d := d) hll hip (by omega) hs
      have hns := H.next_sibs (d := d) hll hip hs
      rw [htL, htR] at hnt
      rw [htL] at hns
      have htl : tL.length = 32 := by rw [← htL]; exact H.tree_len _
      have htr : tR.length = 32 := by rw [← htR]; exact H.tree_len _
      have hdl := HD.out
      have HTL := Lib.hid htL; have HTR := Lib.hid htR; have HNT := Lib.hid hnt; have HNS := Lib.hid hns
      clear hi hl htL htR hnt hns hs
      have HLA : Hid (∀ V, Below W.heap.size W V → DigsAt V A l) := Lib.hid (fun V hV => by rw [← HL.out]; exact (HDS.out.2.1.kept hV).take i)
      have HD3 : Hid (∀ V, Below W.heap.size W V → Dig V g3 d) := Lib.hid (fun V hV => HDS.out.2.2.1.kept hV HDS.out.2.2.1.lt)
      have HKT : Hid (∀ V, Below W.heap.size W V → KT V) := Lib.hid (fun V hV => HK.out.kept (HDS.out.2.2.2.trans (hV.mono HDS.out.2.2.2.size)) HK.out.pos)
      have hic : i ≤ c := by omega
      go_upto_region 7 with (fail)
      have HTREE : Hid (∀ V, Below W.heap.size W V → Calls Tryd.prog 8 #[.slice A i c] V fun e w' => e = .returned (.agg (byts tL)) ∧ Hid (Below V.heap.size V w')) := Lib.hid (fun V hV => by
        refine (tree_all i A i c l V (Nat.le_refl _) (HKT.out V hV) hll hic (by omega) (HLA.out V hV)).mono ?_
        rintro e w' ⟨rfl, hb⟩
        exact ⟨by rw [HTL.out], Lib.hid hb⟩)
      have HTRE1 : Hid (∀ V gC, Below W.heap.size W V → Dig V gC d → Calls Tryd.prog 8 #[.slice (some ⟨gC, 0, none⟩) 1 1] V fun e w' => e = .returned (.agg (byts tR)) ∧ Hid (Below V.heap.size V w')) := Lib.hid (fun V gC hV hC => by
        have hy : DigsAt V (some ⟨gC, 0, none⟩) [d] := ⟨fun e he => by rw [List.mem_singleton.1 he]; exact hC.2, by simpa using hC.bytes⟩
        refine (tree_all 1 (some ⟨gC, 0, none⟩) 1 1 [d] V (Nat.le_refl _) (HKT.out V hV) rfl (Nat.le_refl _) (by decide) hy).mono ?_
        rintro e w' ⟨rfl, hb⟩
        exact ⟨by rw [HTR.out], Lib.hid hb⟩)
      go_cut [7, 8] (fun a7 a8 wx => ∃ g7 g8 : Nat, a7 = .pointer (some ⟨g7, 0, none⟩) ∧ a8 = .pointer (some ⟨g8, 0, none⟩) ∧ Hid (Below W.heap.size W wx ∧ Dig wx g7 tL ∧ Dig wx g8 tR))
      case first =>
        -- region 7
        refine wp_region_specs (by kernel_rfl) 9 2 rfl (by kernel_rfl) (by kernel_rfl) (by kernel_rfl) (by decide) (by kernel_rfl) (N7 W A m c i d tL tR) (fun w w' => Below w.heap.size w w') N7new N7pair ?hp (Below.refl _ _) (fun h k => h.trans (k.mono h.size)) ?hm ?hs ?ht
        case hp => exact fun i j v u w _ _ _ h k => N7_pair h k
        case hm => exact fun i v w w' _ h k => N7_mono h k
        case hs =>
          rintro i' o hi' ho a' w' hG hext hdep K hK
          have hW' : Below W.heap.size W w' := HR.out.drew.trans (hG.mono HR.out.size)
          rcases (show i' = 0 ∨ i' = 1 ∨ i' = 2 ∨ i' = 3 ∨ i' = 4 ∨ i' = 5 ∨ i' = 6 ∨ i' = 7 ∨ i' = 8 by omega) with rfl | rfl | rfl | rfl | rfl | rfl | rfl | rfl | rfl
          · cases ho
            have e5 : a'.eval (.tmp 5) = .slice A m c := hext 5 (by kernel_rfl)
            exact step_val rfl (by simp [execOp, e5]) (hK _ _ rfl (Below.refl _ _) (fun h => by omega))
          · cases ho
            have e5 : a'.eval (.tmp 6) = .int .i64 (i : Int) := hext 6 (by kernel_rfl)
            exact step_val rfl (by simp [execOp, e5]) (hK _ _ rfl (Below.refl _ _) (fun h => by omega))
          · cases ho
            have e0 : a'.eval (.tmp 22) = .slice A m c := hdep 0 22 (by kernel_rfl) rfl
            have e1 : a'.eval (.tmp 23) = .int .i64 (i : Int) := hdep 1 23 (by kernel_rfl) rfl
            exact step_head rfl _ _ rfl e0 e1 hlt hmc (hK _ _ rfl (Below.refl _ _) (fun h => by omega))
          · cases ho
            have e0 : a'.eval (.tmp 24) = .slice A i c := hdep 2 24 (by kernel_rfl) rfl
            refine step_call (some 25) rfl rfl 8 #[.tmp 24] _ rfl #[.slice A i c] (by simp [e0]) _ (enters_of Tryd.func8 (by kernel_rfl) rfl) (HTREE.out _ hW') ?_
            rintro e v ⟨rfl, hb⟩
            exact ⟨_, rfl, hK _ _ rfl hb.out (fun h => by omega)⟩
          · cases ho
            have e0 : a'.eval (.tmp 3) = .pointer (some ⟨g3, 0, none⟩) := hext 3 (by kernel_rfl)
            exact step_loadc (some 26) rfl rfl (.tmp 3) rfl g3 0 (bytes d) e0 (dig_range (HD3.out _ hW')) (ind32 hdl) (hK _ _ rfl (Below.refl _ _) (fun h => by omega))
          · cases ho
            have e0 : a'.eval (.tmp 26) = .agg (bytes d).toArray := hdep 4 26 (by kernel_rfl) rfl
            refine step_single (some 27) rfl rfl _ rfl d hdl e0 ?_
            intro gC v hg hb hx
            exact hK _ _ ⟨gC, rfl, hx⟩ hb (fun h => by omega)
          · cases ho
            obtain ⟨gC, e0, hC⟩ : ∃ gC, a'.eval (.tmp 27) = .slice (some ⟨gC, 0, none⟩) 1 1 ∧ Dig w' gC d := hdep 5 27 (by kernel_rfl) rfl
            refine step_call (some 28) rfl rfl 8 #[.tmp 27] _ rfl #[.slice (some ⟨gC, 0, none⟩) 1 1] (by simp [e0]) _ (enters_of Tryd.func8 (by kernel_rfl) rfl) (HTRE1.out _ gC hW' hC) ?_
            rintro e v ⟨rfl, hb⟩
            exact ⟨_, rfl, hK _ _ rfl hb.out (fun h => by omega)⟩
          · cases ho
            refine step_box (some 7) rfl rfl rfl ?_
            intro g v hg hb hx
            exact hK _ _ ⟨g, rfl, Nat.le_trans hW'.size hg, hx⟩ hb (fun _ => ⟨g, rfl, hg⟩)
          · cases ho
            refine step_box (some 8) rfl rfl rfl ?_
            intro g v hg hb hx
            exact hK _ _ ⟨g, rfl, Nat.le_trans hW'.size hg, hx⟩ hb (fun _ => ⟨g, rfl, hg⟩)
        case ht =>
          intro vs w' hG hφ hψ
          obtain ⟨g7, e7, h7, hx7⟩ : ∃ g, vs 7 = .pointer (some ⟨g, 0, none⟩) ∧ W.heap.size ≤ g ∧ Dig w' g zero32 := hφ 7 (by decide)
          obtain ⟨g8, e8, h8, hx8⟩ : ∃ g, vs 8 = .pointer (some ⟨g, 0, none⟩) ∧ W.heap.size ≤ g ∧ Dig w' g zero32 := hφ 8 (by decide)
          have e3 : vs 3 = .agg (byts tL) := hφ 3 (by decide)
          have e6 : vs 6 = .agg (byts tR) := hφ 6 (by decide)
          have hne : g7 ≠ g8 := hψ 7 8 (by decide) (by decide) (by decide) (.inl ⟨rfl, rfl⟩) g7 g8 e7 e8
          have hW' : Below W.heap.size W w' := HR.out.drew.trans (hG.mono HR.out.size)
          simp only [putsOf, dstOf, List.getElem?_toArray, List.getElem?_cons_zero, List.getElem?_cons_succ, Option.bind_some, Act.put, List.setIfInBounds_toArray, List.set_cons_zero, List.set_cons_succ, List.drop_succ_cons, List.drop_zero]
          rw [e3, e6, e7, e8]
          refine wpl_put rfl _ _ rfl g7 zero32 tL rfl rfl hx7 htl ?_
          refine wpl_put rfl _ _ rfl g8 zero32 tR rfl rfl (hx8.other (Ne.symm hne) _) htr ?_
          refine wpList_nil ?_
          have HZ := Lib.hid (And.intro (below_setRow (below_setRow hW' h7 (byts tL)) h8 (byts tR)) (And.intro ((hx7.set htl).other hne (byts tR)) ((hx8.other (Ne.symm hne) (byts tL)).set htr)))
          go_wp2_with fail
          go_meet
          case rel => exact ⟨_, _, rfl, rfl, HZ⟩
      case rest =>
        obtain ⟨g7, g8, rfl, rfl, HX⟩ := hcut
        clear HTREE HTRE1
        go_upto_region 8 with (fail)
        go_cut [9] (fun a9 wx => ∃ (A9 : Option Addr) (c9 : Nat), a9 = .slice A9 (i + 1) c9 ∧ Hid (wx.ownsRow wc.heap.size 24 32 (.slice A9 (i + 1) c9) (i + 1) (bytes (l ++ [d]).flatten) ∧ Below wc.heap.size wc wx))
        case first =>
          have hind : (Tryd.prog.info? 24).map (·.size) = some (bytes d).length := ind32 hdl
          have HP := Lib.hid hll
          have HDL := HD
          have HDX : Hid (∀ V, Below wc.heap.size wc V → Dig V g3 d) := Lib.hid fun V hV => HD3.out V (HX.out.1.trans (hV.mono HX.out.1.size))
          have HSSW : Hid (∀ V, Below wc.heap.size wc V → DigsAt V A l) := Lib.hid fun V hV => HLA.out V (HX.out.1.trans (hV.mono HX.out.1.size))
          have HS32 : Hid (∀ e ∈ l, e.length = 32) := Lib.hid (HSSW.out wc (Below.refl _ _)).1
          refine wp_region_held_drew (S := fun V => Below wc.heap.size wc V) (by kernel_rfl) (Below.refl _ _).drew (fun hHeld => ?_)
          -- region 8
          refine wpAnyH_put 1 30 (v := ?_) rfl rfl (by kernel_rfl) (by kernel_rfl) (by kernel_rfl) (fun _ _ _ h => h) (Or.inl ⟨by rfl, ?_⟩) hHeld ?_
          rotate_left
          · intro W' _; go_simp; with_reducible rfl
          (try simp only [Act.put, List.setIfInBounds_toArray, List.set_cons_zero, List.set_cons_succ])
          refine wpAnyH_put 2 31 (v := ?_) rfl rfl (by kernel_rfl) (by kernel_rfl) (by kernel_rfl) (fun _ _ _ h => h) (Or.inl ⟨by rfl, ?_⟩) hHeld ?_
          rotate_left
          · intro W' _; go_simp; with_reducible rfl
          (try simp only [Act.put, List.setIfInBounds_toArray, List.set_cons_zero, List.set_cons_succ])
          refine wpAnyH_put 3 32 (v := ?_) rfl rfl (by kernel_rfl) (by kernel_rfl) (by kernel_rfl) (fun _ _ _ h => h) (Or.inl ⟨by rfl, ?_⟩) hHeld ?_
          rotate_left
          · intro W' _
            have h := digs_head A m c i hlt hmc W'
            first
              | (go_simp; with_reducible rfl)
              | (simp [Act.eval, h, go_sem]; with_reducible rfl)
          (try simp only [Act.put, List.setIfInBounds_toArray, List.set_cons_zero, List.set_cons_succ])
          refine wpAnyH_put 5 34 rfl rfl (by kernel_rfl) (by kernel_rfl) (by kernel_rfl) (fun _ _ _ h => h) (yieldsIf_load_mid (by rfl) 24 (.tmp 3) rfl g3 0 (by rfl) (bytes d) _ (fun V hV => dig_range (HDX.out V hV)) Tryd.underlying24 rfl hind) hHeld ?_
          (try simp only [Act.put, List.setIfInBounds_toArray, List.set_cons_zero, List.set_cons_succ])
          refine wpAnyH_ready (rs := [0, 6]) (by kernel_rfl) (by simp) ?_
          refine AllReadyH.cons rfl (fun K hK => ?_) (AllReadyH.cons rfl (fun K hK => ?_) AllReadyH.nil)
          · -- operation 0
            refine step_empty (some 29) rfl rfl (by rfl) ?_
            intro gA v1 hg hb hx
            have hgA : wc.heap.size ≤ gA := Nat.le_trans hHeld.size hg
            have HA := Lib.hid hx
            have hN := hHeld.trans (hb.mono hHeld.size)
            clear hg hb hx hHeld
            refine hK.out _ _ hN (fun hHeld => ?_)
            clear hK K hN
            (try simp only [Act.put, List.setIfInBounds_toArray, List.set_cons_zero, List.set_cons_succ])
            refine wpAnyH_ready (rs := [4, 6]) (by kernel_rfl) (by simp) ?_
            refine AllReadyH.cons rfl (fun K hK => ?_) (AllReadyH.cons rfl (fun K hK => ?_) AllReadyH.nil)
            · -- operation 4
              refine step_first (some 33) rfl rfl _ _ (by rfl) (wc.heap.size) gA (by rfl) HA.out hgA A i c l (by rfl) HP.out (HSSW.out _ hHeld) (by omega) hHeld.size ?_
              intro A2 c2 v2 ho hb hk
              have HS := Lib.hid ho
              have hN := hHeld.trans hb
              clear ho hb hk hHeld HA
              refine hK.out _ _ hN (fun hHeld => ?_)
              clear hK K hN
              (try simp only [Act.put, List.setIfInBounds_toArray, List.set_cons_zero, List.set_cons_succ])
              refine wpAnyH_ready (rs := [6]) (by kernel_rfl) (by simp) ?_
              refine AllReadyH.cons rfl (fun K hK => ?_) AllReadyH.nil
              refine step_single (some 35) rfl rfl _ (by rfl) d HDL.out (by rfl) ?_
              intro gC v3 hg hb hx
              have hgC : wc.heap.size ≤ gC := Nat.le_trans hHeld.size hg
              have HS := Lib.hid (owns_kept HS.out hb)
              have HC := Lib.hid hx
              have hN := hHeld.trans (hb.mono hHeld.size)
              clear hg hb hx hHeld
              refine hK.out _ _ hN (fun hHeld => ?_)
              clear hK K hN
              (try simp only [Act.put, List.setIfInBounds_toArray, List.set_cons_zero, List.set_cons_succ])
              refine wpAnyH_ready (rs := [7]) (by kernel_rfl) (by simp) ?_
              refine AllReadyH.cons rfl (fun K hK => ?_) AllReadyH.nil
              refine step_more (some 36) rfl rfl _ _ (by rfl) (wc.heap.size) A2 i c2 l (by rfl) HS.out HS32.out gC d (by rfl) HC.out (by omega) hHeld.size ?_
              intro A4 c4 v4 ho hb hk
              have HS := Lib.hid ho
              have hN := hHeld.trans hb
              clear ho hb hk hHeld HC
              refine hK.out _ _ hN (fun hHeld => ?_)
              clear hK K hN
              (try simp only [Act.put, List.setIfInBounds_toArray, List.set_cons_zero, List.set_cons_succ])
              refine wpAnyH_put 8 9 (v := ?_) rfl rfl (by kernel_rfl) (by kernel_rfl) (by kernel_rfl) (fun _ _ _ h => h) (Or.inl ⟨by rfl, ?_⟩) hHeld ?_
              rotate_left
              · intro W' _; go_simp; with_reducible rfl
              (try simp only [Act.put, List.setIfInBounds_toArray, List.set_cons_zero, List.set_cons_succ])
              refine wpAnyH_done (by kernel_rfl) ?_ _
              have HZ := Lib.hid (And.intro HS.out hHeld)
              clear hHeld HS
              go_wp2_with fail
              go_meet
              case rel => exact ⟨_, _, rfl, HZ⟩
            · -- operation 6
              refine step_single (some 35) rfl rfl _ (by rfl) d HDL.out (by rfl) ?_
              intro gC v5 hg hb hx
              have hgC : wc.heap.size ≤ gC := Nat.le_trans hHeld.size hg
              have HA := Lib.hid ((hb.block _ (Array.getElem?_eq_some_iff.1 HA.out).1).trans HA.out)
              have HC := Lib.hid hx
              have hN := hHeld.trans (hb.mono hHeld.size)
              clear hg hb hx hHeld
              refine hK.out _ _ hN (fun hHeld => ?_)
              clear hK K hN
              (try simp only [Act.put, List.setIfInBounds_toArray, List.set_cons_zero, List.set_cons_succ])
              refine wpAnyH_ready (rs := [4]) (by kernel_rfl) (by simp) ?_
              refine AllReadyH.cons rfl (fun K hK => ?_) AllReadyH.nil
              refine step_first (some 33) rfl rfl _ _ (by rfl) (wc.heap.size) gA (by rfl) HA.out hgA A i c l (by rfl) HP.out (HSSW.out _ hHeld) (by omega) hHeld.size ?_
              intro A6 c6 v6 ho hb hk
              have HC := Lib.hid (hk _ _ HC.out).1
              have HS := Lib.hid ho
              have hN := hHeld.trans hb
              clear ho hb hk hHeld HA
              refine hK.out _ _ hN (fun hHeld => ?_)
              clear hK K hN
              (try simp only [Act.put, List.setIfInBounds_toArray, List.set_cons_zero, List.set_cons_succ])
              refine wpAnyH_ready (rs := [7]) (by kernel_rfl) (by simp) ?_
              refine AllReadyH.cons rfl (fun K hK => ?_) AllReadyH.nil
              refine step_more (some 36) rfl rfl _ _ (by rfl) (wc.heap.size) A6 i c6 l (by rfl) HS.out HS32.out gC d (by rfl) HC.out (by omega) hHeld.size ?_
              intro A7 c7 v7 ho hb hk
              have HS := Lib.hid ho
              have hN := hHeld.trans hb
              clear ho hb hk hHeld HC
              refine hK.out _ _ hN (fun hHeld => ?_)
              clear hK K hN
              (try simp only [Act.put, List.setIfInBounds_toArray, List.set_cons_zero, List.set_cons_succ])
              refine wpAnyH_put 8 9 (v := ?_) rfl rfl (by kernel_rfl) (by kernel_rfl) (by kernel_rfl) (fun _ _ _ h => h) (Or.inl ⟨by rfl, ?_⟩) hHeld ?_
              rotate_left
              · intro W' _; go_simp; with_reducible rfl
              (try simp only [Act.put, List.setIfInBounds_toArray, List.set_cons_zero, List.set_cons_succ])
              refine wpAnyH_done (by kernel_rfl) ?_ _
              have HZ := Lib.hid (And.intro HS.out hHeld)
              clear hHeld HS
              go_wp2_with fail
              go_meet
              case rel => exact ⟨_, _, rfl, HZ⟩
          · -- operation 6
            refine step_single (some 35) rfl rfl _ (by rfl) d HDL.out (by rfl) ?_
            intro gC v8 hg hb hx
            have hgC : wc.heap.size ≤ gC := Nat.le_trans hHeld.size hg
            have HC := Lib.hid hx
            have hN := hHeld.trans (hb.mono hHeld.size)
            clear hg hb hx hHeld
            refine hK.out _ _ hN (fun hHeld => ?_)
            clear hK K hN
            (try simp only [Act.put, List.setIfInBounds_toArray, List.set_cons_zero, List.set_cons_succ])
            refine wpAnyH_ready (rs := [0]) (by kernel_rfl) (by simp) ?_
            refine AllReadyH.cons rfl (fun K hK => ?_) AllReadyH.nil
            refine step_empty (some 29) rfl rfl (by rfl) ?_
            intro gA v9 hg hb hx
            have hgA : wc.heap.size ≤ gA := Nat.le_trans hHeld.size hg
            have HC := Lib.hid (HC.out.kept hb HC.out.lt)
            have HA := Lib.hid hx
            have hN := hHeld.trans (hb.mono hHeld.size)
            clear hg hb hx hHeld
            refine hK.out _ _ hN (fun hHeld => ?_)
            clear hK K hN
            (try simp only [Act.put, List.setIfInBounds_toArray, List.set_cons_zero, List.set_cons_succ])
            refine wpAnyH_ready (rs := [4]) (by kernel_rfl) (by simp) ?_
            refine AllReadyH.cons rfl (fun K hK => ?_) AllReadyH.nil
            refine step_first (some 33) rfl rfl _ _ (by rfl) (wc.heap.size) gA (by rfl) HA.out hgA A i c l (by rfl) HP.out (HSSW.out _ hHeld) (by omega) hHeld.size ?_
            intro A10 c10 v10 ho hb hk
            have HC := Lib.hid (hk _ _ HC.out).1
            have HS := Lib.hid ho
            have hN := hHeld.trans hb
            clear ho hb hk hHeld HA
            refine hK.out _ _ hN (fun hHeld => ?_)
            clear hK K hN
            (try simp only [Act.put, List.setIfInBounds_toArray, List.set_cons_zero, List.set_cons_succ])
            refine wpAnyH_ready (rs := [7]) (by kernel_rfl) (by simp) ?_
            refine AllReadyH.cons rfl (fun K hK => ?_) AllReadyH.nil
            refine step_more (some 36) rfl rfl _ _ (by rfl) (wc.heap.size) A10 i c10 l (by rfl) HS.out HS32.out gC d (by rfl) HC.out (by omega) hHeld.size ?_
            intro A11 c11 v11 ho hb hk
            have HS := Lib.hid ho
            have hN := hHeld.trans hb
            clear ho hb hk hHeld HC
            refine hK.out _ _ hN (fun hHeld => ?_)
            clear hK K hN
            (try simp only [Act.put, List.setIfInBounds_toArray, List.set_cons_zero, List.set_cons_succ])
            refine wpAnyH_put 8 9 (v := ?_) rfl rfl (by kernel_rfl) (by kernel_rfl) (by kernel_rfl) (fun _ _ _ h => h) (Or.inl ⟨by rfl, ?_⟩) hHeld ?_
            rotate_left
            · intro W' _; go_simp; with_reducible rfl
            (try simp only [Act.put, List.setIfInBounds_toArray, List.set_cons_zero, List.set_cons_succ])
            refine wpAnyH_done (by kernel_rfl) ?_ _
            have HZ := Lib.hid (And.intro HS.out hHeld)
            clear hHeld HS
            go_wp2_with fail
            go_meet
            case rel => exact ⟨_, _, rfl, HZ⟩
          -- end 8
        case rest =>
          rename World => wc_1
          obtain ⟨A9, c9, rfl, HY⟩ := hcut
          obtain ⟨tS, htS⟩ : ∃ t, H.tree (l ++ [d]) = t := ⟨_, rfl⟩
          have HTSS := Lib.hid htS
          clear htS
          have hle : ∀ e ∈ l ++ [d], e.length = 32 := fun e he => by
            rcases List.mem_append.1 he with he | he
            · exact (HLA.out W (Below.refl _ _)).1 e he
            · rw [List.mem_singleton.1 he]; exact hdl
          have hc9 : i + 1 ≤ c9 := by
            obtain ⟨a', c', e, h, _⟩ := owns_digs HY.out.1 hle
            cases e
            exact h
          have hl1 : (l ++ [d]).length = i + 1 := by rw [List.length_append, hll]; rfl
          have HX2 : Hid (∀ V, Below wc.heap.size wc V → KT V ∧ Dig V g7 tL ∧ Dig V g8 tR ∧ Below W.heap.size W V) := Lib.hid (fun V hV => ⟨HKT.out V (HX.out.1.trans (hV.mono HX.out.1.size)), HX.out.2.1.kept hV HX.out.2.1.lt, HX.out.2.2.kept hV HX.out.2.2.lt, HX.out.1.trans (hV.mono HX.out.1.size)⟩)
          have HAT : Hid (DigsAt wc_1 A9 (l ++ [d])) := Lib.hid (by
            obtain ⟨a', c', e, _, h⟩ := owns_digs HY.out.1 hle
            cases e
            exact h)
          have HPATH : Hid (Calls Tryd.prog 10 #[.slice A9 (i + 1) c9, .int .i64 (i : Int)] wc_1 fun e w' => ∃ g10 c10 : Nat, e = .returned (.tuple #[.slice (some ⟨g10, 0, none⟩) 1 c10, .int .i64 0]) ∧ Hid (w'.rangeAt g10 0 (bytes tL) ∧ g10 < w'.heap.size ∧ Below wc_1.heap.size wc_1 w')) := Lib.hid (by
            refine (path_all A9 (i + 1) c9 i (l ++ [d]) wc_1 (HX2.out _ HY.out.2).1 hl1 hc9 (by omega) (by omega) HAT.out).mono ?_
            rintro e w' ⟨A, p, c, rfl, hp, ho, hb⟩
            rw [HNS.out] at hp ho
            obtain rfl : p = 1 := by simpa using hp.symm
            rcases ho.2 with ⟨e, _⟩ | ⟨g, cap', cur, e, _, hgb, _⟩
            · simp at e
            · cases e
              refine ⟨g, c, rfl, Lib.hid ⟨fun j v hj => ?_, (Array.getElem?_eq_some_iff.1 hgb).1, hb⟩⟩
              have hc := ho.cells (g := g) rfl j v (by simpa using hj)
              rw [Nat.zero_add]
              by_cases hj0 : j = 0
              · subst hj0; simpa [Addr.add] using hc
              · simpa [Addr.add, hj0] using hc)
          go_wp2_with fail
          refine HPATH.out.mono ?_
          rintro e wd ⟨g10, c10, rfl, HPD⟩
          clear HPATH
          have hdw : Below wc.heap.size wc wd := HY.out.2.trans (HPD.out.2.2.mono HY.out.2.size)
          have HTS : Hid (∀ V, Below wd.heap.size wd V → Calls Tryd.prog 8 #[.slice A9 (i + 1) c9] V fun e w' => e = .returned (.agg (byts tS)) ∧ Hid (Below V.heap.size V w')) := Lib.hid (fun V hV => by
            refine (tree_all (i + 1) A9 (i + 1) c9 (l ++ [d]) V (Nat.le_refl _) (HX2.out V (hdw.trans (hV.mono hdw.size))).1 hl1 hc9 (by omega) ((HAT.out.kept HPD.out.2.2).kept hV)).mono ?_
            rintro e w' ⟨rfl, hb⟩
            exact ⟨by rw [HTSS.out], Lib.hid hb⟩)
          have HTAG : Hid (∀ V A c, Below wd.heap.size wd V → V.ownsRow wd.heap.size 5 1 (.slice A (0 + 32 + 32) c) (0 + 32 + 32) (bytes (([] ++ tL) ++ tR)) → Calls Tryd.prog 15 #[.string ⟨#[110, 111, 100, 101]⟩, .slice A (0 + 32 + 32) c] V fun e w' => e = .returned (.agg (byts tS)) ∧ Hid (Below wd.heap.size wd w')) := Lib.hid (fun V A c hV ho => by
            obtain ⟨hc, hby⟩ := owns_slice ho
            refine (tagged_any ⟨#[110, 111, 100, 101]⟩ A (0 + 32 + 32) c (([] ++ tL) ++ tR) V (HX2.out V (hdw.trans (hV.mono hdw.size))).1 (by decide) (by simp [htl, htr]) (by decide) hby).mono ?_
            rintro e w' ⟨rfl, hb⟩
            exact ⟨by rw [← HTSS.out, HNT.out]; rfl, Lib.hid (hV.trans (hb.mono hV.size))⟩)
          have HW7 : Hid (∀ V, Below wd.heap.size wd V → Dig V g7 tL) := Lib.hid (fun V hV => (HX2.out V (hdw.trans (hV.mono hdw.size))).2.1)
          have HW8 : Hid (∀ V, Below wd.heap.size wd V → Dig V g8 tR) := Lib.hid (fun V hV => (HX2.out V (hdw.trans (hV.mono hdw.size))).2.2.1)
          have HP10 : Hid (∀ V, Below wd.heap.size wd V → V.rangeAt g10 0 (bytes tL)) := Lib.hid (fun V hV => range_kept HPD.out.1 HPD.out.2.1 hV)
          have HWD : Hid (Below W.heap.size W wd) := Lib.hid (HX2.out wd hdw).2.2.2
          have hlS : tS.length = 32 := by rw [← HTSS.out]; exact H.tree_len _
          have hqS : ∀ W, (Op.equalIn 10000 24 (.agg (byts tS)) (.agg (byts tS))).run Tryd.prog W = .ok true W := run_eq_same tS hlS
          have hqL : ∀ W, (Op.equalIn 10000 24 (.agg (bytes tL).toArray) (.agg (bytes tL).toArray)).run Tryd.prog W = .ok true W := by rw [bytes_toArray]; exact run_eq_same tL htl
          have heg : Tryd.prog.eqGuardType Tryd.prog.depth 24 = false := by kernel_rfl
          have HPW := HI
          clear HLA HD3 HKT HX HY HX2 HAT HPD hdw HDS HK HNT HNS HTSS HTL HTR HL HD HG3 HI hle hc9 hl1 hlS
          go_upto_region 10 with (fail)
          refine wp_region_held_drew (S := fun V => Below wd.heap.size wd V) (by kernel_rfl) (drew_below wd) (fun hHeld => ?_)
          -- region 10
          refine wpAnyH_put 0 43 (v := ?_) rfl rfl (by kernel_rfl) (by kernel_rfl) (by kernel_rfl) (fun _ _ _ h => h) (Or.inl ⟨by rfl, ?_⟩) hHeld ?_
          rotate_left
          · intro W' _
            first
              | (go_simp; with_reducible rfl)
              | (simp [Act.eval, hqS, hqL, heg, go_sem]; with_reducible rfl)
          (try simp only [Act.put, List.setIfInBounds_toArray, List.set_cons_zero, List.set_cons_succ])
          refine wpAnyH_put 3 46 (v := ?_) rfl rfl (by kernel_rfl) (by kernel_rfl) (by kernel_rfl) (fun _ _ _ h => h) (Or.inl ⟨by rfl, ?_⟩) hHeld ?_
          rotate_left
          · intro W' _
            have h := array_all g7 W'
            first
              | (go_simp; with_reducible rfl)
              | (simp [Act.eval, h, go_sem]; with_reducible rfl)
          (try simp only [Act.put, List.setIfInBounds_toArray, List.set_cons_zero, List.set_cons_succ])
          refine wpAnyH_put 5 48 (v := ?_) rfl rfl (by kernel_rfl) (by kernel_rfl) (by kernel_rfl) (fun _ _ _ h => h) (Or.inl ⟨by rfl, ?_⟩) hHeld ?_
          rotate_left
          · intro W' _
            have h := array_all g8 W'
            first
              | (go_simp; with_reducible rfl)
              | (simp [Act.eval, h, go_sem]; with_reducible rfl)
          (try simp only [Act.put, List.setIfInBounds_toArray, List.set_cons_zero, List.set_cons_succ])
          refine wpAnyH_ready (rs := [1, 2]) (by kernel_rfl) (by simp) ?_
          refine AllReadyH.cons rfl (fun K hK => ?_) (AllReadyH.cons rfl (fun K hK => ?_) AllReadyH.nil)
          · -- operation 1
            go_simp
            refine (HTS.out _ hHeld).mono ?_
            rintro e v1 ⟨rfl, HN⟩
            have hN := hHeld.trans (HN.out.mono hHeld.size)
            clear HN hHeld
            refine hK.out _ _ hN (fun hHeld => ?_)
            clear hK K hN
            (try simp only [Act.put, List.setIfInBounds_toArray, List.set_cons_zero, List.set_cons_succ])
            refine wpAnyH_ready (rs := [2]) (by kernel_rfl) (by simp) ?_
            refine AllReadyH.cons rfl (fun K hK => ?_) AllReadyH.nil
            refine step_nobytes (some 45) rfl rfl rfl ?_
            intro v2 ho hb
            have HE := Lib.hid (ho _ hHeld.size)
            have hN := hHeld.trans (hb.mono hHeld.size)
            clear ho hb hHeld
            refine hK.out _ _ hN (fun hHeld => ?_)
            clear hK K hN
            (try simp only [Act.put, List.setIfInBounds_toArray, List.set_cons_zero, List.set_cons_succ])
            refine wpAnyH_ready (rs := [4]) (by kernel_rfl) (by simp) ?_
            refine AllReadyH.cons rfl (fun K hK => ?_) AllReadyH.nil
            refine step_catw (some 47) rfl (by rfl) _ _ (by rfl) wd.heap.size _ 0 [] (by rfl) HE.out (some ⟨g7, 0, none⟩) 32 32 tL (by rfl) htl (HW7.out _ hHeld).bytes (by decide) hHeld.size ?_
            intro A3 c3 w3 ho3 hk3
            have hN := hHeld.trans (hk3.below hHeld.size)
            have HF := Lib.hid ho3
            clear ho3 hk3 HE hHeld
            refine hK.out _ _ hN (fun hHeld => ?_)
            clear hK K hN
            (try simp only [Act.put, List.setIfInBounds_toArray, List.set_cons_zero, List.set_cons_succ])
            refine wpAnyH_ready (rs := [6]) (by kernel_rfl) (by simp) ?_
            refine AllReadyH.cons rfl (fun K hK => ?_) AllReadyH.nil
            refine step_catw (some 49) rfl (by rfl) _ _ (by rfl) wd.heap.size _ (0 + 32) ([] ++ tL) (by rfl) HF.out (some ⟨g8, 0, none⟩) 32 32 tR (by rfl) htr (HW8.out _ hHeld).bytes (by decide) hHeld.size ?_
            intro A4 c4 w4 ho4 hk4
            have hN := hHeld.trans (hk4.below hHeld.size)
            have HG := Lib.hid ho4
            clear ho4 hk4 HF hHeld
            refine hK.out _ _ hN (fun hHeld => ?_)
            clear hK K hN
            (try simp only [Act.put, List.setIfInBounds_toArray, List.set_cons_zero, List.set_cons_succ])
            refine wpAnyH_ready (rs := [7]) (by kernel_rfl) (by simp) ?_
            refine AllReadyH.cons rfl (fun K hK => ?_) AllReadyH.nil
            go_simp
            refine (HTAG.out _ _ _ hHeld HG.out).mono ?_
            rintro e w5 ⟨rfl, HN⟩
            have hN := HN.out
            clear HN HG hHeld
            refine hK.out _ _ hN (fun hHeld => ?_)
            clear hK K hN
            (try simp only [Act.put, List.setIfInBounds_toArray, List.set_cons_zero, List.set_cons_succ])
            refine wpAnyH_put 8 51 (v := ?_) rfl rfl (by kernel_rfl) (by kernel_rfl) (by kernel_rfl) (fun _ _ _ h => h) (Or.inl ⟨by rfl, ?_⟩) hHeld ?_
            rotate_left
            · intro W' _
              first
                | (go_simp; with_reducible rfl)
                | (simp [Act.eval, hqS, hqL, heg, go_sem]; with_reducible rfl)
            (try simp only [Act.put, List.setIfInBounds_toArray, List.set_cons_zero, List.set_cons_succ])
            refine wpAnyH_put 9 52 (v := ?_) rfl rfl (by kernel_rfl) (by kernel_rfl) (by kernel_rfl) (fun _ _ _ h => h) (Or.inl ⟨by rfl, ?_⟩) hHeld ?_
            rotate_left
            · intro W' _
              first
                | (go_simp; with_reducible rfl)
                | (simp [Act.eval, hqS, hqL, heg, go_sem]; with_reducible rfl)
            (try simp only [Act.put, List.setIfInBounds_toArray, List.set_cons_zero, List.set_cons_succ])
            refine wpAnyH_put 10 53 (v := ?_) rfl rfl (by kernel_rfl) (by kernel_rfl) (by kernel_rfl) (fun _ _ _ h => h) (Or.inl ⟨by rfl, ?_⟩) hHeld ?_
            rotate_left
            · intro W' _
              first
                | (go_simp; with_reducible rfl)
                | (simp [Act.eval, hqS, hqL, heg, go_sem]; with_reducible rfl)
            (try simp only [Act.put, List.setIfInBounds_toArray, List.set_cons_zero, List.set_cons_succ])
            refine wpAnyH_put 11 54 (v := ?_) rfl rfl (by kernel_rfl) (by kernel_rfl) (by kernel_rfl) (fun _ _ _ h => h) (Or.inl ⟨by rfl, ?_⟩) hHeld ?_
            rotate_left
            · intro W' _
              first
                | (go_simp; with_reducible rfl)
                | (simp [Act.eval, hqS, hqL, heg, go_sem]; with_reducible rfl)
            (try simp only [Act.put, List.setIfInBounds_toArray, List.set_cons_zero, List.set_cons_succ])
            refine wpAnyH_put 12 55 (v := ?_) rfl rfl (by kernel_rfl) (by kernel_rfl) (by kernel_rfl) (fun _ _ _ h => h) (Or.inl ⟨by rfl, ?_⟩) hHeld ?_
            rotate_left
            · intro W' _
              first
                | (go_simp; with_reducible rfl)
                | (simp [Act.eval, hqS, hqL, heg, go_sem]; with_reducible rfl)
            (try simp only [Act.put, List.setIfInBounds_toArray, List.set_cons_zero, List.set_cons_succ])
            refine wpAnyH_put 13 56 (v := ?_) rfl rfl (by kernel_rfl) (by kernel_rfl) (by kernel_rfl) (fun _ _ _ h => h) (Or.inl ⟨by rfl, ?_⟩) hHeld ?_
            rotate_left
            · intro W' _
              first
                | (go_simp; with_reducible rfl)
                | (simp [Act.eval, hqS, hqL, heg, go_sem]; with_reducible rfl)
            (try simp only [Act.put, List.setIfInBounds_toArray, List.set_cons_zero, List.set_cons_succ])
            refine wpAnyH_put 14 57 (v := ?_) rfl rfl (by kernel_rfl) (by kernel_rfl) (by kernel_rfl) (fun _ _ _ h => h) (Or.inl ⟨by rfl, ?_⟩) hHeld ?_
            rotate_left
            · intro W' _
              first
                | (go_simp; with_reducible rfl)
                | (simp [Act.eval, hqS, hqL, heg, go_sem]; with_reducible rfl)
            (try simp only [Act.put, List.setIfInBounds_toArray, List.set_cons_zero, List.set_cons_succ])
            refine wpAnyH_put 15 58 (v := ?_) rfl rfl (by kernel_rfl) (by kernel_rfl) (by kernel_rfl) (fun _ _ _ h => h) (Or.inl ⟨by rfl, ?_⟩) hHeld ?_
            rotate_left
            · intro W' _
              first
                | (go_simp; with_reducible rfl)
                | (simp [Act.eval, hqS, hqL, heg, go_sem]; with_reducible rfl)
            (try simp only [Act.put, List.setIfInBounds_toArray, List.set_cons_zero, List.set_cons_succ])
            refine wpAnyH_put 16 59 (v := ?_) rfl rfl (by kernel_rfl) (by kernel_rfl) (by kernel_rfl) (fun _ _ _ h => h) (Or.inl ⟨by rfl, ?_⟩) hHeld ?_
            rotate_left
            · intro W' _
              first
                | (go_simp; with_reducible rfl)
                | (simp [Act.eval, hqS, hqL, heg, go_sem]; with_reducible rfl)
            (try simp only [Act.put, List.setIfInBounds_toArray, List.set_cons_zero, List.set_cons_succ])
            refine wpAnyH_put 17 60 (v := ?_) rfl rfl (by kernel_rfl) (by kernel_rfl) (by kernel_rfl) (fun _ _ _ h => h) (Or.inl ⟨by rfl, ?_⟩) hHeld ?_
            rotate_left
            · intro W' _
              first
                | (go_simp; with_reducible rfl)
                | (simp [Act.eval, hqS, hqL, heg, go_sem]; with_reducible rfl)
            (try simp only [Act.put, List.setIfInBounds_toArray, List.set_cons_zero, List.set_cons_succ])
            refine wpAnyH_put 18 61 (v := ?_) rfl rfl (by kernel_rfl) (by kernel_rfl) (by kernel_rfl) (fun _ _ _ h => h) (Or.inl ⟨by rfl, ?_⟩) hHeld ?_
            rotate_left
            · intro W' _
              first
                | (go_simp; with_reducible rfl)
                | (simp [Act.eval, hqS, hqL, heg, go_sem]; with_reducible rfl)
            (try simp only [Act.put, List.setIfInBounds_toArray, List.set_cons_zero, List.set_cons_succ])
            refine wpAnyH_put 19 62 (v := ?_) rfl rfl (by kernel_rfl) (by kernel_rfl) (by kernel_rfl) (fun _ _ _ h => h) (Or.inl ⟨by rfl, ?_⟩) hHeld ?_
            rotate_left
            · intro W' _
              first
                | (go_simp; with_reducible rfl)
                | (simp [Act.eval, hqS, hqL, heg, go_sem]; with_reducible rfl)
            (try simp only [Act.put, List.setIfInBounds_toArray, List.set_cons_zero, List.set_cons_succ])
            refine wpAnyH_put 20 63 (v := ?_) rfl rfl (by kernel_rfl) (by kernel_rfl) (by kernel_rfl) (fun _ _ _ h => h) (Or.inl ⟨by rfl, ?_⟩) hHeld ?_
            rotate_left
            · intro W' _
              have h := index_zero g10 c10 W'
              first
                | (go_simp; with_reducible rfl)
                | (simp [Act.eval, h, go_sem]; with_reducible rfl)
            (try simp only [Act.put, List.setIfInBounds_toArray, List.set_cons_zero, List.set_cons_succ])
            refine wpAnyH_put 21 64 rfl rfl (by kernel_rfl) (by kernel_rfl) (by kernel_rfl) (fun _ _ _ h => h) (yieldsIf_load_mid (by rfl) 24 (.tmp 63) rfl g10 0 (by rfl) (bytes tL) _ (fun V hV => HP10.out V hV) Tryd.underlying24 rfl (ind32 htl)) hHeld ?_
            (try simp only [Act.put, List.setIfInBounds_toArray, List.set_cons_zero, List.set_cons_succ])
            refine wpAnyH_put 22 65 rfl rfl (by kernel_rfl) (by kernel_rfl) (by kernel_rfl) (fun _ _ _ h => h) (yieldsIf_load_mid (by rfl) 24 (.tmp 7) rfl g7 0 (by rfl) (bytes tL) _ (fun V hV => dig_range (HW7.out V hV)) Tryd.underlying24 rfl (ind32 htl)) hHeld ?_
            (try simp only [Act.put, List.setIfInBounds_toArray, List.set_cons_zero, List.set_cons_succ])
            refine wpAnyH_put 23 66 (v := ?_) rfl rfl (by kernel_rfl) (by kernel_rfl) (by kernel_rfl) (fun _ _ _ h => h) (Or.inl ⟨by rfl, ?_⟩) hHeld ?_
            rotate_left
            · intro W' _
              first
                | (go_simp; with_reducible rfl)
                | (simp [Act.eval, hqS, hqL, heg, go_sem]; with_reducible rfl)
            (try simp only [Act.put, List.setIfInBounds_toArray, List.set_cons_zero, List.set_cons_succ])
            refine wpAnyH_put 24 67 (v := ?_) rfl rfl (by kernel_rfl) (by kernel_rfl) (by kernel_rfl) (fun _ _ _ h => h) (Or.inl ⟨by rfl, ?_⟩) hHeld ?_
            rotate_left
            · intro W' _
              first
                | (go_simp; with_reducible rfl)
                | (simp [Act.eval, hqS, hqL, heg, go_sem]; with_reducible rfl)
            (try simp only [Act.put, List.setIfInBounds_toArray, List.set_cons_zero, List.set_cons_succ])
            refine wpAnyH_done (by kernel_rfl) ?_ _
            have HEND := Lib.hid (HWD.out.trans (hHeld.mono HWD.out.size))
            clear hHeld hqS hqL heg HW7 HW8 HP10 HTS HTAG
            go_wp2_with fail
            go_roundw
            case rel => exact ⟨k + 1, by omega, by rw [← HPW.out]; rfl, HEND⟩
            case measure => simp [intOf]; omega
          · -- operation 2
            refine step_nobytes (some 45) rfl rfl rfl ?_
            intro v2 ho hb
            have HE := Lib.hid (ho _ hHeld.size)
            have hN := hHeld.trans (hb.mono hHeld.size)
            clear ho hb hHeld
            refine hK.out _ _ hN (fun hHeld => ?_)
            clear hK K hN
            (try simp only [Act.put, List.setIfInBounds_toArray, List.set_cons_zero, List.set_cons_succ])
            refine wpAnyH_ready (rs := [1]) (by kernel_rfl) (by simp) ?_
            refine AllReadyH.cons rfl (fun K hK => ?_) AllReadyH.nil
            go_simp
            refine (HTS.out _ hHeld).mono ?_
            rintro e v1 ⟨rfl, HN⟩
            have hN := hHeld.trans (HN.out.mono hHeld.size)
            have HE := Lib.hid (owns_kept HE.out HN.out)
            clear HN hHeld
            refine hK.out _ _ hN (fun hHeld => ?_)
            clear hK K hN
            (try simp only [Act.put, List.setIfInBounds_toArray, List.set_cons_zero, List.set_cons_succ])
            refine wpAnyH_ready (rs := [4]) (by kernel_rfl) (by simp) ?_
            refine AllReadyH.cons rfl (fun K hK => ?_) AllReadyH.nil
            refine step_catw (some 47) rfl (by rfl) _ _ (by rfl) wd.heap.size _ 0 [] (by rfl) HE.out (some ⟨g7, 0, none⟩) 32 32 tL (by rfl) htl (HW7.out _ hHeld).bytes (by decide) hHeld.size ?_
            intro A3 c3 w3 ho3 hk3
            have hN := hHeld.trans (hk3.below hHeld.size)
            have HF := Lib.hid ho3
            clear ho3 hk3 HE hHeld
            refine hK.out _ _ hN (fun hHeld => ?_)
            clear hK K hN
            (try simp only [Act.put, List.setIfInBounds_toArray, List.set_cons_zero, List.set_cons_succ])
            refine wpAnyH_ready (rs := [6]) (by kernel_rfl) (by simp) ?_
            refine AllReadyH.cons rfl (fun K hK => ?_) AllReadyH.nil
            refine step_catw (some 49) rfl (by rfl) _ _ (by rfl) wd.heap.size _ (0 + 32) ([] ++ tL) (by rfl) HF.out (some ⟨g8, 0, none⟩) 32 32 tR (by rfl) htr (HW8.out _ hHeld).bytes (by decide) hHeld.size ?_
            intro A4 c4 w4 ho4 hk4
            have hN := hHeld.trans (hk4.below hHeld.size)
            have HG := Lib.hid ho4
            clear ho4 hk4 HF hHeld
            refine hK.out _ _ hN (fun hHeld => ?_)
            clear hK K hN
            (try simp only [Act.put, List.setIfInBounds_toArray, List.set_cons_zero, List.set_cons_succ])
            refine wpAnyH_ready (rs := [7]) (by kernel_rfl) (by simp) ?_
            refine AllReadyH.cons rfl (fun K hK => ?_) AllReadyH.nil
            go_simp
            refine (HTAG.out _ _ _ hHeld HG.out).mono ?_
            rintro e w5 ⟨rfl, HN⟩
            have hN := HN.out
            clear HN HG hHeld
            refine hK.out _ _ hN (fun hHeld => ?_)
            clear hK K hN
            (try simp only [Act.put, List.setIfInBounds_toArray, List.set_cons_zero, List.set_cons_succ])
            refine wpAnyH_put 8 51 (v := ?_) rfl rfl (by kernel_rfl) (by kernel_rfl) (by kernel_rfl) (fun _ _ _ h => h) (Or.inl ⟨by rfl, ?_⟩) hHeld ?_
            rotate_left
            · intro W' _
              first
                | (go_simp; with_reducible rfl)
                | (simp [Act.eval, hqS, hqL, heg, go_sem]; with_reducible rfl)
            (try simp only [Act.put, List.setIfInBounds_toArray, List.set_cons_zero, List.set_cons_succ])
            refine wpAnyH_put 9 52 (v := ?_) rfl rfl (by kernel_rfl) (by kernel_rfl) (by kernel_rfl) (fun _ _ _ h => h) (Or.inl ⟨by rfl, ?_⟩) hHeld ?_
            rotate_left
            · intro W' _
              first
                | (go_simp; with_reducible rfl)
                | (simp [Act.eval, hqS, hqL, heg, go_sem]; with_reducible rfl)
            (try simp only [Act.put, List.setIfInBounds_toArray, List.set_cons_zero, List.set_cons_succ])
            refine wpAnyH_put 10 53 (v := ?_) rfl rfl (by kernel_rfl) (by kernel_rfl) (by kernel_rfl) (fun _ _ _ h => h) (Or.inl ⟨by rfl, ?_⟩) hHeld ?_
            rotate_left
            · intro W' _
              first
                | (go_simp; with_reducible rfl)
                | (simp [Act.eval, hqS, hqL, heg, go_sem]; with_reducible rfl)
            (try simp only [Act.put, List.setIfInBounds_toArray, List.set_cons_zero, List.set_cons_succ])
            refine wpAnyH_put 11 54 (v := ?_) rfl rfl (by kernel_rfl) (by kernel_rfl) (by kernel_rfl) (fun _ _ _ h => h) (Or.inl ⟨by rfl, ?_⟩) hHeld ?_
            rotate_left
            · intro W' _
              first
                | (go_simp; with_reducible rfl)
                | (simp [Act.eval, hqS, hqL, heg, go_sem]; with_reducible rfl)
            (try simp only [Act.put, List.setIfInBounds_toArray, List.set_cons_zero, List.set_cons_succ])
            refine wpAnyH_put 12 55 (v := ?_) rfl rfl (by kernel_rfl) (by kernel_rfl) (by kernel_rfl) (fun _ _ _ h => h) (Or.inl ⟨by rfl, ?_⟩) hHeld ?_
            rotate_left
            · intro W' _
              first
                | (go_simp; with_reducible rfl)
                | (simp [Act.eval, hqS, hqL, heg, go_sem]; with_reducible rfl)
            (try simp only [Act.put, List.setIfInBounds_toArray, List.set_cons_zero, List.set_cons_succ])
            refine wpAnyH_put 13 56 (v := ?_) rfl rfl (by kernel_rfl) (by kernel_rfl) (by kernel_rfl) (fun _ _ _ h => h) (Or.inl ⟨by rfl, ?_⟩) hHeld ?_
            rotate_left
            · intro W' _
              first
                | (go_simp; with_reducible rfl)
                | (simp [Act.eval, hqS, hqL, heg, go_sem]; with_reducible rfl)
            (try simp only [Act.put, List.setIfInBounds_toArray, List.set_cons_zero, List.set_cons_succ])
            refine wpAnyH_put 14 57 (v := ?_) rfl rfl (by kernel_rfl) (by kernel_rfl) (by kernel_rfl) (fun _ _ _ h => h) (Or.inl ⟨by rfl, ?_⟩) hHeld ?_
            rotate_left
            · intro W' _
              first
                | (go_simp; with_reducible rfl)
                | (simp [Act.eval, hqS, hqL, heg, go_sem]; with_reducible rfl)
            (try simp only [Act.put, List.setIfInBounds_toArray, List.set_cons_zero, List.set_cons_succ])
            refine wpAnyH_put 15 58 (v := ?_) rfl rfl (by kernel_rfl) (by kernel_rfl) (by kernel_rfl) (fun _ _ _ h => h) (Or.inl ⟨by rfl, ?_⟩) hHeld ?_
            rotate_left
            · intro W' _
              first
                | (go_simp; with_reducible rfl)
                | (simp [Act.eval, hqS, hqL, heg, go_sem]; with_reducible rfl)
            (try simp only [Act.put, List.setIfInBounds_toArray, List.set_cons_zero, List.set_cons_succ])
            refine wpAnyH_put 16 59 (v := ?_) rfl rfl (by kernel_rfl) (by kernel_rfl) (by kernel_rfl) (fun _ _ _ h => h) (Or.inl ⟨by rfl, ?_⟩) hHeld ?_
            rotate_left
            · intro W' _
              first
                | (go_simp; with_reducible rfl)
                | (simp [Act.eval, hqS, hqL, heg, go_sem]; with_reducible rfl)
            (try simp only [Act.put, List.setIfInBounds_toArray, List.set_cons_zero, List.set_cons_succ])
            refine wpAnyH_put 17 60 (v := ?_) rfl rfl (by kernel_rfl) (by kernel_rfl) (by kernel_rfl) (fun _ _ _ h => h) (Or.inl ⟨by rfl, ?_⟩) hHeld ?_
            rotate_left
            · intro W' _
              first
                | (go_simp; with_reducible rfl)
                | (simp [Act.eval, hqS, hqL, heg, go_sem]; with_reducible rfl)
            (try simp only [Act.put, List.setIfInBounds_toArray, List.set_cons_zero, List.set_cons_succ])
            refine wpAnyH_put 18 61 (v := ?_) rfl rfl (by kernel_rfl) (by kernel_rfl) (by kernel_rfl) (fun _ _ _ h => h) (Or.inl ⟨by rfl, ?_⟩) hHeld ?_
            rotate_left
            · intro W' _
              first
                | (go_simp; with_reducible rfl)
                | (simp [Act.eval, hqS, hqL, heg, go_sem]; with_reducible rfl)
            (try simp only [Act.put, List.setIfInBounds_toArray, List.set_cons_zero, List.set_cons_succ])
            refine wpAnyH_put 19 62 (v := ?_) rfl rfl (by kernel_rfl) (by kernel_rfl) (by kernel_rfl) (fun _ _ _ h => h) (Or.inl ⟨by rfl, ?_⟩) hHeld ?_
            rotate_left
            · intro W' _
              first
                | (go_simp; with_reducible rfl)
                | (simp [Act.eval, hqS, hqL, heg, go_sem]; with_reducible rfl)
            (try simp only [Act.put, List.setIfInBounds_toArray, List.set_cons_zero, List.set_cons_succ])
            refine wpAnyH_put 20 63 (v := ?_) rfl rfl (by kernel_rfl) (by kernel_rfl) (by kernel_rfl) (fun _ _ _ h => h) (Or.inl ⟨by rfl, ?_⟩) hHeld ?_
            rotate_left
            · intro W' _
              have h := index_zero g10 c10 W'
              first
                | (go_simp; with_reducible rfl)
                | (simp [Act.eval, h, go_sem]; with_reducible rfl)
            (try simp only [Act.put, List.setIfInBounds_toArray, List.set_cons_zero, List.set_cons_succ])
            refine wpAnyH_put 21 64 rfl rfl (by kernel_rfl) (by kernel_rfl) (by kernel_rfl) (fun _ _ _ h => h) (yieldsIf_load_mid (by rfl) 24 (.tmp 63) rfl g10 0 (by rfl) (bytes tL) _ (fun V hV => HP10.out V hV) Tryd.underlying24 rfl (ind32 htl)) hHeld ?_
            (try simp only [Act.put, List.setIfInBounds_toArray, List.set_cons_zero, List.set_cons_succ])
            refine wpAnyH_put 22 65 rfl rfl (by kernel_rfl) (by kernel_rfl) (by kernel_rfl) (fun _ _ _ h => h) (yieldsIf_load_mid (by rfl) 24 (.tmp 7) rfl g7 0 (by rfl) (bytes tL) _ (fun V hV => dig_range (HW7.out V hV)) Tryd.underlying24 rfl (ind32 htl)) hHeld ?_
            (try simp only [Act.put, List.setIfInBounds_toArray, List.set_cons_zero, List.set_cons_succ])
            refine wpAnyH_put 23 66 (v := ?_) rfl rfl (by kernel_rfl) (by kernel_rfl) (by kernel_rfl) (fun _ _ _ h => h) (Or.inl ⟨by rfl, ?_⟩) hHeld ?_
            rotate_left
            · intro W' _
              first
                | (go_simp; with_reducible rfl)
                | (simp [Act.eval, hqS, hqL, heg, go_sem]; with_reducible rfl)
            (try simp only [Act.put, List.setIfInBounds_toArray, List.set_cons_zero, List.set_cons_succ])
            refine wpAnyH_put 24 67 (v := ?_) rfl rfl (by kernel_rfl) (by kernel_rfl) (by kernel_rfl) (fun _ _ _ h => h) (Or.inl ⟨by rfl, ?_⟩) hHeld ?_
            rotate_left
            · intro W' _
              first
                | (go_simp; with_reducible rfl)
                | (simp [Act.eval, hqS, hqL, heg, go_sem]; with_reducible rfl)
            (try simp only [Act.put, List.setIfInBounds_toArray, List.set_cons_zero, List.set_cons_succ])
            refine wpAnyH_done (by kernel_rfl) ?_ _
            have HEND := Lib.hid (HWD.out.trans (hHeld.mono HWD.out.size))
            clear hHeld hqS hqL heg HW7 HW8 HP10 HTS HTAG
            go_wp2_with fail
            go_roundw
            case rel => exact ⟨k + 1, by omega, by rw [← HPW.out]; rfl, HEND⟩
            case measure => simp [intOf]; omega
          -- end 10
    · go_wp2_with fail
      go_ret
      exact ⟨rfl, HDS.out.2.2.2.trans (HR.out.mono HDS.out.2.2.2.size)⟩

end Go.Proofs.YthamligdmfhmeaaDoor
