/- Contract of the reference's Sum. -/
import Derived.Test.YthamligdmfhmeaaDoorRBlock
import Derived.Test.YthamligdmfhmeaaDoorRPad
import Derived.Test.YthamligdmfhmeaaDoorClimbs
namespace Go.Proofs.YthamligdmfhmeaaDoor
open Go.RowKit

theorem words_range {W : World} {g : Nat} {l : List Nat} {t : TypeId} (h : W.heap[g]? = some (.cells (words l) t (0, 0))) : W.rangeAt g 0 (words l).toList := by
  intro j v hv
  rw [Nat.zero_add, cell_of_row _ _ _ _ _ _ h]
  simpa using hv
theorem words_there {W : World} {g n : Nat} {l : List Nat} {t : TypeId} (h : W.heap[g]? = some (.cells (words l) t (0, 0))) (hn : l.length = n) : W.there g 0 n := fun j hj => by
  obtain ⟨c, f⟩ := words_cell h (i := j) (by omega)
  rw [Nat.zero_add]
  exact ⟨by rw [c]; rfl, f⟩
theorem words_put {W : World} {g : Nat} {l k : List Nat} (h : W.heap[g]? = some (.cells (words l) 53 (0, 0))) (hl : l.length = 8) (hk : k.length = 8) : W.setCells g 0 (words k).toList = W.setRow g (words k) := by
  have hs : (Tryd.prog.info? 53).map (·.size) = some (words k).size := by rw [words_size, hk]; kernel_rfl
  have h1 := run_storeVar_row (P := Tryd.prog) W g 53 53 _ (words k) h hs (by rw [words_size, words_size, hl, hk]) (words_one _)
  have h2 := run_storeVar_mid (P := Tryd.prog) W g 0 53 (words k) (words_there h (by rw [words_size, hl, hk])) hs (words_one _)
  have h3 := h2.symm.trans h1
  injection h3
theorem words_cells (l : List Nat) : ∀ v, v ∈ (words l).toList → v.oneCell' = true := by
  intro v hv
  simp only [words, List.mem_map] at hv
  obtain ⟨n, _, rfl⟩ := hv
  rfl
theorem step_load8 {ops : Array Oper} {o : Oper} {a : Act} {K : Act → World → Prop} {Q : Exit → Act → World → Prop} {E : Prop} {w : World} (hgd : o.guard = none) (x : Operand) (ho : o.op = .load 53 x)
    (B off : Nat) (cs : List Value) (hx : a.eval x = .pointer (some ⟨B, off, none⟩)) (hc : w.rangeAt B off cs) (hi : (Tryd.prog.info? 53).map (·.size) = some cs.length) (h : K (a.put o.dst (.agg cs.toArray)) w) :
    if Region.wanted o (yielded ops a.tmps) = true then Oper.wp Tryd.prog o a w K Q else E := by
  have hw : Region.wanted o (yielded ops a.tmps) = true := by simp [Region.wanted, hgd]
  rw [if_pos hw]
  unfold Oper.wp execOp
  simp only [ho, hx, Sem.run_bind, run_loadAt_mid (P := Tryd.prog) w B off 53 cs _ hc Tryd.underlying53 rfl hi, Result.andThen_ok]
  exact h
theorem step_store8 {ops : Array Oper} {o : Oper} {a : Act} {K : Act → World → Prop} {Q : Exit → Act → World → Prop} {E : Prop} {w : World} (hgd : o.guard = none) (x y : Operand) (ho : o.op = .store 53 x y)
    (B : Nat) (cs : Array Value) (hx : a.eval x = .pointer (some ⟨B, 0, none⟩)) (hy : a.eval y = .agg cs) (ht : w.there B 0 cs.size) (hi : (Tryd.prog.info? 53).map (·.size) = some cs.size) (h1 : cs.all (·.oneCell') = true) (h : K (a.put o.dst undef) (w.setCells B 0 cs.toList)) :
    if Region.wanted o (yielded ops a.tmps) = true then Oper.wp Tryd.prog o a w K Q else E := by
  have hw : Region.wanted o (yielded ops a.tmps) = true := by simp [Region.wanted, hgd]
  rw [if_pos hw]
  unfold Oper.wp execOp
  simp only [ho, hx, hy, Sem.run_bind, run_storeAt_mid (P := Tryd.prog) w B 0 53 cs ht hi h1, Result.andThen_ok]
  simpa [go_sem] using h
theorem H.fold_range_snoc (l : List UInt8) (s : H.St) (x : Nat) : H.fold l s (List.range (x + 1)) = (H.fold l s (List.range x)).block (H.chunk l x) := by
  rw [List.range_succ, H.fold_snoc]

set_option maxRecDepth 100000 in
set_option maxHeartbeats 4000000 in
theorem rsum_dig (a : Option Addr) (n cap : Nat) (bs : List UInt8) (w : World) (hn : bs.length = n) (hl : n ≤ 549755813888) (hb : BytesAt w a bs) :
    Calls Tryd.prog 38 #[.slice a n cap] w fun e w' => e = .returned (.agg (byts (H.sum bs))) ∧ Below w.heap.size w w' := by
  have HB := Lib.hid hb; have HN := Lib.hid hn
  clear hb hn
  go_enter Tryd.func38, Tryd.ntmps38
  go_step
  go_step
  refine wp_region_list ?_
  refine wpl_alloc_row rfl 24 rfl (byts (H.outn H.init 0)) (fun _ => by kernel_rfl) ?_
  refine wpList_nil ?_
  rename_i K1 hK1
  refine hK1 _ _ ?_
  clear hK1
  go_simp
  have HD : Hid (Below w.heap.size w (w.alloc (.cells (byts (H.outn H.init 0)) 24)) ∧ (w.alloc (.cells (byts (H.outn H.init 0)) 24)).heap[w.heap.size]? = some (.cells (byts (H.outn H.init 0)) 24 (0, 0)) ∧ (w.alloc (.cells (byts (H.outn H.init 0)) 24)).heap.size = w.heap.size + 1) :=
    Lib.hid ⟨(Below.refl _ _).alloc (Nat.le_refl _) _, heap_alloc_new w _, by simp⟩
  generalize w.alloc (.cells (byts (H.outn H.init 0)) 24) = W0 at HD ⊢
  go_step
  refine wp_region_list ?_
  refine wpl_build8 rfl 53 _ rfl (words H.init.list) (by kernel_rfl) ?_
  refine wpl_alloc_row rfl 53 rfl (words (List.replicate 8 0)) (fun _ => by kernel_rfl) ?_
  refine wpList_store_row rfl 53 _ _ rfl _ (words H.init.list) rfl rfl _ _ (heap_alloc_new _ _) (by kernel_rfl) (by kernel_rfl) (words_one _) ?_
  rw [World.setRow_alloc_new]
  refine wpList_nil ?_
  rename_i K2 hK2
  refine hK2 _ _ ?_
  clear hK2
  go_simp
  rw [HD.out.2.2]
  have HG : Hid (Below w.heap.size w (W0.alloc (.cells (words H.init.list) 53)) ∧ (W0.alloc (.cells (words H.init.list) 53)).heap[w.heap.size]? = some (.cells (byts (H.outn H.init 0)) 24 (0, 0)) ∧
      (W0.alloc (.cells (words H.init.list) 53)).heap[w.heap.size + 1]? = some (.cells (words H.init.list) 53 (0, 0)) ∧ (W0.alloc (.cells (words H.init.list) 53)).heap.size = w.heap.size + 2) := Lib.hid (by
    obtain ⟨h1, h2, h3⟩ := HD.out
    refine ⟨h1.alloc (by omega) _, ?_, ?_, by simp [h3]⟩
    · rw [Below.heap_alloc _ _ _ (by omega)]; exact h2
    · have h := heap_alloc_new W0 (.cells (words H.init.list) 53)
      rw [h3] at h; exact h)
  clear HD
  generalize W0.alloc (.cells (words H.init.list) 53) = W1 at HG ⊢
  go_wp2_with fail
  refine (rpadded_any a n cap bs W1 HN.out hl (HB.out.kept (HG.out.1))).mono ?_
  rintro e w2 ⟨v, rfl, ho, hb2⟩
  rcases ho.2 with ⟨_, h0⟩ | ⟨b0, cap', cur, rfl, hge, hcur, hcc, hcm, hsz, htk⟩
  · exact absurd h0 (by simp [H.pad, H.padn_len])
  have hcell : ∀ i, i < (bs ++ H.pad n).length → w2.cell? ⟨b0, i, none⟩ = some (.int .u8 (H.byte (bs ++ H.pad n) i)) := fun i hi => by
    have h := ho.cells (g := b0) rfl i (.int .u8 ((bs ++ H.pad n)[i].toNat : Nat)) (by simp only [bytes, List.getElem?_map, List.getElem?_eq_getElem hi, Option.map_some])
    have e : (⟨b0, 0, none⟩ : Addr).add i = ⟨b0, i, none⟩ := by unfold Addr.add; split <;> simp_all
    rw [e] at h
    rw [h, H.byte]
    simp only [List.getD_eq_getElem?_getD, List.getElem?_eq_getElem hi, Option.getD_some]
  have hb0 : b0 < w2.heap.size := (Array.getElem?_eq_some_iff.1 hcur).1
  have hmod := H.pad_len n
  have hlen : (bs ++ H.pad n).length = n + (H.pad n).length := by rw [List.length_append, HN.out]
  have hpl : (H.pad n).length ≤ 72 := by rw [H.pad, H.padn_len]; omega
  have hsum : H.sum bs = H.out (H.fold (bs ++ H.pad n) H.init (List.range ((n + (H.pad n).length) / 64))) := by rw [H.sum, HN.out]
  obtain ⟨M, hM⟩ : ∃ M, (n + (H.pad n).length) / 64 = M := ⟨_, rfl⟩
  rw [hM] at hsum
  obtain ⟨m, hm⟩ : ∃ m, (bs ++ H.pad n).length = m := ⟨_, rfl⟩
  have hmM : m = 64 * M := by omega
  have hml : m ≤ 549755813988 := by omega
  rw [hm] at hcell hcc ⊢
  generalize bs ++ H.pad n = full at hcell hsum
  obtain ⟨hw1, hw2, hw3, hw4⟩ := HG.out
  have hbg : b0 ≠ w.heap.size + 1 := by omega
  have HG2 : Hid (Below w.heap.size w w2 ∧ w2.heap[w.heap.size]? = some (.cells (byts (H.outn H.init 0)) 24 (0, 0)) ∧
      w2.heap[w.heap.size + 1]? = some (.cells (words H.init.list) 53 (0, 0)) ∧ w.heap.size + 2 ≤ w2.heap.size) :=
    Lib.hid ⟨hw1.trans (hb2.mono hw1.size), (hb2.block _ (by omega)).trans hw2, (hb2.block _ (by omega)).trans hw3, by have := hb2.size; omega⟩
  have HCE := Lib.hid hcell; have HSU := Lib.hid hsum; have HB0 := Lib.hid hb0; have HBG := Lib.hid hbg; have HMM := Lib.hid hmM; have HML := Lib.hid hml; have HCC := Lib.hid hcc
  clear ho hge hcur hcc hcm hsz htk hcell hb0 hmod hlen hpl hsum hM hm hmM hml hw1 hw2 hw3 hw4 hbg hb2 HG HB
  go_simp
  go_wp2_with fail
  go_loopw [5] (fun ii wr => ∃ x : Nat, x ≤ M ∧ ii = .int .i64 (64 * (x : Int)) ∧ Hid (wr.heap[w.heap.size + 1]? = some (.cells (words (H.fold full H.init (List.range x)).list) 53 (0, 0)) ∧ But (w.heap.size + 1) w2 wr))
    (fun ii _ => m - (intOf ii).toNat)
  case atStart => exact ⟨0, Nat.zero_le _, rfl, Lib.hid ⟨HG2.out.2.2.1, But.refl _ _⟩⟩
  case round =>
    obtain ⟨x, hx, rfl, HR⟩ := hrel
    by_cases hlt : x < M
    · have hlm : (64 * (x : Int)) < (m : Int) := by have := HMM.out; omega
      have hwr : IntKind.i64.wrap (64 * (x : Int) + 64) = 64 * (x : Int) + 64 := by
        have := HMM.out; have := HML.out
        rw [IntKind.wrap_i64]; omega
      have hsl : ∀ W : World, (Instr.slice 22 (.slice (some ⟨b0, 0, none⟩) m cap') (some (.int .i64 (64 * (x : Int)))) (some (.int .i64 (64 * (x : Int) + 64))) none).run Tryd.prog W = .ok (.slice (some ⟨b0, 64 * x, none⟩) 64 (cap' - 64 * x)) W := by
        intro W
        have := HMM.out; have := HCC.out
        rw [run_slice_lh (P := Tryd.prog) (w := W) 22 _ m cap' (by kernel_rfl) .i64 .i64 _ _ (by omega) (by omega) (by omega)]
        have h1 : (sizeOf (Tryd.prog.elem 22)).run Tryd.prog W = .ok 1 W := by kernel_rfl
        have e1 : (64 * (x : Int)).toNat = 64 * x := by omega
        have e2 : (64 * (x : Int) + 64).toNat = 64 * x + 64 := by omega
        rw [h1, e1, e2]
        simp only [Result.andThen, sliced]
        rw [if_neg (by omega)]
        simp [Addr.add]
        try omega
      have hbk : ∀ k, Calls Tryd.prog 46 #[.agg (words (H.fold full H.init (List.range x)).list), .slice (some ⟨b0, 64 * x, none⟩) 64 (cap' - 64 * x)] (wr.drewN k) fun e w' => e = .returned (.agg (words (H.fold full H.init (List.range (x + 1))).list)) ∧ Hid (w'.heap[w.heap.size + 1]? = some (.cells (words (H.fold full H.init (List.range x)).list) 53 (0, 0)) ∧ But (w.heap.size + 1) w2 w') := fun k => by
        have hs1 := HR.out.2.size; have hb0 := HB0.out
        have h := rblock_any (H.fold full H.init (List.range x)) (H.fold_ok _ H.init_ok _) b0 (64 * x) (cap' - 64 * x) (H.chunk full x) (wr.drewN k) (by have := HMM.out; have := HCC.out; omega) (by simp; omega) (fun i hi => by
          rw [H.byte_chunk hi, ← HCE.out _ (by have := HMM.out; omega)]
          exact HR.out.2.cell hb0 HBG.out)
        refine h.mono ?_
        rintro e w' ⟨rfl, hb⟩
        refine ⟨by rw [H.fold_range_snoc], Lib.hid ⟨?_, (HR.out.2.drewN k).trans (But.of_below hb)⟩⟩
        exact (hb.block _ (Array.getElem?_eq_some_iff.1 HR.out.1).1).trans HR.out.1
      obtain ⟨rs, hrs⟩ : ∃ rs, (words (H.fold full H.init (List.range x)).list).toList = rs := ⟨_, rfl⟩
      obtain ⟨ts, hts⟩ : ∃ ts, (words (H.fold full H.init (List.range (x + 1))).list).toList = ts := ⟨_, rfl⟩
      have hra : words (H.fold full H.init (List.range x)).list = rs.toArray := by rw [← hrs]
      have hta : words (H.fold full H.init (List.range (x + 1))).list = ts.toArray := by rw [← hts]
      have hrn : rs.length = 8 := by rw [← hrs, Array.length_toList, words_size, H.list_len]
      have htn : ts.length = 8 := by rw [← hts, Array.length_toList, words_size, H.list_len]
      have hu := Tryd.underlying53
      have hinf : (Tryd.prog.info? 53).map (·.size) = some rs.length := by rw [hrn]; kernel_rfl
      have hint : (Tryd.prog.info? 53).map (·.size) = some ts.length := by rw [htn]; kernel_rfl
      have hto : ∀ v, v ∈ ts → v.oneCell' = true := by rw [← hts]; exact words_cells _
      have hrow : ∀ (W : World), W.heap[w.heap.size + 1]? = some (.cells (words (H.fold full H.init (List.range x)).list) 53 (0, 0)) → W.rangeAt (w.heap.size + 1) 0 rs ∧ W.there (w.heap.size + 1) 0 8 ∧ W.setCells (w.heap.size + 1) 0 ts = W.setRow (w.heap.size + 1) (words (H.fold full H.init (List.range (x + 1))).list) := fun W hW =>
        ⟨by rw [← hrs]; exact words_range hW, words_there hW (H.list_len _), by rw [← hts]; exact words_put hW (H.list_len _) (H.list_len _)⟩
      have HS0 : Hid (wr.drew.rangeAt (w.heap.size + 1) 0 rs ∧ wr.drew.there (w.heap.size + 1) 0 8) := Lib.hid ⟨(hrow _ HR.out.1).1, (hrow _ HR.out.1).2.1⟩
      have HBK : Hid (Calls Tryd.prog 46 #[.agg rs.toArray, .slice (some ⟨b0, 64 * x, none⟩) 64 (cap' - 64 * x)] wr.drew fun e w4 => e = .returned (.agg ts.toArray) ∧ Hid (w4.rangeAt (w.heap.size + 1) 0 rs ∧ w4.there (w.heap.size + 1) 0 8) ∧ Hid ((w4.setCells (w.heap.size + 1) 0 ts).heap[w.heap.size + 1]? = some (.cells (words (H.fold full H.init (List.range (x + 1))).list) 53 (0, 0)) ∧ But (w.heap.size + 1) w2 (w4.setCells (w.heap.size + 1) 0 ts))) := Lib.hid (by
        rw [← hra, ← hta]
        refine (hbk 1).mono ?_
        rintro e w' ⟨rfl, h⟩
        obtain ⟨r1, r2, r3⟩ := hrow _ h.out.1
        refine ⟨rfl, Lib.hid ⟨r1, r2⟩, Lib.hid ?_⟩
        rw [r3]
        refine ⟨setRow_heap _ _ _ _ _ _ h.out.1, ?_⟩
        have hB := h.out.2
        exact ⟨hB.os, hB.tape, hB.output, by rw [setRow_size]; exact hB.size, fun k hk hn => (setRow_other _ _ _ _ hn).trans (hB.block k hk hn)⟩)
      have hint2 : (Tryd.prog.info? 53).map (·.size) = some ts.toArray.size := by simpa using hint
      have hto2 : ts.toArray.all (·.oneCell') = true := by rw [Array.all_eq_true']; simpa using hto
      have hts8 : ts.toArray.size = 8 := by simpa using htn
      have H8 := Lib.hid (And.intro hinf (And.intro hint2 (And.intro hto2 hts8)))
      clear hbk hrow hra hta hrs hts hrn htn hinf hint hint2 hto hto2 hts8 hu
      go_wp2_with fail
      refine Code.wp_mono onlyN ?_
      refine wp_region_any (by kernel_rfl) ?_
      change wpAny _ _ _ _ _ _ _ (World.drew _)
      refine wpAny_take (i := 1) (v := ?_) rfl (by kernel_rfl) (by kernel_rfl) (by kernel_rfl) (fun _ _ _ h => h) (Or.inl ⟨by rfl, ?_⟩) ?_
      rotate_left
      · intro W'; go_simp; with_reducible rfl
      refine wpAny_take (i := 2) (v := ?_) rfl (by kernel_rfl) (by kernel_rfl) (by kernel_rfl) (fun _ _ _ h => h) (Or.inl ⟨by rfl, ?_⟩) ?_
      rotate_left
      · intro W'; go_simp; with_reducible rfl
      refine wpAny_take (i := 3) (v := ?_) rfl (by kernel_rfl) (by kernel_rfl) (by kernel_rfl) (fun _ _ _ h => h) (Or.inl ⟨by rfl, ?_⟩) ?_
      rotate_left
      · intro W'; go_simp; with_reducible rfl
      refine wpAny_take (i := 4) (v := ?_) rfl (by kernel_rfl) (by kernel_rfl) (by kernel_rfl) (fun _ _ _ h => h) (Or.inl ⟨by rfl, ?_⟩) ?_
      rotate_left
      · intro W'; go_simp; with_reducible rfl
      refine wpAny_take (i := 5) (v := ?_) rfl (by kernel_rfl) (by kernel_rfl) (by kernel_rfl) (fun _ _ _ h => h) (Or.inl ⟨by rfl, ?_⟩) ?_
      rotate_left
      · intro W'
        have h := hsl W'
        first
          | (go_simp; with_reducible rfl)
          | (simp [Act.eval, h, go_sem]; with_reducible rfl)
      refine wpAny_ready (rs := [0]) (by kernel_rfl) (by simp) ?_
      refine AllReady.cons rfl (fun K hK => ?_) AllReady.nil
      refine step_load8 rfl _ (by rfl) (w.heap.size + 1) 0 rs (by rfl) HS0.out.1 H8.out.1 ?_
      (try go_simp)
      refine hK _ _ ?_
      clear hK K
      refine wpAny_ready (rs := [6]) (by kernel_rfl) (by simp) ?_
      refine AllReady.cons rfl (fun K hK => ?_) AllReady.nil
      go_simp
      refine HBK.out.mono ?_
      rintro e w4 ⟨rfl, HS1, HF⟩
      refine hK _ _ ?_
      clear hK K
      refine wpAny_ready (rs := [7]) (by kernel_rfl) (by simp) ?_
      refine AllReady.cons rfl (fun K hK => ?_) AllReady.nil
      refine step_store8 rfl (.tmp 3) (.tmp 23) rfl (w.heap.size + 1) ts.toArray rfl rfl ?_ ?_ ?_ ?_
      · rw [H8.out.2.2.2]; exact HS1.out.2
      · exact H8.out.2.1
      · exact H8.out.2.2.1
      (try go_simp)
      refine hK _ _ ?_
      clear hK K
      refine wpAny_done (by kernel_rfl) ?_ _
      simp only [OnlyN]
      generalize w4.setCells (w.heap.size + 1) 0 ts = W6 at HF ⊢
      clear HS1 HS0 HBK hsl
      go_wp2_with fail
      go_roundw
      case rel => exact ⟨x + 1, by omega, by go_num, HF⟩
      case measure => have := HMM.out; simp [intOf]; omega
    · have hxM : x = M := by omega
      have hnl : (m : Int) ≤ 64 * (x : Int) := by have := HMM.out; omega
      have hok := H.fold_ok full H.init_ok (List.range M)
      rw [hxM] at HR
      have hsu := HSU.out
      generalize H.fold full H.init (List.range M) = s at HR hsu hok
      have HOK := Lib.hid (H.list_lt hok); have HSM := Lib.hid hsu
      have HF : Hid (Below w.heap.size w wr ∧ wr.heap[w.heap.size]? = some (.cells (byts (H.outn H.init 0)) 24 (0, 0)) ∧ wr.heap[w.heap.size + 1]? = some (.cells (words s.list) 53 (0, 0)) ∧ w.heap.size + 2 ≤ wr.heap.size) := Lib.hid (by
        obtain ⟨g1, g2, g3, g4⟩ := HG2.out
        have hB := HR.out.2
        exact ⟨g1.trans ((hB.below (n := w.heap.size) (by omega) (by omega))), (hB.block _ (by omega) (by omega)).trans g2, HR.out.1, by have := hB.size; omega⟩)
      clear hsu hok HR HSU HG2 hxM hlt hx HCE HB0 HBG HMM HML HCC
      generalize 64 * (x : Int) = q at hnl ⊢
      have hq : decide (q < (m : Int)) = false := by rw [decide_eq_false_iff_not]; omega
      clear hnl
      go_upto_region 7 with (fail)
      rename_i QL KL aL KK aa
      clear aL KL QL
      refine wp_region_list ?_
      refine wpl_build_none rfl 24 rfl (byts (H.outn s 0)) (by kernel_rfl) ?_
      refine wpl_alloc_row rfl 24 rfl (byts (H.outn s 0)) (fun _ => by kernel_rfl) ?_
      refine wpList_store_row rfl 24 _ _ rfl _ (byts (H.outn s 0)) rfl rfl _ _ (heap_alloc_new _ _) (by kernel_rfl) rfl (byts_one _) ?_
      rw [World.setRow_alloc_new]
      refine wpList_nil ?_
      refine aa _ _ ?_
      clear aa
      go_simp
      have HQ : Hid (Below w.heap.size w (wr.alloc (.cells (byts (H.outn s 0)) 24)) ∧ (wr.alloc (.cells (byts (H.outn s 0)) 24)).heap[w.heap.size]? = some (.cells (byts (H.outn H.init 0)) 24 (0, 0)) ∧ (wr.alloc (.cells (byts (H.outn s 0)) 24)).heap[w.heap.size + 1]? = some (.cells (words s.list) 53 (0, 0)) ∧ (wr.alloc (.cells (byts (H.outn s 0)) 24)).heap[wr.heap.size]? = some (.cells (byts (H.outn s 0)) 24 (0, 0))) := Lib.hid (by
        obtain ⟨g1, g2, g3, g4⟩ := HF.out
        exact ⟨g1.alloc (by omega) _, by rw [Below.heap_alloc _ _ _ (by omega)]; exact g2, by rw [Below.heap_alloc _ _ _ (by omega)]; exact g3, heap_alloc_new wr _⟩)
      have hD2 := HF.out.2.2.2
      clear HF
      generalize wr.alloc (.cells (byts (H.outn s 0)) 24) = W7 at HQ ⊢
      generalize wr.heap.size = D at HQ hD2 ⊢
      go_wp2_with fail
      go_loopw [7] (fun ii wr => ∃ i : Nat, i ≤ 32 ∧ ii = .int .i64 i ∧ Hid (Below w.heap.size w wr ∧ wr.heap[w.heap.size]? = some (.cells (byts (H.outn H.init 0)) 24 (0, 0)) ∧ wr.heap[w.heap.size + 1]? = some (.cells (words s.list) 53 (0, 0)) ∧ wr.heap[D]? = some (.cells (byts (H.outn s i)) 24 (0, 0))))
        (fun ii _ => 32 - (intOf ii).toNat)
      case atStart => exact ⟨0, Nat.zero_le _, rfl, HQ⟩
      case round =>
        obtain ⟨i, hi, rfl, HI⟩ := hrel
        clear HQ
        by_cases hlt : i < 32
        · obtain ⟨cx, _⟩ := words_cell HI.out.2.2.1 (i := i / 4) (by rw [H.list_len]; omega)
          have hxl := H.getD_lt HOK.out (i / 4)
          obtain ⟨co, fo⟩ := byts_cell HI.out.2.2.2 (i := i) (by rw [H.outn_len]; exact hlt)
          generalize hx : s.list.getD (i / 4) 0 = y at cx hxl
          have HX := Lib.hid hx
          clear hx
          have q1 : decide ((i : Int) < 32) = true := by rw [decide_eq_true_iff]; omega
          obtain ⟨r, hr⟩ : ∃ r, r = i % 4 := ⟨_, rfl⟩
          obtain ⟨q4, hq4⟩ : ∃ q4, q4 = i / 4 := ⟨_, rfl⟩
          have e3 : (i : Int) % 4 = (r : Int) := by omega
          have e5 : (i : Int) / 4 = (q4 : Int) := by omega
          obtain ⟨u, hu⟩ : ∃ u, u = 24 - 8 * r := ⟨_, rfl⟩
          have e4 : (24 : Int) - 8 * (r : Int) = (u : Int) := by omega
          have hul : u ≤ 24 := by omega
          have hql : q4 < 8 := by omega
          have hrl : r < 4 := by omega
          rw [← hq4] at cx
          have HN : Hid (Below w.heap.size w (wr.setCell ⟨D, i, none⟩ (.int .u8 ((y : Int) / 2 ^ u % 256))) ∧
              (wr.setCell ⟨D, i, none⟩ (.int .u8 ((y : Int) / 2 ^ u % 256))).heap[w.heap.size]? = some (.cells (byts (H.outn H.init 0)) 24 (0, 0)) ∧
              (wr.setCell ⟨D, i, none⟩ (.int .u8 ((y : Int) / 2 ^ u % 256))).heap[w.heap.size + 1]? = some (.cells (words s.list) 53 (0, 0)) ∧
              (wr.setCell ⟨D, i, none⟩ (.int .u8 ((y : Int) / 2 ^ u % 256))).heap[D]? = some (.cells (byts (H.outn s (i + 1))) 24 (0, 0))) := Lib.hid (by
            have e1 : (y : Int) / 2 ^ u % 256 = ((y / 2 ^ u % 256 : Nat) : Int) := by simp
            rw [e1]
            obtain ⟨g1, g2, g3, g4⟩ := HI.out
            refine ⟨g1.setCell (p := ⟨D, i, none⟩) (by show w.heap.size ≤ D; omega) _, ?_, ?_, ?_⟩
            · rw [Below.heap_setCell _ _ _ _ (by show w.heap.size ≠ D; omega)]; exact g2
            · rw [Below.heap_setCell _ _ _ _ (by show w.heap.size + 1 ≠ D; omega)]; exact g3
            · rw [byts_store g4 i (y / 2 ^ u % 256) (Nat.mod_lt _ (by decide)), H.outn, H.outb, HX.out, hu, hr, show 24 - 8 * (i % 4) = 8 * (3 - i % 4) by omega])
          clear hr hq4 hu
          go_wp2_with fail
          go_roundw
          case rel => exact ⟨i + 1, by omega, by go_num, HN⟩
          case measure => simp [intOf]; omega
        · obtain rfl : i = 32 := by omega
          clear hi hlt
          go_upto_region 12 with (fail)
          refine wp_region_list ?_
          refine wpList_load_row rfl 24 _ rfl D rfl _ _ _ _ HI.out.2.2.2 Tryd.underlying24 rfl (by rw [byts_size, H.outn_len]; kernel_rfl) ?_
          refine wpList_store_row rfl 24 _ _ rfl w.heap.size (byts (H.outn s 32)) rfl rfl _ _ HI.out.2.1 (by rw [byts_size, H.outn_len]; kernel_rfl) (by rw [byts_size, byts_size, H.outn_len, H.outn_len]) (byts_one _) ?_
          refine wpList_nil ?_
          go_wp2_with fail
          have hbl := HI.out.1
          refine bodyPost_ret (v := .agg (byts (H.sum bs))) ?_ rfl ⟨rfl, below_setRow hbl (Nat.le_refl _) _⟩
          rw [HSM.out]
          exact results_cell_row Tryd.results38 _ _ w.heap.size _ (byts (H.outn s 32)) _ _ rfl (setRow_heap _ w.heap.size _ _ _ _ HI.out.2.1) Tryd.underlying24 rfl (by rw [byts_size, H.outn_len]; kernel_rfl)

end Go.Proofs.YthamligdmfhmeaaDoor
