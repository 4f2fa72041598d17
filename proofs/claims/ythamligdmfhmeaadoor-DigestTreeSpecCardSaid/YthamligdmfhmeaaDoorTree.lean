/- Contract of digest.Tree. -/
import Derived.Test.YthamligdmfhmeaaDoorDigs
namespace Go.Proofs.YthamligdmfhmeaaDoor
open Go.RowKit

theorem bytes_toArray (d : List UInt8) : (bytes d).toArray = byts d := rfl
/-- A whole digest loaded out of a list. -/
theorem wpl_elem {ops : Array Oper} {rest : List Oper} {o : Oper} {a : Act} {w : World} {Q : Exit → Act → World → Prop} (hg : o.guard = none) (x : Operand) (ho : o.op = .load 24 x)
    (b off : Nat) (d : List UInt8) (hx : a.eval x = .pointer (some ⟨b, off, none⟩)) (hd : d.length = 32) (hc : ∀ j, j < 32 → w.cell? ⟨b, off + j, none⟩ = some (.int .u8 (H.byte d j)))
    (h : wpList Tryd.prog ops Q rest (a.put o.dst (.agg (byts d))) w) : wpList Tryd.prog ops Q (o :: rest) a w :=
  wpList_load_mid hg 24 x ho b off hx (bytes d) _ (fun j v hv => by
    have hj : j < d.length := by have := (List.getElem?_eq_some_iff.1 hv).1; rwa [bytes_len] at this
    rw [hc j (by omega)]
    simp only [bytes, List.getElem?_map, List.getElem?_eq_getElem hj, Option.map_some] at hv
    rw [← hv, H.byte]
    simp [hj]) Tryd.underlying24 rfl (by rw [bytes_len, hd]; kernel_rfl) h

theorem run_get_at {w : World} (b off : Nat) (d : List UInt8) (hd : d.length = 32) (hc : ∀ j, j < 32 → w.cell? ⟨b, off + j, none⟩ = some (.int .u8 (H.byte d j))) : (loadCellsFrom ⟨b, off, none⟩ 0 32 #[]).run Tryd.prog w = .ok (byts d) w := by
  have h := run_loadCells_list (P := Tryd.prog) w ⟨b, off, none⟩ (byts d).toList (fun j v hv => by
    have hadd : (⟨b, off, none⟩ : Addr).add j = ⟨b, off + j, none⟩ := by unfold Addr.add; split <;> simp_all
    have hj : j < d.length := by have := (List.getElem?_eq_some_iff.1 hv).1; rwa [Array.length_toList, byts_size] at this
    rw [hadd, hc j (by omega)]
    simp only [byts, List.getElem?_map, List.getElem?_eq_getElem hj, Option.map_some] at hv
    rw [← hv, H.byte]
    simp [hj])
  have hl : (byts d).toList.length = 32 := by rw [Array.length_toList, byts_size, hd]
  rw [hl] at h
  simpa [loadCells] using h

/-- An element of a list in memory. -/
theorem DigsAt.elem {w : World} {a : Option Addr} {ds : List (List UInt8)} (h : DigsAt w a ds) {i : Nat} (hi : i < ds.length) :
    ∃ b off, a = some ⟨b, off, none⟩ ∧ b < w.heap.size ∧ ∀ j, j < 32 → w.cell? ⟨b, off + 32 * i + j, none⟩ = some (.int .u8 (H.byte (ds[i]) j)) := by
  have hl := H.flat_len h.1
  obtain ⟨b, off, hp⟩ := h.2.plain
  obtain ⟨ha, hb, hc⟩ := hp (by omega)
  refine ⟨b, off, ha, hb, fun j hj => ?_⟩
  rw [Nat.add_assoc, hc _ (by omega)]
  have e : H.byte ds.flatten (32 * i + j) = H.byte ds[i] j := by
    have h1 : (ds.drop i).flatten = ds.flatten.drop (32 * i) := H.flat_drop h.1 i
    have h2 : ds.drop i = ds[i] :: ds.drop (i + 1) := List.drop_eq_getElem_cons hi
    rw [h2, List.flatten_cons] at h1
    simp only [H.byte, List.getD_eq_getElem?_getD]
    rw [← List.getElem?_drop, ← h1, List.getElem?_append_left (by rw [h.1 _ (List.getElem_mem hi)]; exact hj)]
  rw [e]

set_option maxRecDepth 100000 in
set_option maxHeartbeats 2000000 in
theorem tree_step (m : Nat) (ih : ∀ (a : Option Addr) (n cap : Nat) (ds : List (List UInt8)) (w : World), (1 ≤ n ∧ n ≤ m) → KT w → ds.length = n → n ≤ cap → n ≤ 1099511627776 → DigsAt w a ds →
      Calls Tryd.prog 8 #[.slice a n cap] w fun e w' => e = .returned (.agg (byts (H.tree ds))) ∧ Below w.heap.size w w')
    (a : Option Addr) (n cap : Nat) (ds : List (List UInt8)) (w : World) (hnm : n ≤ m + 1) (hK : KT w) (hn : ds.length = n) (hcap : n ≤ cap) (hl : n ≤ 1099511627776) (hd : DigsAt w a ds) :
    Calls Tryd.prog 8 #[.slice a n cap] w fun e w' => e = .returned (.agg (byts (H.tree ds))) ∧ Below w.heap.size w w' := by
  have IH := Lib.hid ih
  have HK := Lib.hid hK; have HN := Lib.hid hn; have HDS := Lib.hid hd
  clear ih hK hn hd
  obtain ⟨r, hr⟩ : ∃ r, H.tree ds = r := ⟨_, rfl⟩
  have hrl : r.length = 32 := by rw [← hr]; exact H.tree_len _
  rw [hr]
  have HR := Lib.hid hr; have HRL := Lib.hid hrl
  clear hr hrl
  have h0 : n = 0 ∨ n = 1 ∨ 2 ≤ n := by omega
  go_enter Tryd.func8, Tryd.ntmps8
  go_step
  go_step
  refine wp_region_list ?_
  refine wpl_cell rfl rfl ?_
  refine wpList_nil ?_
  rename_i K1 hK1
  refine hK1 _ _ ?_
  clear hK1
  have HW : Hid (Below w.heap.size w (w.alloc (.cells (byts zero32) 24)) ∧ Dig (w.alloc (.cells (byts zero32) 24)) w.heap.size zero32) := Lib.hid ⟨(Below.refl _ _).alloc (Nat.le_refl _) _, Dig.new w zero32_len⟩
  go_simp
  generalize w.alloc (.cells (byts zero32) 24) = W1 at HW ⊢
  rcases h0 with rfl | rfl | h2
  · have HT := Lib.hid (tagged_any ⟨#[101, 109, 112, 116, 121]⟩ none 0 0 [] W1 (HK.out.kept HW.out.1 HK.out.pos) (by decide) rfl (by decide) (bytesAt_nil _ _))
    have hds : ds = [] := List.length_eq_zero_iff.1 HN.out
    have hr0 : H.tagged H.sEmpty [] = r := by rw [← HR.out, hds, H.tree_nil]
    have HR0 := Lib.hid hr0
    clear hds hr0
    go_wp2_with fail
    refine HT.out.mono ?_
    rintro e w4 ⟨rfl, hb⟩
    rename_i K9 hK9
    refine hK9 _ _ ?_
    clear hK9
    have hd2 := HW.out.2.kept hb HW.out.2.lt
    have hbw := HW.out.1.trans (hb.mono HW.out.1.size)
    refine wpl_put rfl _ _ rfl w.heap.size _ r rfl (by rw [← HR0.out]; rfl) hd2 HRL.out ?_
    refine wpList_nil ?_
    have HZ := Lib.hid (And.intro (hd2.set HRL.out) (below_setRow (C := w.heap.size) hbw (Nat.le_refl _) (byts r)))
    clear hd2 hbw hb
    go_wp2_with fail
    refine bodyPost_ret (v := .agg (byts r)) ?_ rfl ⟨rfl, HZ.out.2⟩
    exact ret_dig Tryd.results8 _ _ w.heap.size _ rfl HZ.out.1
  · obtain ⟨d, hds⟩ : ∃ d, ds = [d] := List.length_eq_one_iff.1 HN.out
    have hdl : d.length = 32 := HDS.out.1 d (by rw [hds]; simp)
    have hr0 : H.leaf d = r := by rw [← HR.out, hds, H.tree_one]
    obtain ⟨b, off, ha, hb, hc⟩ := HDS.out.elem (i := 0) (by rw [hds]; simp)
    subst ha
    have HC : Hid (∀ j, j < 32 → W1.cell? ⟨b, off + j, none⟩ = some (.int .u8 (H.byte d j))) := Lib.hid (fun j hj => by
      rw [(HW.out.1.cell (p := ⟨b, off + j, none⟩) hb), show off + j = off + 32 * 0 + j from rfl, hc j hj]
      simp [hds])
    have HR0 := Lib.hid hr0
    have HT := Lib.hid (leaf_any d W1 (HK.out.kept HW.out.1 HK.out.pos) hdl)
    have HDL := Lib.hid hdl
    clear hds hr0 hc hdl
    go_upto_region 5 with (fail)
    refine wp_region_list ?_
    go_step
    go_step
    go_step
    go_step
    go_step
    refine wpl_elem rfl _ rfl b off d rfl HDL.out HC.out ?_
    go_simp
    go_wp2_with fail
    refine HT.out.mono ?_
    rintro e w4 ⟨rfl, hb⟩
    rename_i K9 hK9
    refine hK9 _ _ ?_
    clear hK9
    have hd2 := HW.out.2.kept hb HW.out.2.lt
    have hbw := HW.out.1.trans (hb.mono HW.out.1.size)
    refine wpl_put rfl _ _ rfl w.heap.size _ r rfl (by rw [← HR0.out]; rfl) hd2 HRL.out ?_
    refine wpList_nil ?_
    have HZ := Lib.hid (And.intro (hd2.set HRL.out) (below_setRow (C := w.heap.size) hbw (Nat.le_refl _) (byts r)))
    clear hd2 hbw hb
    go_wp2_with fail
    refine bodyPost_ret (v := .agg (byts r)) ?_ rfl ⟨rfl, HZ.out.2⟩
    exact ret_dig Tryd.results8 _ _ w.heap.size _ rfl HZ.out.1
  · obtain ⟨hb1, hs1, hs2⟩ := H.split_bounds h2 hl
    have hsp := H.split_pos n
    have hcut := H.tree_cut (l := ds) (by rw [HN.out]; exact h2) (by rw [HN.out]; exact hl)
    rw [HN.out] at hcut
    have HS := Lib.hid (split_any n W1 h2 hl)
    obtain ⟨k, hk⟩ : ∃ k, H.split n = k := ⟨_, rfl⟩
    rw [hk] at hcut HS hs1 hs2 hsp
    obtain ⟨r1, hr1⟩ : ∃ r1, H.tree (ds.take k) = r1 := ⟨_, rfl⟩
    obtain ⟨r2, hr2⟩ : ∃ r2, H.tree (ds.drop k) = r2 := ⟨_, rfl⟩
    rw [hr1, hr2, HR.out] at hcut
    have HCUT := Lib.hid hcut
    have hk1 : k < n := by omega
    have hhead := digs_head a n cap k (by omega) hcap
    obtain ⟨a', c', htail, hc', hda'⟩ := digs_tail a n cap k (by omega) hcap ds HN.out
    have hbelD : Below w.heap.size w W1.drew := HW.out.1.drew
    have HT1 : Hid (Calls Tryd.prog 8 #[.slice a k cap] W1.drew fun e w3 => e = .returned (.agg (byts r1)) ∧
        Hid (Calls Tryd.prog 8 #[.slice a' (n - k) c'] w3 fun e w4 => e = .returned (.agg (byts r2)) ∧
          Hid (Calls Tryd.prog 21 #[.agg (byts r1), .agg (byts r2)] w4 fun e w5 => e = .returned (.agg (byts r)) ∧ Hid (Below W1.heap.size W1 w5)))) := Lib.hid (by
      refine (IH.out a k cap (ds.take k) W1.drew ⟨by omega, by omega⟩ (HK.out.kept hbelD HK.out.pos) (by rw [List.length_take, HN.out]; omega) (by omega) (by omega) ((HDS.out.kept hbelD).take k)).mono ?_
      rintro e w3 ⟨rfl, hb3⟩
      have hb3' : Below W1.heap.size W1 w3 := ⟨hb3.os, hb3.tape, hb3.output, hb3.size, hb3.block⟩
      have hbw3 := HW.out.1.trans (hb3'.mono HW.out.1.size)
      refine ⟨by rw [hr1], Lib.hid ?_⟩
      refine (IH.out a' (n - k) c' (ds.drop k) w3 ⟨by omega, by omega⟩ (HK.out.kept hbw3 HK.out.pos) (by rw [List.length_drop, HN.out]) hc' (by omega) (hda' w3 (HDS.out.kept hbw3))).mono ?_
      rintro e w4 ⟨rfl, hb4⟩
      have hb4' := hb3'.trans (hb4.mono hb3'.size)
      have hbw4 := HW.out.1.trans (hb4'.mono HW.out.1.size)
      refine ⟨by rw [hr2], Lib.hid ?_⟩
      refine (node_any r1 r2 w4 (HK.out.kept hbw4 HK.out.pos) (by rw [← hr1]; exact H.tree_len _) (by rw [← hr2]; exact H.tree_len _)).mono ?_
      rintro e w5 ⟨rfl, hb5⟩
      exact ⟨by rw [HCUT.out], Lib.hid (hb4'.trans (hb5.mono hb4'.size))⟩)
    clear hcut hr1 hr2 hk hb1 hs1 hs2 hda' hbelD
    go_wp2_with (go_at_call 20; (with_reducible refine HS.out.mono ?_); rintro e w1 ⟨rfl, rfl⟩)
    refine Code.wp_mono onlyN ?_
    go_region_with (first
      | (go_at_call 8; (with_reducible refine HT1.out.mono ?_); rintro e w3 ⟨rfl, HT2⟩; clear HT1)
      | (go_at_call 8; (with_reducible refine HT2.out.mono ?_); rintro e w4 ⟨rfl, HT3⟩; clear HT2)
      | (go_at_call 21; (with_reducible refine HT3.out.mono ?_); rintro e w5 ⟨rfl, hb5⟩; clear HT3; have hd5 := HW.out.2.kept hb5.out HW.out.2.lt; have hput := run_put hd5 HRL.out; have hsz : (byts r).size = 32 := (by rw [byts_size, HRL.out]); have HZ := Lib.hid hd5; clear hd5))
    have hZ2 := HZ.out.set HRL.out
    have hZ1 : Below w.heap.size w (w5.setRow w.heap.size (byts r)) := below_setRow (HW.out.1.trans (hb5.out.mono HW.out.1.size)) (Nat.le_refl _) _
    clear hput hsz hhead htail hb5
    simp only [OnlyN]
    have HF := Lib.hid (And.intro hZ1 hZ2)
    clear hZ1 hZ2
    go_wp2_with fail
    refine bodyPost_ret (v := .agg (byts r)) ?_ rfl ⟨rfl, HF.out.1⟩
    exact ret_dig Tryd.results8 _ _ w.heap.size _ rfl HF.out.2

theorem tree_all : ∀ (m : Nat) (a : Option Addr) (n cap : Nat) (ds : List (List UInt8)) (w : World), n ≤ m → KT w → ds.length = n → n ≤ cap → n ≤ 1099511627776 → DigsAt w a ds →
      Calls Tryd.prog 8 #[.slice a n cap] w fun e w' => e = .returned (.agg (byts (H.tree ds))) ∧ Below w.heap.size w w'
  | 0, a, n, cap, ds, w, hnm, hK, hn, hcap, hl, hd => tree_step 0 (fun _ _ _ _ _ h => absurd h.1 (by omega)) a n cap ds w (by omega) hK hn hcap hl hd
  | m + 1, a, n, cap, ds, w, hnm, hK, hn, hcap, hl, hd => tree_step m (fun a n cap ds w h => tree_all m a n cap ds w h.2) a n cap ds w hnm hK hn hcap hl hd

end Go.Proofs.YthamligdmfhmeaaDoor
