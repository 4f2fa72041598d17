/- Contract of the reference's Tree. -/
import Derived.Test.YthamligdmfhmeaaDoorTree
import Derived.Test.YthamligdmfhmeaaDoorRNode
import Derived.Test.YthamligdmfhmeaaDoorRHalf
namespace Go.Proofs.YthamligdmfhmeaaDoor
open Go.RowKit

set_option maxRecDepth 100000 in
set_option maxHeartbeats 2000000 in
theorem rtree_step (m : Nat) (ih : ∀ (a : Option Addr) (n cap : Nat) (ds : List (List UInt8)) (w : World), (1 ≤ n ∧ n ≤ m) → KT w → ds.length = n → n ≤ cap → n ≤ 1099511627776 → DigsAt w a ds →
      Calls Tryd.prog 9 #[.slice a n cap] w fun e w' => e = .returned (.agg (byts (H.tree ds))) ∧ Below w.heap.size w w')
    (a : Option Addr) (n cap : Nat) (ds : List (List UInt8)) (w : World) (hnm : n ≤ m + 1) (hK : KT w) (hn : ds.length = n) (hcap : n ≤ cap) (hl : n ≤ 1099511627776) (hd : DigsAt w a ds) :
    Calls Tryd.prog 9 #[.slice a n cap] w fun e w' => e = .returned (.agg (byts (H.tree ds))) ∧ Below w.heap.size w w' := by
  have IH := Lib.hid ih
  have HK := Lib.hid hK; have HN := Lib.hid hn; have HDS := Lib.hid hd
  clear ih hK hn hd
  obtain ⟨r, hr⟩ : ∃ r, H.tree ds = r := ⟨_, rfl⟩
  have hrl : r.length = 32 := by rw [← hr]; exact H.tree_len _
  rw [hr]
  have HR := Lib.hid hr; have HRL := Lib.hid hrl
  clear hr hrl
  have h0 : n = 0 ∨ n = 1 ∨ 2 ≤ n := by omega
  go_enter Tryd.func9, Tryd.ntmps9
  go_step
  go_step
  refine wp_region_list ?_
  refine wpl_cell rfl rfl ?_
  refine wpList_nil ?_
  rename_i K1 hK1
  refine hK1 _ _ ?_
  clear hK1
  have HW : Hid (Below w.heap.size w (w.alloc (.cells (byts zero32) 24)) ∧ Dig (w.alloc (.cells (byts zero32) 24)) w.heap.size zero32) := Lib.hid ⟨(Below.refl _ _).alloc (Nat.le_refl _) _, Dig.new w zero32_len⟩
  go_simp
  generalize w.alloc (.cells (byts zero32) 24) = W1 at HW ⊢
  rcases h0 with rfl | rfl | h2
  · have HT := Lib.hid (rtagged_any ⟨#[101, 109, 112, 116, 121]⟩ none 0 0 [] W1 (by decide) rfl (by decide) (bytesAt_nil _ _))
    have hds : ds = [] := List.length_eq_zero_iff.1 HN.out
    have hr0 : H.tagged H.sEmpty [] = r := by rw [← HR.out, hds, H.tree_nil]
    have HR0 := Lib.hid hr0
    clear hds hr0
    go_wp2_with fail
    refine HT.out.mono ?_
    rintro e w4 ⟨rfl, hb⟩
    rename_i K9 hK9
    refine hK9 _ _ ?_
    clear hK9
    have hd2 := HW.out.2.kept hb HW.out.2.lt
    have hbw := HW.out.1.trans (hb.mono HW.out.1.size)
    refine wpl_put rfl _ _ rfl w.heap.size _ r rfl (by rw [← HR0.out]; rfl) hd2 HRL.out ?_
    refine wpList_nil ?_
    have HZ := Lib.hid (And.intro (hd2.set HRL.out) (below_setRow (C := w.heap.size) hbw (Nat.le_refl _) (byts r)))
    clear hd2 hbw hb
    go_wp2_with fail
    refine bodyPost_ret (v := .agg (byts r)) ?_ rfl ⟨rfl, HZ.out.2⟩
    exact ret_dig Tryd.results9 _ _ w.heap.size _ rfl HZ.out.1
  · obtain ⟨d, hds⟩ : ∃ d, ds = [d] := List.length_eq_one_iff.1 HN.out
    have hdl : d.length = 32 := HDS.out.1 d (by rw [hds]; simp)
    have hr0 : H.leaf d = r := by rw [← HR.out, hds, H.tree_one]
    obtain ⟨b, off, ha, hb, hc⟩ := HDS.out.elem (i := 0) (by rw [hds]; simp)
    subst ha
    have HC : Hid (∀ j, j < 32 → W1.cell? ⟨b, off + j, none⟩ = some (.int .u8 (H.byte d j))) := Lib.hid (fun j hj => by
      rw [(HW.out.1.cell (p := ⟨b, off + j, none⟩) hb), show off + j = off + 32 * 0 + j from rfl, hc j hj]
      simp [hds])
    have HR0 := Lib.hid hr0
    have HBY : BytesAt W1 (some ⟨b, off, none⟩) d := fun j hj => ⟨_, rfl, by
      have e : (⟨b, off, none⟩ : Addr).add j = ⟨b, off + j, none⟩ := by unfold Addr.add; split <;> simp_all
      rw [e, HC.out j (by omega)]
      simp [H.byte, hj]⟩
    have HT := Lib.hid (rtagged_any ⟨#[108, 101, 97, 102]⟩ (some ⟨b, off, none⟩) 32 32 d W1 (by decide) hdl (by decide) HBY)
    have harr : ∀ V : World, (Instr.sliceAt 24 (.pointer (some ⟨b, off, none⟩)) none none none).run Tryd.prog V = .ok (.slice (some ⟨b, off, none⟩) 32 32) V := fun V => by kernel_rfl
    clear hds hr0 hc hdl HBY
    go_wp2_with fail
    refine HT.out.mono ?_
    rintro e w4 ⟨rfl, hb⟩
    rename_i K9 hK9
    refine hK9 _ _ ?_
    clear hK9
    have hd2 := HW.out.2.kept hb HW.out.2.lt
    have hbw := HW.out.1.trans (hb.mono HW.out.1.size)
    refine wpl_put rfl _ _ rfl w.heap.size _ r rfl (by rw [← HR0.out]; rfl) hd2 HRL.out ?_
    refine wpList_nil ?_
    have HZ := Lib.hid (And.intro (hd2.set HRL.out) (below_setRow (C := w.heap.size) hbw (Nat.le_refl _) (byts r)))
    clear hd2 hbw hb
    go_wp2_with fail
    refine bodyPost_ret (v := .agg (byts r)) ?_ rfl ⟨rfl, HZ.out.2⟩
    exact ret_dig Tryd.results9 _ _ w.heap.size _ rfl HZ.out.1
  · obtain ⟨hb1, hs1, hs2⟩ := H.split_bounds h2 hl
    have hsp := H.split_pos n
    have hcut := H.tree_cut (l := ds) (by rw [HN.out]; exact h2) (by rw [HN.out]; exact hl)
    rw [HN.out] at hcut
    have HS := Lib.hid (rhalf_any n W1 h2 hl)
    obtain ⟨k, hk⟩ : ∃ k, H.split n = k := ⟨_, rfl⟩
    rw [hk] at hcut HS hs1 hs2 hsp
    obtain ⟨r1, hr1⟩ : ∃ r1, H.tree (ds.take k) = r1 := ⟨_, rfl⟩
    obtain ⟨r2, hr2⟩ : ∃ r2, H.tree (ds.drop k) = r2 := ⟨_, rfl⟩
    rw [hr1, hr2, HR.out] at hcut
    have HCUT := Lib.hid hcut
    have hk1 : k < n := by omega
    have hhead := digs_head a n cap k (by omega) hcap
    obtain ⟨a', c', htail, hc', hda'⟩ := digs_tail a n cap k (by omega) hcap ds HN.out
    have hbelD : Below w.heap.size w W1.drew := HW.out.1.drew
    have HT1 : Hid (Calls Tryd.prog 9 #[.slice a k cap] W1.drew fun e w3 => e = .returned (.agg (byts r1)) ∧
        Hid (Calls Tryd.prog 9 #[.slice a' (n - k) c'] w3 fun e w4 => e = .returned (.agg (byts r2)) ∧
          Hid (Calls Tryd.prog 24 #[.agg (byts r1), .agg (byts r2)] w4 fun e w5 => e = .returned (.agg (byts r)) ∧ Hid (Below W1.heap.size W1 w5)))) := Lib.hid (by
      refine (IH.out a k cap (ds.take k) W1.drew ⟨by omega, by omega⟩ (HK.out.kept hbelD HK.out.pos) (by rw [List.length_take, HN.out]; omega) (by omega) (by omega) ((HDS.out.kept hbelD).take k)).mono ?_
      rintro e w3 ⟨rfl, hb3⟩
      have hb3' : Below W1.heap.size W1 w3 := ⟨hb3.os, hb3.tape, hb3.output, hb3.size, hb3.block⟩
      have hbw3 := HW.out.1.trans (hb3'.mono HW.out.1.size)
      refine ⟨by rw [hr1], Lib.hid ?_⟩
      refine (IH.out a' (n - k) c' (ds.drop k) w3 ⟨by omega, by omega⟩ (HK.out.kept hbw3 HK.out.pos) (by rw [List.length_drop, HN.out]) hc' (by omega) (hda' w3 (HDS.out.kept hbw3))).mono ?_
      rintro e w4 ⟨rfl, hb4⟩
      have hb4' := hb3'.trans (hb4.mono hb3'.size)
      have hbw4 := HW.out.1.trans (hb4'.mono HW.out.1.size)
      refine ⟨by rw [hr2], Lib.hid ?_⟩
      refine (rnode_any r1 r2 w4 (by rw [← hr1]; exact H.tree_len _) (by rw [← hr2]; exact H.tree_len _)).mono ?_
      rintro e w5 ⟨rfl, hb5⟩
      exact ⟨by rw [HCUT.out], Lib.hid (hb4'.trans (hb5.mono hb4'.size))⟩)
    clear hcut hr1 hr2 hk hb1 hs1 hs2 hda' hbelD
    go_wp2_with (go_at_call 23; (with_reducible refine HS.out.mono ?_); rintro e w1 ⟨rfl, rfl⟩)
    refine Code.wp_mono onlyN ?_
    go_region_with (first
      | (go_at_call 9; (with_reducible refine HT1.out.mono ?_); rintro e w3 ⟨rfl, HT2⟩; clear HT1)
      | (go_at_call 9; (with_reducible refine HT2.out.mono ?_); rintro e w4 ⟨rfl, HT3⟩; clear HT2)
      | (go_at_call 24; (with_reducible refine HT3.out.mono ?_); rintro e w5 ⟨rfl, hb5⟩; clear HT3; have hd5 := HW.out.2.kept hb5.out HW.out.2.lt; have hput := run_put hd5 HRL.out; have hsz : (byts r).size = 32 := (by rw [byts_size, HRL.out]); have HZ := Lib.hid hd5; clear hd5))
    have hZ2 := HZ.out.set HRL.out
    have hZ1 : Below w.heap.size w (w5.setRow w.heap.size (byts r)) := below_setRow (HW.out.1.trans (hb5.out.mono HW.out.1.size)) (Nat.le_refl _) _
    clear hput hsz hhead htail hb5
    simp only [OnlyN]
    have HF := Lib.hid (And.intro hZ1 hZ2)
    clear hZ1 hZ2
    go_wp2_with fail
    refine bodyPost_ret (v := .agg (byts r)) ?_ rfl ⟨rfl, HF.out.1⟩
    exact ret_dig Tryd.results9 _ _ w.heap.size _ rfl HF.out.2

theorem rtree_all : ∀ (m : Nat) (a : Option Addr) (n cap : Nat) (ds : List (List UInt8)) (w : World), n ≤ m → KT w → ds.length = n → n ≤ cap → n ≤ 1099511627776 → DigsAt w a ds →
      Calls Tryd.prog 9 #[.slice a n cap] w fun e w' => e = .returned (.agg (byts (H.tree ds))) ∧ Below w.heap.size w w'
  | 0, a, n, cap, ds, w, hnm, hK, hn, hcap, hl, hd => rtree_step 0 (fun _ _ _ _ _ h => absurd h.1 (by omega)) a n cap ds w (by omega) hK hn hcap hl hd
  | m + 1, a, n, cap, ds, w, hnm, hK, hn, hcap, hl, hd => rtree_step m (fun a n cap ds w h => rtree_all m a n cap ds w h.2) a n cap ds w hnm hK hn hcap hl hd

end Go.Proofs.YthamligdmfhmeaaDoor
