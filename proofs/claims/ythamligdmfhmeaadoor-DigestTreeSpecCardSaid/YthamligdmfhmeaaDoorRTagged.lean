/- Contract of the reference's Tagged. -/
import Derived.Test.YthamligdmfhmeaaDoorRSum
import Derived.Test.YthamligdmfhmeaaDoorJoin
import Derived.Test.YthamligdmfhmeaaDoorTagged
namespace Go.Proofs.YthamligdmfhmeaaDoor
open Go.RowKit

set_option maxRecDepth 100000 in
set_option maxHeartbeats 4000000 in
theorem rtagged_any (tag : ByteArray) (a : Option Addr) (n cap : Nat) (bs : List UInt8) (w : World) (ht : tag.size ≤ 274877906944) (hn : bs.length = n) (hl : n ≤ 274877906944) (hb : BytesAt w a bs) :
    Calls Tryd.prog 22 #[.string tag, .slice a n cap] w fun e w' => e = .returned (.agg (byts (H.tagged tag.data.toList bs))) ∧ Below w.heap.size w w' := by
  have HB := Lib.hid hb; have HN := Lib.hid hn
  clear hb hn
  go_enter Tryd.func22, Tryd.ntmps22
  go_step
  go_step
  refine wp_region_list ?_
  refine wpl_alloc_row rfl 24 rfl (byts (H.outn H.init 0)) (fun _ => by kernel_rfl) ?_
  refine wpList_nil ?_
  rename_i K1 hK1
  refine hK1 _ _ ?_
  clear hK1
  go_simp
  have HD : Hid (Below w.heap.size w (w.alloc (.cells (byts (H.outn H.init 0)) 24)) ∧ (w.alloc (.cells (byts (H.outn H.init 0)) 24)).heap[w.heap.size]? = some (.cells (byts (H.outn H.init 0)) 24 (0, 0)) ∧ w.heap.size < (w.alloc (.cells (byts (H.outn H.init 0)) 24)).heap.size) :=
    Lib.hid ⟨(Below.refl _ _).alloc (Nat.le_refl _) _, heap_alloc_new w _, by simp⟩
  generalize w.alloc (.cells (byts (H.outn H.init 0)) 24) = W0 at HD ⊢
  obtain ⟨tcap, wt, hconv, htc, htb, htw⟩ := string_bytes W0 tag
  have hwt : Below w.heap.size w wt := HD.out.1.trans (htw.mono (Nat.le_of_lt HD.out.2.2))
  have HT := Lib.hid (And.intro htc (And.intro htb (And.intro htw hwt)))
  have HS := Lib.hid (rsum_dig (some ⟨W0.heap.size, 0, none⟩) tag.size tcap tag.data.toList wt (str_len tag) (by omega) htb)
  clear htc htb htw hwt
  go_wp2_with fail
  refine HS.out.mono ?_
  rintro e w1 ⟨rfl, hb1⟩
  rename_i K2 hK2
  refine hK2 _ _ ?_
  clear hK2
  refine wpl_alloc_row rfl 24 rfl (byts (H.outn H.init 0)) (fun _ => by kernel_rfl) ?_
  refine wpList_store_row rfl 24 _ _ rfl _ (byts (H.sum tag.data.toList)) rfl rfl _ _ (heap_alloc_new _ _) (by rw [byts_size, H.sum_len]; kernel_rfl) (by rw [byts_size, byts_size, H.sum_len, H.outn_len]) (byts_one _) ?_
  rw [World.setRow_alloc_new]
  refine wpList_nil ?_
  have HG : Hid (Below w.heap.size w (w1.alloc (.cells (byts (H.sum tag.data.toList)) 24)) ∧ (w1.alloc (.cells (byts (H.sum tag.data.toList)) 24)).heap[w.heap.size]? = some (.cells (byts (H.outn H.init 0)) 24 (0, 0)) ∧
      (w1.alloc (.cells (byts (H.sum tag.data.toList)) 24)).heap[w1.heap.size]? = some (.cells (byts (H.sum tag.data.toList)) 24 (0, 0)) ∧ w.heap.size < (w1.alloc (.cells (byts (H.sum tag.data.toList)) 24)).heap.size) := Lib.hid (by
    have h2 := HD.out.2.2
    have h3 := HT.out.2.2.1
    have h4 := h3.size
    have h1 : wt.heap.size ≤ w1.heap.size := hb1.size
    refine ⟨HD.out.1.trans ((h3.mono (Nat.le_of_lt h2)).trans ((hb1.mono (by omega)).trans ((Below.refl _ _).alloc (by omega) _))), ?_, heap_alloc_new w1 _, by simp; omega⟩
    rw [Below.heap_alloc _ _ _ (by omega), hb1.block _ (by omega), h3.block _ h2]; exact HD.out.2.1)
  clear HD hb1 HT
  go_simp
  generalize w1.alloc (.cells (byts (H.sum tag.data.toList)) 24) = W at HG ⊢
  generalize w1.heap.size = g at HG ⊢
  obtain ⟨t, ht⟩ : ∃ t, H.sum tag.data.toList = t := ⟨_, rfl⟩
  have htl : t.length = 32 := by rw [← ht]; exact H.sum_len _
  have hr : H.tagged tag.data.toList bs = H.sum (t ++ bs) := by rw [H.tagged, ht]
  rw [ht] at HG
  have HTD : Hid (Dig W g t) := Lib.hid ⟨HG.out.2.2.1, htl⟩
  have HTL := Lib.hid htl; have HR := Lib.hid hr
  clear ht htl hr
  have HU : Hid (∀ V v, Below W.heap.size W V → V.ownsRow W.heap.size 5 1 v (0 + 32 + n) (bytes (([] ++ t) ++ bs)) → Calls Tryd.prog 38 #[v] V fun e w' => e = .returned (.agg (byts (H.tagged tag.data.toList bs))) ∧ Hid (Below W.heap.size W w')) := Lib.hid (fun V v hV ho => by
    obtain ⟨A, c, rfl, hc, _, hby⟩ := owns_bytesAt ho
    refine (rsum_dig A (0 + 32 + n) c (([] ++ t) ++ bs) V (by simp [HTL.out, HN.out]) (by omega) hby).mono ?_
    rintro e w' ⟨rfl, hb⟩
    exact ⟨by rw [HR.out]; rfl, Lib.hid (hV.trans (hb.mono hV.size))⟩)
  iterate 9 go_step
  refine wpl_cat rfl _ _ rfl W.heap.size _ 0 [] rfl (owns_none W.heap.size W (Nat.le_refl _)) (some ⟨g, 0, none⟩) 32 32 t rfl HTL.out (HTD.out.alloc _).bytes (by decide) (by simp) ?_
  intro v1 w2 h1 h2
  have HC := Lib.hid (And.intro h1 (((Below.refl W.heap.size W).alloc (Nat.le_refl _) _).trans (h2.below (by simp))))
  clear h1 h2
  iterate 3 go_step
  refine wpl_cat rfl _ _ rfl W.heap.size _ (0 + 32) ([] ++ t) rfl HC.out.1 a n cap bs rfl HN.out (HB.out.kept (HG.out.1.trans (HC.out.2.mono HG.out.1.size))) (by omega) HC.out.2.size ?_
  intro v2 w3 h1 h2
  have HE := Lib.hid (And.intro h1 (HC.out.2.trans (h2.below HC.out.2.size)))
  clear h1 h2
  go_wp2_with fail
  refine (HU.out _ _ HE.out.2 HE.out.1).mono ?_
  rintro e w4 ⟨rfl, HX⟩
  rename_i K9 hK9
  refine hK9 _ _ ?_
  clear hK9
  have hd5 : w4.heap[w.heap.size]? = some (.cells (byts (H.outn H.init 0)) 24 (0, 0)) := (HX.out.block _ HG.out.2.2.2).trans HG.out.2.1
  have hb5w : Below w.heap.size w w4 := HG.out.1.trans (HX.out.mono HG.out.1.size)
  refine wpList_store_row rfl 24 _ _ rfl w.heap.size (byts (H.tagged tag.data.toList bs)) rfl rfl _ _ hd5 (by rw [byts_size, H.tagged_len]; kernel_rfl) (by rw [byts_size, byts_size, H.tagged_len, H.outn_len]) (byts_one _) ?_
  refine wpList_nil ?_
  have hrow := setRow_heap w4 w.heap.size _ (byts (H.tagged tag.data.toList bs)) _ _ hd5
  have hbr : Below w.heap.size w (w4.setRow w.heap.size (byts (H.tagged tag.data.toList bs))) := below_setRow hb5w (Nat.le_refl _) _
  clear hd5 hb5w
  generalize w4.setRow w.heap.size (byts (H.tagged tag.data.toList bs)) = W6 at hrow hbr ⊢
  have HZ := Lib.hid (And.intro hrow hbr)
  clear hrow hbr
  go_wp2_with fail
  refine bodyPost_ret (v := .agg (byts (H.tagged tag.data.toList bs))) ?_ rfl ⟨rfl, HZ.out.2⟩
  exact results_cell_row Tryd.results22 _ _ w.heap.size _ _ _ _ rfl HZ.out.1 Tryd.underlying24 rfl (by rw [byts_size, H.tagged_len]; kernel_rfl)

end Go.Proofs.YthamligdmfhmeaaDoor
