/- Contract of digest.Tagged. -/
import Derived.Test.YthamligdmfhmeaaDoorSum
import Derived.Laws.IdiomStrings
namespace Go.Proofs.YthamligdmfhmeaaDoor
open Go.RowKit

namespace H
def tagged (tag bs : List UInt8) : List UInt8 := sum (sum tag ++ bs)
theorem tagged_len (tag bs : List UInt8) : (tagged tag bs).length = 32 := sum_len _
end H

theorem BytesAt.row {w : World} {B : Nat} {l : List UInt8} {t : TypeId} (h : w.heap[B]? = some (.cells (byts l) t (0, 0))) : BytesAt w (some ⟨B, 0, none⟩) l := fun i hi => by
  refine ⟨_, rfl, ?_⟩
  have e : (⟨B, 0, none⟩ : Addr).add i = ⟨B, i, none⟩ := by unfold Addr.add; split <;> simp_all
  rw [e, cell_of_row _ _ _ _ _ _ h, byts_at hi]

theorem str_len (s : ByteArray) : s.data.toList.length = s.size := Array.length_toList

/-- 't[:]' of an array of 32 bytes. -/
theorem array_all (g : Nat) (W : World) : (Instr.sliceAt 24 (.pointer (some ⟨g, 0, none⟩)) none none none).run Tryd.prog W = .ok (.slice (some ⟨g, 0, none⟩) 32 32) W := by kernel_rfl

/-- '[]byte(s)'. -/
theorem string_bytes (w : World) (s : ByteArray) :
    ∃ cap w', (convert 9 22 (.string s)).run Tryd.prog w = .ok (.slice (some ⟨w.heap.size, 0, none⟩) s.size cap) w' ∧ s.size ≤ cap ∧ BytesAt w' (some ⟨w.heap.size, 0, none⟩) s.data.toList ∧ Below w.heap.size w w' := by
  refine ⟨_, _, run_bytes_of_string (P := Tryd.prog) w 9 22 5 s Tryd.underlying9 Tryd.underlying22 Tryd.underlying5, ?_, fun i hi => ⟨_, rfl, ?_⟩, (Below.refl _ _).drew.alloc (Nat.le_refl _) _⟩
  · exact grownCap_ge _ _ _ _
  · have hh : (w.drew.alloc (.cells (bytesRow s (grownCap w s.size 0 5)) 5 ((bytesRow s (grownCap w s.size 0 5)).size, (bytesRow s (grownCap w s.size 0 5)).size + 1))).heap[w.heap.size]? = some (.cells (bytesRow s (grownCap w s.size 0 5)) 5 ((bytesRow s (grownCap w s.size 0 5)).size, (bytesRow s (grownCap w s.size 0 5)).size + 1)) := by
      show (w.heap.push _)[w.heap.size]? = _
      simp
    have hb := bytesRow_at s (grownCap w s.size 0 5) i (by simpa using hi)
    have he : (⟨w.heap.size, 0, none⟩ : Addr).add i = ⟨w.heap.size, i, none⟩ := by unfold Addr.add; split <;> simp_all
    rw [he, cell_of_row _ w.heap.size i _ _ _ hh, hb]
    simp

set_option maxRecDepth 100000 in
set_option maxHeartbeats 2000000 in
theorem tagged_any (tag : ByteArray) (a : Option Addr) (n cap : Nat) (bs : List UInt8) (w : World) (hK : KT w) (ht : tag.size ≤ 274877906944) (hn : bs.length = n) (hl : n ≤ 274877906944) (hb : BytesAt w a bs) :
    Calls Tryd.prog 15 #[.string tag, .slice a n cap] w fun e w' => e = .returned (.agg (byts (H.tagged tag.data.toList bs))) ∧ Below w.heap.size w w' := by
  have HK := Lib.hid hK; have HB := Lib.hid hb; have HN := Lib.hid hn
  clear hK hb hn
  go_enter Tryd.func15, Tryd.ntmps15
  go_step
  go_step
  refine wp_region_list ?_
  refine wpl_alloc_row rfl 24 rfl (byts (H.outn H.init 0)) (fun _ => by kernel_rfl) ?_
  refine wpList_nil ?_
  rename_i K1 hK1
  refine hK1 _ _ ?_
  clear hK1
  go_simp
  have HD : Hid (Below w.heap.size w (w.alloc (.cells (byts (H.outn H.init 0)) 24)) ∧ (w.alloc (.cells (byts (H.outn H.init 0)) 24)).heap[w.heap.size]? = some (.cells (byts (H.outn H.init 0)) 24 (0, 0)) ∧ w.heap.size < (w.alloc (.cells (byts (H.outn H.init 0)) 24)).heap.size) :=
    Lib.hid ⟨(Below.refl _ _).alloc (Nat.le_refl _) _, heap_alloc_new w _, by simp⟩
  generalize w.alloc (.cells (byts (H.outn H.init 0)) 24) = W0 at HD ⊢
  obtain ⟨tcap, wt, hconv, htc, htb, htw⟩ := string_bytes W0 tag
  have hwt : Below w.heap.size w wt := HD.out.1.trans (htw.mono (Nat.le_of_lt HD.out.2.2))
  have HT := Lib.hid (And.intro htc (And.intro htb (And.intro htw hwt)))
  have HS := Lib.hid (sum_any (some ⟨W0.heap.size, 0, none⟩) tag.size tcap tag.data.toList wt (HK.out.kept hwt HK.out.pos) (str_len tag) (by omega) htc htb)
  clear htc htb htw hwt
  go_wp2_with fail
  refine HS.out.mono ?_
  rintro e w1 ⟨rfl, hb1⟩
  rename_i K2 hK2
  refine hK2 _ _ ?_
  clear hK2
  refine wpl_alloc_row rfl 24 rfl (byts (H.outn H.init 0)) (fun _ => by kernel_rfl) ?_
  refine wpList_store_row rfl 24 _ _ rfl _ (byts (H.sum tag.data.toList)) rfl rfl _ _ (heap_alloc_new _ _) (by rw [byts_size, H.sum_len]; kernel_rfl) (by rw [byts_size, byts_size, H.sum_len, H.outn_len]) (byts_one _) ?_
  rw [World.setRow_alloc_new]
  refine wpList_nil ?_
  have HG : Hid (Below w.heap.size w (w1.alloc (.cells (byts (H.sum tag.data.toList)) 24)) ∧ (w1.alloc (.cells (byts (H.sum tag.data.toList)) 24)).heap[w.heap.size]? = some (.cells (byts (H.outn H.init 0)) 24 (0, 0)) ∧
      (w1.alloc (.cells (byts (H.sum tag.data.toList)) 24)).heap[w1.heap.size]? = some (.cells (byts (H.sum tag.data.toList)) 24 (0, 0)) ∧ w.heap.size < (w1.alloc (.cells (byts (H.sum tag.data.toList)) 24)).heap.size) := Lib.hid (by
    have h2 := HD.out.2.2
    have h3 := HT.out.2.2.1
    have h4 := h3.size
    have h1 : wt.heap.size ≤ w1.heap.size := hb1.size
    refine ⟨HD.out.1.trans ((h3.mono (Nat.le_of_lt h2)).trans ((hb1.mono (by omega)).trans ((Below.refl _ _).alloc (by omega) _))), ?_, heap_alloc_new w1 _, by simp; omega⟩
    rw [Below.heap_alloc _ _ _ (by omega), hb1.block _ (by omega), h3.block _ h2]; exact HD.out.2.1)
  clear HD hb1 HT
  go_simp
  generalize w1.alloc (.cells (byts (H.sum tag.data.toList)) 24) = W1 at HG ⊢
  generalize w1.heap.size = g at HG ⊢
  have HX := Lib.hid (concat2_any (some ⟨g, 0, none⟩) a 32 n 32 cap (H.sum tag.data.toList) bs W1 (BytesAt.row HG.out.2.2.1) (HB.out.kept HG.out.1) (H.sum_len _) HN.out (by omega))
  have HU : Hid (∀ A' c' w', 32 + n ≤ c' → BytesAt w' A' (H.sum tag.data.toList ++ bs) → Below W1.heap.size W1 w' → Calls Tryd.prog 18 #[.slice A' (32 + n) c'] w' fun e w'' => e = .returned (.agg (byts (H.tagged tag.data.toList bs))) ∧ Below W1.heap.size W1 w'') := Lib.hid (fun A' c' w' hc hby hbw => by
    refine (sum_any A' (32 + n) c' (H.sum tag.data.toList ++ bs) w' (HK.out.kept (HG.out.1.trans (hbw.mono HG.out.1.size)) HK.out.pos) (by rw [List.length_append, H.sum_len, HN.out]) (by omega) hc hby).mono ?_
    rintro e w'' ⟨rfl, hb⟩
    exact ⟨rfl, hbw.trans (hb.mono hbw.size)⟩)
  have harr := array_all g
  go_wp2_with fail
  refine HX.out.mono ?_
  rintro e w3 ⟨a4, c4, rfl, hc4, hby4, hb4⟩
  have HC := Lib.hid (HU.out a4 c4 w3 hc4 hby4 hb4)
  clear hc4 hby4 hb4 HX HU
  go_wp2_with fail
  refine HC.out.mono ?_
  rintro e w4 ⟨rfl, hb5⟩
  rename_i K9 hK9
  refine hK9 _ _ ?_
  clear hK9
  have hd5 : w4.heap[w.heap.size]? = some (.cells (byts (H.outn H.init 0)) 24 (0, 0)) := (hb5.block _ HG.out.2.2.2).trans HG.out.2.1
  have hb5w : Below w.heap.size w w4 := HG.out.1.trans (hb5.mono HG.out.1.size)
  refine wpList_store_row rfl 24 _ _ rfl w.heap.size (byts (H.tagged tag.data.toList bs)) rfl rfl _ _ hd5 (by rw [byts_size, H.tagged_len]; kernel_rfl) (by rw [byts_size, byts_size, H.tagged_len, H.outn_len]) (byts_one _) ?_
  refine wpList_nil ?_
  have hrow := setRow_heap w4 w.heap.size _ (byts (H.tagged tag.data.toList bs)) _ _ hd5
  have hbr : Below w.heap.size w (w4.setRow w.heap.size (byts (H.tagged tag.data.toList bs))) := ⟨hb5w.os, hb5w.tape, hb5w.output, by rw [setRow_size]; exact hb5w.size, fun k hk => (setRow_other _ _ _ _ (by omega)).trans (hb5w.block k hk)⟩
  clear hd5 hb5w hb5
  generalize w4.setRow w.heap.size (byts (H.tagged tag.data.toList bs)) = W6 at hrow hbr ⊢
  have HZ := Lib.hid (And.intro hrow hbr)
  clear hrow hbr
  go_wp2_with fail
  refine bodyPost_ret (v := .agg (byts (H.tagged tag.data.toList bs))) ?_ rfl ⟨rfl, HZ.out.2⟩
  exact results_cell_row Tryd.results15 _ _ w.heap.size _ _ _ _ rfl HZ.out.1 Tryd.underlying24 rfl (by rw [byts_size, H.tagged_len]; kernel_rfl)

end Go.Proofs.YthamligdmfhmeaaDoor
