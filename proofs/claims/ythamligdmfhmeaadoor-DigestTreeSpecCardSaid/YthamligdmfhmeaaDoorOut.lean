/- Contracts of digest's initial and of the method that returns the words as bytes. -/
import Derived.Test.YthamligdmfhmeaaDoorAbsorb
namespace Go.Proofs.YthamligdmfhmeaaDoor
open Go.RowKit

namespace H
/-- The state in the beginning. -/
def init : St := ⟨1779033703, 3144134277, 1013904242, 2773480762, 1359893119, 2600822924, 528734635, 1541459225⟩
theorem init_ok : init.ok := by simp [St.ok, init]
/-- A byte of the hash. -/
def outb (s : St) (i : Nat) : Nat := s.list.getD (i / 4) 0 / 2 ^ (8 * (3 - i % 4)) % 256
theorem outb_lt (s : St) (i : Nat) : outb s i < 256 := Nat.mod_lt _ (by decide)
/-- The first n bytes of the hash, and zeros. -/
def outn (s : St) : Nat → List UInt8
  | 0 => List.replicate 32 0
  | n + 1 => (outn s n).set n (UInt8.ofNat (outb s n))
theorem outn_len (s : St) : ∀ n, (outn s n).length = 32
  | 0 => by simp [outn]
  | n + 1 => by simp [outn, outn_len s n]
/-- The words of a state as bytes. -/
def out (s : St) : List UInt8 := outn s 32
theorem out_len (s : St) : (out s).length = 32 := outn_len s 32
theorem list_len (s : St) : s.list.length = 8 := rfl
theorem list_lt {s : St} (h : s.ok) : ∀ x ∈ s.list, x < 4294967296 := by
  obtain ⟨h1, h2, h3, h4, h5, h6, h7, h8⟩ := h
  simp [St.list]; omega
end H
/-- Bytes in memory. -/
def byts (l : List UInt8) : Array Value := (l.map fun b => Value.int .u8 b.toNat).toArray
theorem byts_size (l : List UInt8) : (byts l).size = l.length := by simp [byts]
theorem byts_at {l : List UInt8} {i : Nat} (h : i < l.length) : (byts l)[i]? = some (.int .u8 (l[i].toNat : Nat)) := by simp [byts, h]
theorem byts_one (l : List UInt8) : (byts l).all (·.oneCell') = true := by
  rw [Array.all_eq_true]; intro i h; simp [byts, Value.oneCell']
theorem byts_set (l : List UInt8) (i n : Nat) (h : n < 256) : (byts l).setIfInBounds i (.int .u8 (n : Int)) = byts (l.set i (UInt8.ofNat n)) := by
  apply Array.ext_getElem?
  intro j
  simp only [byts]
  rw [Array.getElem?_setIfInBounds]
  simp only [List.getElem?_toArray, List.getElem?_map, List.getElem?_set, List.size_toArray, List.length_map]
  split
  · rename_i h; subst h
    by_cases h2 : i < l.length
    · simp [h2, Nat.mod_eq_of_lt h]
    · simp [h2]
  · rfl
theorem byts_cell {w : World} {B : Nat} {l : List UInt8} {t : TypeId} (h : w.heap[B]? = some (.cells (byts l) t (0, 0))) {i : Nat} (hi : i < l.length) : w.cell? ⟨B, i, none⟩ = some (.int .u8 (H.byte l i : Nat)) ∧ w.frozen? ⟨B, i, none⟩ = false := by
  refine ⟨?_, frozen_of_row w B i _ _ h⟩
  rw [cell_of_row w B i _ _ _ h, byts_at hi]
  simp [H.byte, hi]
theorem byts_store {w : World} {B : Nat} {l : List UInt8} {t : TypeId} (h : w.heap[B]? = some (.cells (byts l) t (0, 0))) (i n : Nat) (hn : n < 256) : (w.setCell ⟨B, i, none⟩ (.int .u8 (n : Int))).heap[B]? = some (.cells (byts (l.set i (UInt8.ofNat n))) t (0, 0)) := by
  rw [heap_setCell_same w B i _ _ _ h, byts_set _ _ _ hn]
theorem Tryd.size32 : (Tryd.prog.info? 24).map (·.size) = some 32 := by kernel_rfl

set_option maxRecDepth 100000 in
set_option maxHeartbeats 400000 in
theorem initial_any (w : World) : Calls Tryd.prog 32 #[] w fun e w' => e = .returned (.agg (words H.init.list)) ∧ Below w.heap.size w w' := by
  go_enter Tryd.func32, Tryd.ntmps32
  go_wp2
  refine bodyPost_ret (v := .agg (words H.init.list)) ?_ rfl ⟨rfl, (Below.refl _ _).alloc (Nat.le_refl _) _⟩
  exact results_cell_row Tryd.results32 _ _ w.heap.size _ (words H.init.list) _ _ rfl (heap_alloc_new w _) Tryd.underlying54 rfl (by kernel_rfl)

set_option maxRecDepth 100000 in
set_option maxHeartbeats 1000000 in
theorem digestOut_any (s : H.St) (hs : s.ok) (g : Nat) (w : World) (hg : w.heap[g]? = some (.cells (words s.list) 54 (0, 0))) :
    Calls Tryd.prog 36 #[.pointer (some ⟨g, 0, none⟩)] w fun e w' => e = .returned (.agg (byts (H.out s))) ∧ Below w.heap.size w w' := by
  have hglt : g < w.heap.size := (Array.getElem?_eq_some_iff.1 hg).1
  go_enter Tryd.func36, Tryd.ntmps36
  go_step
  go_step
  refine wp_region_list ?_
  refine wpl_alloc_row rfl 24 rfl (byts (H.outn s 0)) (fun _ => by kernel_rfl) ?_
  refine wpList_nil ?_
  have HB : Hid ((w.alloc (.cells (byts (H.outn s 0)) 24)).heap[w.heap.size]? = some (.cells (byts (H.outn s 0)) 24 (0, 0)) ∧ Below w.heap.size w (w.alloc (.cells (byts (H.outn s 0)) 24))) := Lib.hid ⟨heap_alloc_new w _, (Below.refl _ _).alloc (Nat.le_refl _) _⟩
  have HG := Lib.hid hg
  have HS := Lib.hid (H.list_lt hs)
  clear hg hs
  rename_i K1 hK1
  refine hK1 _ _ ?_
  clear hK1
  go_simp
  generalize w.alloc (.cells (byts (H.outn s 0)) 24) = W0 at HB ⊢
  go_wp2_with fail
  go_loopw [4] (fun ii wr => ∃ i : Nat, i ≤ 32 ∧ ii = .int .i64 i ∧ Hid (wr.heap[w.heap.size]? = some (.cells (byts (H.outn s i)) 24 (0, 0)) ∧ Below w.heap.size w wr))
    (fun ii _ => 32 - (intOf ii).toNat)
  case atStart => exact ⟨0, Nat.zero_le _, rfl, HB⟩
  case round =>
    obtain ⟨i, hi, rfl, HI⟩ := hrel
    by_cases hlt : i < 32
    · obtain ⟨cx, _⟩ := words_cell ((HI.out.2.block g hglt).trans HG.out) (i := i / 4) (by rw [H.list_len]; omega)
      have hxl := H.getD_lt HS.out (i / 4)
      obtain ⟨co, fo⟩ := byts_cell HI.out.1 (i := i) (by rw [H.outn_len]; exact hlt)
      generalize hx : s.list.getD (i / 4) 0 = x at cx hxl
      have HX := Lib.hid hx
      clear hx
      go_wp2_with fail
      have e1 : (x : Int) / 2 ^ (8 * (3 - i % 4)) % 256 = ((x / 2 ^ (8 * (3 - i % 4)) % 256 : Nat) : Int) := by simp
      rw [e1]
      have HN : Hid ((wr.setCell ⟨w.heap.size, i, none⟩ (.int .u8 ((x / 2 ^ (8 * (3 - i % 4)) % 256 : Nat) : Int))).heap[w.heap.size]? = some (.cells (byts (H.outn s (i + 1))) 24 (0, 0)) ∧ Below w.heap.size w (wr.setCell ⟨w.heap.size, i, none⟩ (.int .u8 ((x / 2 ^ (8 * (3 - i % 4)) % 256 : Nat) : Int)))) := Lib.hid (by
        have h := byts_store HI.out.1 i (x / 2 ^ (8 * (3 - i % 4)) % 256) (Nat.mod_lt _ (by decide))
        refine ⟨?_, HI.out.2.setCell (p := ⟨w.heap.size, i, none⟩) (Nat.le_refl _) _⟩
        rw [h, H.outn, H.outb, HX.out])
      go_roundw
      case rel => exact ⟨i + 1, by omega, by go_num, HN⟩
      case measure => simp [intOf]; omega
    · have hi32 : i = 32 := by omega
      have HR : Hid (wr.heap[w.heap.size]? = some (.cells (byts (H.out s)) 24 (0, 0)) ∧ Below w.heap.size w wr) := by rw [hi32] at HI; exact HI
      clear hi32 HI HB
      go_upto_region 6 with (fail)
      refine wp_region_list ?_
      refine wpList_load_row rfl 24 _ rfl w.heap.size rfl _ _ _ _ HR.out.1 Tryd.underlying24 rfl (by rw [byts_size, H.out_len]; kernel_rfl) ?_
      refine wpList_store_row rfl 24 _ _ rfl w.heap.size (byts (H.out s)) rfl rfl _ _ HR.out.1 (by rw [byts_size, H.out_len]; kernel_rfl) rfl (byts_one _) ?_
      rw [setRow_self _ _ _ _ _ HR.out.1]
      refine wpList_nil ?_
      go_wp2_with fail
      refine bodyPost_ret (v := .agg (byts (H.out s))) ?_ rfl ⟨rfl, HR.out.2⟩
      exact results_cell_row Tryd.results36 _ _ w.heap.size _ _ _ _ rfl HR.out.1 Tryd.underlying24 rfl (by rw [byts_size, H.out_len]; kernel_rfl)

end Go.Proofs.YthamligdmfhmeaaDoor
