/- SHA-256 in bytes. -/
import Derived.Test.YthamligdmfhmeaaDoorChunk
namespace Go.Proofs.YthamligdmfhmeaaDoor
open Go.RowKit

namespace H
/-- A piece of 64 bytes. -/
def chunk (l : List UInt8) (x : Nat) : List UInt8 := (l.drop (64 * x)).take 64
/-- The state behind these pieces. -/
def fold (l : List UInt8) (s : St) (pre : List Nat) : St := pre.foldl (fun s x => s.block (chunk l x)) s
theorem fold_snoc (l : List UInt8) (s : St) (pre : List Nat) (x : Nat) : fold l s (pre ++ [x]) = (fold l s pre).block (chunk l x) := by simp [fold]
theorem add_ok (s t : St) : (s.add t).ok := by
  refine ⟨?_, ?_, ?_, ?_, ?_, ?_, ?_, ?_⟩ <;> exact Nat.mod_lt _ (by decide)
theorem block_ok {s : St} (bs : List UInt8) : (s.block bs).ok := add_ok _ _
theorem fold_ok (l : List UInt8) {s : St} (h : s.ok) (pre : List Nat) : (fold l s pre).ok := by
  rcases List.eq_nil_or_concat pre with rfl | ⟨p, x, rfl⟩
  · simpa only [fold, List.foldl_nil] using h
  · rw [List.concat_eq_append, fold_snoc]; exact block_ok _
theorem fold_congr {l l' : List UInt8} {s : St} {pre : List Nat} (h : ∀ x ∈ pre, chunk l x = chunk l' x) : fold l s pre = fold l' s pre := by
  induction pre generalizing s with
  | nil => simp only [fold, List.foldl_nil]
  | cons x r ih =>
    simp only [fold, List.foldl_cons] at *
    rw [h x (by simp)]
    exact ih (fun y hy => h y (by simp [hy]))
theorem chunk_len {l : List UInt8} {x m : Nat} (h : l.length = 64 * m) (hx : x < m) : (chunk l x).length = 64 := by
  simp [chunk]; omega
theorem pad_len (n : Nat) : (n + (pad n).length) % 64 = 0 := by
  rw [pad, padn_len]; omega
/-- The hash. -/
def sum (bs : List UInt8) : List UInt8 := out (fold (bs ++ pad bs.length) init (List.range ((bs.length + (pad bs.length).length) / 64)))
theorem sum_len (bs : List UInt8) : (sum bs).length = 32 := out_len _
/-- In two parts. -/
theorem sum_parts (bs : List UInt8) {m1 m2 : Nat} (h1 : m1 = bs.length / 64) (h2 : (bs.drop (64 * m1) ++ pad bs.length).length = 64 * m2) :
    sum bs = out (fold (bs.drop (64 * m1) ++ pad bs.length) (fold bs init (List.range m1)) (List.range m2)) := by
  have hle : 64 * m1 ≤ bs.length := by omega
  have hm : (bs.length + (pad bs.length).length) / 64 = m1 + m2 := by
    simp only [List.length_append, List.length_drop] at h2; omega
  rw [sum, hm, List.range_add]
  simp only [fold, List.foldl_append, List.foldl_map]
  have e1 : List.foldl (fun s x => s.block (chunk (bs ++ pad bs.length) x)) init (List.range m1) = List.foldl (fun s x => s.block (chunk bs x)) init (List.range m1) :=
    fold_congr (l := bs ++ pad bs.length) (l' := bs) (fun x hx => by
      have hx' : x < m1 := List.mem_range.1 hx
      rw [chunk, chunk, List.drop_append_of_le_length (by omega), List.take_append_of_le_length (by simp; omega)])
  rw [e1]
  have e2 : ∀ x, chunk (bs ++ pad bs.length) (m1 + x) = chunk (bs.drop (64 * m1) ++ pad bs.length) x := fun x => by
    rw [chunk, chunk, show 64 * (m1 + x) = 64 * m1 + 64 * x from by omega, ← List.drop_drop, List.drop_append_of_le_length hle]
  simp only [e2]
theorem byte_chunk {l : List UInt8} {y i : Nat} (hi : i < 64) : byte (chunk l y) i = byte l (64 * y + i) := by
  simp only [byte, chunk, List.getD_eq_getElem?_getD]
  rw [List.getElem?_take_of_lt hi, List.getElem?_drop]
/-- The state behind these pieces, numbers modulo m. -/
def foldm (l : List UInt8) (s : St) (m : Nat) (pre : List Nat) : St := fold l s (pre.map (· % m))
theorem foldm_snoc (l : List UInt8) (s : St) (m : Nat) (pre : List Nat) (x : Nat) : foldm l s m (pre ++ [x]) = (foldm l s m pre).block (chunk l (x % m)) := by
  rw [foldm, List.map_append, List.map_cons, List.map_nil, fold_snoc, foldm]
theorem foldm_range (l : List UInt8) (s : St) (m : Nat) : foldm l s m (List.range m) = fold l s (List.range m) := by
  rw [foldm]
  congr 1
  conv => rhs; rw [← List.map_id (List.range m)]
  exact List.map_congr_left (fun x hx => Nat.mod_eq_of_lt (List.mem_range.1 hx))
theorem foldm_nil (l : List UInt8) (s : St) (m : Nat) : foldm l s m [] = s := by
  rw [foldm, List.map_nil]; simp only [fold, List.foldl_nil]
theorem foldm_ok (l : List UInt8) {s : St} (h : s.ok) (m : Nat) (pre : List Nat) : (foldm l s m pre).ok := fold_ok _ h _
end H

/-- Bytes in memory, by block and offset. -/
theorem BytesAt.plain {w : World} {a : Option Addr} {bs : List UInt8} (h : BytesAt w a bs) : ∃ b off, 0 < bs.length → a = some ⟨b, off, none⟩ ∧ b < w.heap.size ∧ ∀ i, i < bs.length → w.cell? ⟨b, off + i, none⟩ = some (.int .u8 (H.byte bs i)) := by
  by_cases h0 : 0 < bs.length
  · obtain ⟨ad, ha, hc⟩ := h 0 h0
    obtain ⟨b, off, spot⟩ := ad
    have hs : spot = none := by simpa [Addr.add] using World.cell?_spot hc
    subst hs
    refine ⟨b, off, fun _ => ⟨ha, by have := cell_block hc; rwa [block_add] at this, fun i hi => ?_⟩⟩
    obtain ⟨ad', ha', hc'⟩ := h i hi
    rw [ha] at ha'
    simp only [Option.some.injEq] at ha'
    subst ha'
    have e : (⟨b, off, none⟩ : Addr).add i = ⟨b, off + i, none⟩ := by unfold Addr.add; split <;> simp_all
    rw [e] at hc'
    rw [hc', H.byte]
    simp [hi]
  · exact ⟨0, 0, fun h => absurd h h0⟩

end Go.Proofs.YthamligdmfhmeaaDoor
