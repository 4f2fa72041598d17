/- Digests compared. -/
import Derived.Test.YthamligdmfhmeaaDoorTree
import Derived.ChangeKeysEq
namespace Go.Proofs.YthamligdmfhmeaaDoor
open Go.RowKit

set_option maxRecDepth 100000 in
theorem part_byts (l : List UInt8) (hl : l.length = 32) (j : Nat) (hj : j < 32) (W : World) : (part 5 (byts l) (j * 1)).run Tryd.prog W = .ok (.int .u8 (H.byte l j)) W := by
  obtain ⟨i0, hi, hz0, hz1, hz2⟩ := info_parts Tryd.infoU8
  simp [part, sizeOf, typeInfo, hi, hz1]
  rw [byts_at (by omega)]
  simp [H.byte, hl, hj]
set_option maxRecDepth 100000 in
theorem eqItems_byts (a b : List UInt8) (ha : a.length = 32) (hb : b.length = 32) (d : Nat) (W : World) : ∀ js : List Nat, (∀ j ∈ js, j < 32) →
    (Op.eqItems (d + 1) 5 1 (byts a) (byts b) js).run Tryd.prog W = .ok (js.all fun j => (H.byte a j : Int) == (H.byte b j : Int)) W
  | [], _ => by simp [Op.eqItems]
  | j :: js, h => by
    have hj := h j (by simp)
    have ih := eqItems_byts a b ha hb d W js (fun x hx => h x (by simp [hx]))
    simp only [Op.eqItems, Sem.run_bind, part_byts a ha j hj, part_byts b hb j hj, Result.andThen_ok, run_equalIn_int W d 5 .u8 .u8 _ _ Tryd.underlying5]
    cases hc : ((H.byte a j : Int) == (H.byte b j : Int))
    · simp [hc]
    · simp [hc, ih]
set_option maxRecDepth 100000 in
theorem bytes_ext {a b : List UInt8} (ha : a.length = 32) (hb : b.length = 32) (h : ∀ j, j < 32 → H.byte a j = H.byte b j) : a = b := by
  apply List.ext_getElem (by omega)
  intro j h1 h2
  have := h j (by omega)
  simp only [H.byte] at this
  rw [List.getD_eq_getElem?_getD, List.getD_eq_getElem?_getD, List.getElem?_eq_getElem h1, List.getElem?_eq_getElem h2] at this
  exact UInt8.toNat_inj.1 this
set_option maxRecDepth 100000 in
/-- '==' between two digests. -/
theorem run_eq32 (a b : List UInt8) (ha : a.length = 32) (hb : b.length = 32) (W : World) : (Op.equalIn 10000 24 (.agg (byts a)) (.agg (byts b))).run Tryd.prog W = .ok (decide (a = b)) W := by
  obtain ⟨i0, hi, hz0, hz1, hz2⟩ := info_parts Tryd.infoU8
  have hc : Tryd.prog.cellsOf 5 = 1 := by kernel_rfl
  rw [run_equalIn_array (P := Tryd.prog) (w := W) 9999 (byts a) (byts b) (n := 32) Tryd.underlying24 hi, hc, eqItems_byts a b ha hb 9998 W (List.range 32) (fun j hj => List.mem_range.1 hj)]
  congr 1
  rw [Bool.eq_iff_iff]
  simp only [List.all_eq_true, List.mem_range, decide_eq_true_eq]
  constructor
  · intro h
    exact bytes_ext ha hb (fun j hj => by
      have h1 := h j hj
      have h2 : (H.byte a j : Int) = (H.byte b j : Int) := by simpa using h1
      omega)
  · rintro rfl j _
    simp
set_option maxRecDepth 100000 in
theorem run_eq_same (a : List UInt8) (ha : a.length = 32) (W : World) : (Op.equalIn 10000 24 (.agg (byts a)) (.agg (byts a))).run Tryd.prog W = .ok true W := by
  rw [run_eq32 a a ha ha]; simp

end Go.Proofs.YthamligdmfhmeaaDoor
