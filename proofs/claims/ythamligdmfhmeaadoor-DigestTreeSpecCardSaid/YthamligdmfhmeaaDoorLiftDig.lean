/- Arguments of type Digest. -/
import Derived.Test.YthamligdmfhmeaaDoorLift
import Derived.Test.YthamligdmfhmeaaDoorEq
namespace Go.Proofs.YthamligdmfhmeaaDoor
open Go.ChangeShapes Go.WideShapes Go.ChangeAt Go.RowKit

set_option maxRecDepth 100000 in
theorem open_dig {H : Type} {enc : TypeId × Value → H} {W : World} {b0 : Nat} {sp : Nat → Bool} {held : Bool} {v : Value} {d : DataW H} {ps : List MemPlace} (hv : Value.okWide Tryd.prog W .any b0 24 v) (h : DataW.Trod enc Tryd.prog W 0 sp held 24 v d ps) :
    ∃ l : List UInt8, l.length = 32 ∧ v = .agg (byts l) := by
  have hw := hv
  simp only [Value.okWide, Tryd.underlying24] at hw
  obtain ⟨cs, rfl, hsz, _⟩ := hw
  have c26 : Tryd.prog.cellsOf 24 = 32 := by kernel_rfl
  have c5 : Tryd.prog.cellsOf 5 = 1 := by kernel_rfl
  rw [c26] at hsz
  obtain ⟨fuel, hf⟩ := h
  obtain ⟨xs, m, _, _, _, hlen, hall⟩ := DataW.trod_array Tryd.underlying24 hf
  have hone : ∀ i (hi : i < 32), ∃ n : Nat, n < 256 ∧ cs[i]? = some (.int .u8 n) := fun i hi => by
    have h1 := hall i hi
    rw [List.getElem?_eq_getElem (by omega)] at h1
    obtain ⟨a, e0, _, wa⟩ := DataW.trod_int Tryd.underlying5 h1
    have hb := int_bounds8 wa
    obtain ⟨n, rfl⟩ : ∃ n : Nat, a = n := ⟨a.toNat, by omega⟩
    refine ⟨n, by omega, ?_⟩
    have h2 : (cs.toList.drop (i * 1)).take 1 = [.int .u8 n] := by
      rw [c5] at e0
      simpa [Value.cells] using e0
    have h3 : ((cs.toList.drop (i * 1)).take 1)[0]? = some (.int .u8 n) := by rw [h2]; rfl
    simpa using h3
  refine ⟨(List.range 32).map fun i => UInt8.ofNat (intOf (cs[i]?.getD undef)).toNat, by simp, ?_⟩
  congr 1
  apply Array.ext_getElem?
  intro i
  rcases Nat.lt_or_ge i 32 with hi | hi
  · obtain ⟨n, hn, hc⟩ := hone i hi
    rw [byts_at (by simpa using hi), hc]
    simp [hc, intOf, Nat.mod_eq_of_lt hn]
  · rw [Array.getElem?_eq_none (by omega), Array.getElem?_eq_none (by rw [byts_size]; simpa using hi)]

end Go.Proofs.YthamligdmfhmeaaDoor
