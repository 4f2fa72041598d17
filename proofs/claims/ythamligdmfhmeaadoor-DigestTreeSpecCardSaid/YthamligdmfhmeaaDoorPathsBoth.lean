/- Path and the reference's Path at all arguments: the same answer. -/
import Derived.Test.YthamligdmfhmeaaDoorRPathTop
import Derived.Test.YthamligdmfhmeaaDoorPath
import Derived.Test.YthamligdmfhmeaaDoorTrail
namespace Go.Proofs.YthamligdmfhmeaaDoor
open Go.RowKit

/-- What a Path hands back: the list, and the code. -/
def PathRes (ss : List (List UInt8)) (er : Int) (V : World) (e : Ending) (w' : World) : Prop :=
  ∃ A p c, e = .returned (.tuple #[.slice A p c, .int .i64 er]) ∧ p ≤ c ∧ p ≤ 24 ∧ Hid (ss.length = p ∧ DigsAt w' A ss ∧ Below V.heap.size V w')
theorem paths_any (l : List (List UInt8)) (m c : Nat) (A : Option Addr) (x : Int) (hm : l.length = m) (hc : m ≤ c) (h24 : m ≤ 24) :
    ∃ (ss : List (List UInt8)) (er : Int), ∀ V, KT V → DigsAt V A l →
      Calls Tryd.prog 10 #[.slice A m c, .int .i64 x] V (PathRes ss er V) ∧ Calls Tryd.prog 11 #[.slice A m c, .int .i64 x] V (PathRes ss er V) := by
  by_cases hf : x < 0 ∨ (m : Int) ≤ x
  · refine ⟨[], 1, fun V _ _ => ⟨(path_no A m c x V hf).mono ?_, (rpath_no A m c x V hf).mono ?_⟩⟩
    all_goals
      rintro e w' ⟨rfl, rfl⟩
      exact ⟨none, 0, 0, rfl, Nat.le_refl _, by decide, Lib.hid ⟨rfl, ⟨fun d h => by simp at h, fun i hi => by simp at hi⟩, Below.refl _ _⟩⟩
  obtain ⟨i, rfl⟩ : ∃ i : Nat, x = i := ⟨x.toNat, by omega⟩
  have him : i < m := by omega
  have hs32 := H.sibsF_len m l i
  have hsh := H.sibsF_short m l i
  refine ⟨H.sibsF m l i, 0, fun V hK hd => ⟨(path_all A m c i l V hK hm hc (by omega) him hd).mono ?_, (rpath_ok A m c i l V hK hm hc (by omega) him hd).mono ?_⟩⟩
  all_goals
    rintro e w' ⟨A1, p, c1, rfl, hp, ho, hb⟩
    obtain ⟨a', c', he, hc', hda⟩ := owns_digs ho hs32
    cases he
    exact ⟨A1, p, c1, rfl, hc', by omega, Lib.hid ⟨hp, hda, hb⟩⟩

end Go.Proofs.YthamligdmfhmeaaDoor
