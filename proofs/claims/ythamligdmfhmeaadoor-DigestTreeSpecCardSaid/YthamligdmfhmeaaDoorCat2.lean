/- slices.Concat of two; the tail of a slice. -/
import Derived.Test.YthamligdmfhmeaaDoorSumMath
namespace Go.Proofs.YthamligdmfhmeaaDoor
open Go.RowKit

theorem slice_len0 {ys : List UInt8} {a : Option Addr} {w : World} (h : BytesAt w a ys) (i : Nat) (hi : i < ys.length) : ∃ ad, a = some ad := by
  obtain ⟨ad, h, _⟩ := h i hi
  exact ⟨ad, h⟩

/-- What is asked where the code ends as usual; nothing else may happen. -/
def OnlyN (Q : Exit → Act → World → Prop) : Exit → Act → World → Prop
  | .normal, a, w => Q .normal a w
  | _, _, _ => False
theorem onlyN {Q : Exit → Act → World → Prop} : ∀ e a w, OnlyN Q e a w → Q e a w := fun e a w h => by
  cases e <;> first | exact h | exact h.elim

/-- slices.Concat of two slices of bytes. -/
theorem concat2_any (A B : Option Addr) (nx ny cx cy : Nat) (xs ys : List UInt8) (w : World) (hx : BytesAt w A xs) (hy : BytesAt w B ys) (hnx : xs.length = nx) (hny : ys.length = ny) (hl : nx + ny ≤ 1099511627776) :
    Calls Tryd.prog 30 #[.slice (some ⟨w.heap.size, 0, none⟩) 2 2] (w.alloc (.cells #[.slice A nx cx, .slice B ny cy] 22)) fun e w' =>
      ∃ A' c', e = .returned (.slice A' (nx + ny) c') ∧ nx + ny ≤ c' ∧ BytesAt w' A' (xs ++ ys) ∧ Below w.heap.size w w' := by
  subst hnx hny
  have hb : Below w.heap.size w (w.alloc (.cells #[.slice A xs.length cx, .slice B ys.length cy] 22)) := (Below.refl _ _).alloc (Nat.le_refl _) _
  have hrow := heap_alloc_new w (.cells #[.slice A xs.length cx, .slice B ys.length cy] 22)
  have hcat : H.cat (fun j => if j = 0 then xs else ys) 2 = xs ++ ys := by simp [H.cat]
  have h := concat_any w.heap.size 0 2 2 (fun j => if j = 0 then xs else ys) (fun j => if j = 0 then A else B) (fun j => if j = 0 then cx else cy) (w.alloc (.cells #[.slice A xs.length cx, .slice B ys.length cy] 22)) (by decide) (by simp)
    (fun j hj => by
      rw [cell_of_row _ w.heap.size _ _ _ _ hrow]
      have e : j = 0 ∨ j = 1 := by omega
      rcases e with rfl | rfl
      · exact ⟨rfl, hx.kept hb⟩
      · exact ⟨rfl, hy.kept hb⟩)
    (by rw [hcat, List.length_append]; exact hl)
  rw [hcat] at h
  refine h.mono ?_
  rintro e w' ⟨v, rfl, ho, hbw⟩
  obtain ⟨A', c', rfl, hc, _, hby⟩ := owns_bytesAt ho
  rw [List.length_append] at hc ⊢
  exact ⟨A', c', rfl, hc, hby, hb.trans (hbw.mono (by simp))⟩

theorem add_add (a : Addr) (i j : Nat) : (a.add i).add j = a.add (i + j) := by
  unfold Addr.add
  by_cases hi : i = 0 <;> by_cases hj : j = 0 <;> simp [hi, hj, Nat.add_assoc]

/-- 'b[i:]'. -/
theorem slice_tail (a : Option Addr) (n cap i : Nat) (_ : i ≤ n) (hc : n ≤ cap) (bs : List UInt8) (hbs : bs.length = n) :
    ∃ a' c', (∀ W : World, (Instr.slice 22 (.slice a n cap) (some (.int .i64 (i : Int))) none none).run Tryd.prog W = .ok (.slice a' (n - i) c') W) ∧ n - i ≤ c' ∧ ∀ w, BytesAt w a bs → BytesAt w a' (bs.drop i) := by
  refine ⟨if cap = i then a else a.map (·.add i), cap - i, fun W => ?_, by omega, fun w h j hj => ?_⟩
  · rw [run_slice_l (P := Tryd.prog) (w := W) 22 a n cap (by kernel_rfl) .i64 (i : Int) (by omega) (by omega)]
    have hs : (sizeOf (Tryd.prog.elem 22)).run Tryd.prog W = .ok 1 W := by kernel_rfl
    rw [hs]
    simp only [Result.andThen, sliced, Int.toNat_natCast, Nat.mul_one]
  · rw [List.length_drop] at hj
    obtain ⟨ad, had, hcell⟩ := h (i + j) (by omega)
    rw [if_neg (by omega), had]
    refine ⟨ad.add i, rfl, ?_⟩
    rw [add_add, hcell]; simp

end Go.Proofs.YthamligdmfhmeaaDoor
