/- append of bytes, at a step of a region that draws its order. -/
import Derived.Test.YthamligdmfhmeaaDoorDigs
import Derived.Maps.AppendAt
import Derived.Great.BuildSlice
namespace Go.Proofs.YthamligdmfhmeaaDoor
open Go.RowKit

theorem run_cat {w : World} (base : Nat) (v : Value) (n : Nat) (xs : List UInt8) (hown : w.ownsRow base 5 1 v n (bytes xs)) (A : Option Addr) (m c : Nat) (ys : List UInt8)
    (hm : ys.length = m) (hy : BytesAt w A ys) (hn : n + m ≤ 140737488355327) (hb : base ≤ w.heap.size) (ty : TypeId) :
    ∃ v' w', (Builtin.append_ #[22, 22] ty #[v, .slice A m c]).run Tryd.prog w = .ok v' w' ∧ w'.ownsRow base 5 1 v' (n + m) (bytes (xs ++ ys)) ∧ Keeps base w w' := by
  obtain ⟨i0, hi, hz0, hz1, hz2⟩ := info_parts Tryd.infoU8
  cases A with
  | none =>
    have hy0 : ys = [] := by
      rcases Nat.eq_zero_or_pos ys.length with h0 | h0
      · exact List.length_eq_zero_iff.1 h0
      · obtain ⟨ad, ha, _⟩ := hy 0 h0; simp at ha
    subst hy0
    obtain rfl : m = 0 := by simpa using hm.symm
    refine ⟨v, w, ?_, by simpa using hown, Keeps.refl _ _⟩
    rcases hown.2 with ⟨rfl, rfl⟩ | ⟨g, cap, cur, rfl, _, _, hnc, _⟩
    · simp [Builtin.append_, run_underlying Tryd.underlying22, sizeOf, typeInfo, hi, Builtin.lenOf, Builtin.firstCells]
    · simp [Builtin.append_, run_underlying Tryd.underlying22, sizeOf, typeInfo, hi, Builtin.lenOf, Builtin.firstCells, hnc, storeCells]
  | some ad =>
    obtain ⟨v', w', hr, h2, h3, _, _⟩ := run_append_own_at (P := Tryd.prog) (w := w) base 22 ty 5 i0 (.int .u8 0) 1 1 Tryd.underlying22 hi hz0 hz1 hz2 rfl (by decide) v n (bytes xs) hown ad m c (bytes ys) (by rw [bytes_len, hm]; omega) (fun j u hj => by
      have hjl : j < ys.length := by have := (List.getElem?_eq_some_iff.1 hj).1; rwa [bytes_len] at this
      obtain ⟨ad', ha, hc⟩ := hy j hjl
      simp only [Option.some.injEq] at ha
      subst ha
      rw [hc]
      simp [bytes, hjl] at hj
      rw [← hj]) (bytes_cells _) (by unfold maxLen; omega) (by omega) hb
    exact ⟨v', w', hr, by rw [bytes_append]; exact h2, Keeps.grown (Keeps.refl _ _) hown h3⟩

theorem step_cat {ops : Array Oper} {o : Oper} {a : Act} {K : Act → World → Prop} {Q : Exit → Act → World → Prop} {E : Prop} {w : World} (hgd : o.guard = none) (s x : Operand)
    (ho : o.op = .call { callee := .builtin .append, args := #[s, x], argTypes := #[22, 22] })
    (base : Nat) (v : Value) (n : Nat) (xs : List UInt8) (hs : a.eval s = v) (hown : w.ownsRow base 5 1 v n (bytes xs)) (A : Option Addr) (m c : Nat) (ys : List UInt8)
    (hx : a.eval x = .slice A m c) (hm : ys.length = m) (hy : BytesAt w A ys) (hn : n + m ≤ 140737488355327) (hb : base ≤ w.heap.size)
    (h : ∀ A' c' w', w'.ownsRow base 5 1 (.slice A' (n + m) c') (n + m) (bytes (xs ++ ys)) → Keeps base w w' → K (a.put o.dst (.slice A' (n + m) c')) w') :
    if Region.wanted o (yielded ops a.tmps) = true then Oper.wp Tryd.prog o a w K Q else E := by
  obtain ⟨v', w', hr, h2, h3⟩ := run_cat base v n xs hown A m c ys hm hy hn hb o.type
  have hw : Region.wanted o (yielded ops a.tmps) = true := by simp [Region.wanted, hgd]
  rw [if_pos hw]
  obtain ⟨A', c', rfl, _, _, _⟩ := owns_bytesAt h2
  unfold Oper.wp execOp
  simp only [ho, resolve, invoke, builtin, Sem.run_bind, Sem.run_pure, Result.andThen_ok, List.map_toArray, List.map_cons, List.map_nil, hs, hx, hr]
  exact h A' c' w' h2 h3

theorem owns_slice {w : World} {base n c : Nat} {A : Option Addr} {bs : List UInt8} (h : w.ownsRow base 5 1 (.slice A n c) n (bytes bs)) : n ≤ c ∧ BytesAt w A bs := by
  obtain ⟨a, cap, he, h1, _, h2⟩ := owns_bytesAt h
  cases he
  exact ⟨h1, h2⟩
theorem owns_kept {base : Nat} {e : TypeId} {k : Nat} {v : Value} {n : Nat} {xs : List Value} {w w' : World} (h : w.ownsRow base e k v n xs) (hb : Below w.heap.size w w') : w'.ownsRow base e k v n xs :=
  ⟨h.1, h.2.imp id fun ⟨g, cap, cur, h1, h2, h3, h4⟩ => ⟨g, cap, cur, h1, h2, (hb.block g (Array.getElem?_eq_some_iff.1 h3).1).trans h3, h4⟩⟩
/-- '[]byte{}'. -/
theorem owns_none (base : Nat) (W : World) (hb : base ≤ W.heap.size) : (W.alloc (.cells #[] 5 (0, 0))).ownsRow base 5 1 (.slice (some ⟨W.heap.size, 0, none⟩) 0 0) 0 (bytes []) :=
  ⟨rfl, .inr ⟨W.heap.size, 0, #[], rfl, hb, heap_alloc_new W _, Nat.le_refl _, by decide, rfl, rfl⟩⟩
end Go.Proofs.YthamligdmfhmeaaDoor
