/- Slices of bytes in memory: read, owned, appended to. -/
import Derived.Test.YthamligdmfhmeaaDoorOut
import Derived.Laws.OwnMore
import Derived.Deep.AppendLies
import Derived.Maps.AppendAt
import Derived.OwnWalk
import Derived.Lib.AppendZerosOnto
import Derived.Lib.SliceRun
namespace Go.Proofs.YthamligdmfhmeaaDoor
open Go.RowKit

/-- Bytes as values. -/
def bytes (l : List UInt8) : List Value := l.map fun b => .int .u8 b.toNat
theorem bytes_append (a b : List UInt8) : bytes (a ++ b) = bytes a ++ bytes b := by simp [bytes]
theorem bytes_len (a : List UInt8) : (bytes a).length = a.length := by simp [bytes]
theorem bytes_one (a : List UInt8) (u : Nat) (h : u < 256) : bytes a ++ [.int .u8 u] = bytes (a ++ [UInt8.ofNat u]) := by
  simp [bytes, Nat.mod_eq_of_lt h]
theorem bytes_cells (a : List UInt8) : ∀ u ∈ bytes a, u.oneCell' = true := by
  intro u hu
  obtain ⟨b, _, rfl⟩ := List.mem_map.1 hu
  rfl

/-- A slice's memory reads as these bytes. -/
def BytesAt (w : World) (a : Option Addr) (bs : List UInt8) : Prop := ∀ i (h : i < bs.length), ∃ ad, a = some ad ∧ w.cell? (ad.add i) = some (.int .u8 (bs[i]).toNat)
theorem bytesAt_nil (w : World) (a : Option Addr) : BytesAt w a [] := fun i hi => by simp at hi
theorem cell_block {w : World} {p : Addr} {v : Value} (h : w.cell? p = some v) : p.block < w.heap.size := by
  simp only [World.cell?] at h
  by_cases hp : p.block < w.heap.size
  · exact hp
  · rw [Array.getElem?_eq_none (Nat.le_of_not_lt hp)] at h; simp at h
theorem block_add (a : Addr) (n : Nat) : (a.add n).block = a.block := by unfold Addr.add; split <;> rfl
theorem BytesAt.kept {w w' : World} {a : Option Addr} {bs : List UInt8} (h : BytesAt w a bs) (hb : Below w.heap.size w w') : BytesAt w' a bs := fun i hi => by
  obtain ⟨ad, ha, hc⟩ := h i hi
  exact ⟨ad, ha, (hb.cell (cell_block hc)).trans hc⟩
theorem BytesAt.but {w w' : World} {a : Option Addr} {bs : List UInt8} {g : Nat} (h : BytesAt w a bs) (hb : But g w w') (hg : ∀ ad, a = some ad → ad.block ≠ g) : BytesAt w' a bs := fun i hi => by
  obtain ⟨ad, ha, hc⟩ := h i hi
  refine ⟨ad, ha, ?_⟩
  have hlt := cell_block hc
  have hn := hg ad ha
  rw [← hc]
  simp only [World.cell?, hb.block _ hlt (by rw [block_add]; exact hn)]
theorem owns_bytesAt {w : World} {base n : Nat} {v : Value} {bs : List UInt8} (h : w.ownsRow base 5 1 v n (bytes bs)) : ∃ a cap, v = .slice a n cap ∧ n ≤ cap ∧ bs.length = n ∧ BytesAt w a bs := by
  have hl := h.1
  rw [bytes_len] at hl
  rcases h.2 with ⟨rfl, rfl⟩ | ⟨g, cap, cur, rfl, _, _, hc, _⟩
  · exact ⟨none, 0, rfl, Nat.le_refl _, by omega, fun i hi => by omega⟩
  · exact ⟨_, cap, rfl, hc, by omega, fun i hi => ⟨_, rfl, h.cells (g := g) rfl i _ (by simp [bytes, hi])⟩⟩

/-- What was there stays as it was, but for rows from block number base on. -/
structure Keeps (base : Nat) (w w' : World) : Prop where
  os : w'.os = w.os
  tape : w'.tape = w.tape
  output : w'.output = w.output
  size : w.heap.size ≤ w'.heap.size
  block : ∀ k, k < w.heap.size → (k < base ∨ ∀ cur f, w.heap[k]? ≠ some (.cells cur 5 f)) → w'.heap[k]? = w.heap[k]?
theorem Keeps.refl (base : Nat) (w : World) : Keeps base w w := ⟨rfl, rfl, rfl, Nat.le_refl _, fun _ _ _ => rfl⟩
theorem Keeps.trans {base : Nat} {a b c : World} (h : Keeps base a b) (k : Keeps base b c) : Keeps base a c :=
  ⟨k.os.trans h.os, k.tape.trans h.tape, k.output.trans h.output, Nat.le_trans h.size k.size, fun i hi hn => by
    have h1 := h.block i hi hn
    have h2 := k.block i (Nat.lt_of_lt_of_le hi h.size) (by rw [h1]; exact hn)
    exact h2.trans h1⟩
theorem Keeps.drew {base : Nat} {a w : World} (h : Keeps base a w) : Keeps base a w.drew := ⟨h.os, h.tape, h.output, h.size, h.block⟩
theorem Keeps.alloc {base : Nat} {a w : World} (h : Keeps base a w) (o : Obj) : Keeps base a (w.alloc o) :=
  h.trans ⟨rfl, rfl, rfl, by simp, fun k hk _ => Below.heap_alloc _ _ _ hk⟩
theorem Keeps.below {base : Nat} {a w : World} (h : Keeps base a w) (hb : base ≤ a.heap.size) : Below base a w :=
  ⟨h.os, h.tape, h.output, h.size, fun k hk => h.block k (by omega) (.inl hk)⟩
theorem Keeps.of_below {base : Nat} {a w : World} (h : Below a.heap.size a w) : Keeps base a w :=
  ⟨h.os, h.tape, h.output, h.size, fun k hk _ => h.block k hk⟩
/-- Behind a law on append: the row that it may have written is one of bytes, from base on. -/
theorem Keeps.grown {base : Nat} {n : Nat} {v : Value} {xs : List Value} {a w w' : World} (h : Keeps base a w) (ho : w.ownsRow base 5 1 v n xs) (hg : w.grownBy w' v.ownBlock) : Keeps base a w' :=
  h.trans ⟨hg.os, hg.tape, hg.output, hg.size, fun k hk hn => hg.block k hk fun hv => by
    rcases ho.2 with ⟨rfl, _⟩ | ⟨g, cap, cur, rfl, hb, hgg, _⟩
    · simp [Value.ownBlock] at hv
    · simp [Value.ownBlock] at hv; subst hv
      rcases hn with hn | hn
      · omega
      · exact hn cur (0, 0) hgg⟩
/-- A block that is no row of bytes is as it was. -/
theorem Keeps.other {base : Nat} {a w : World} (h : Keeps base a w) {k : Nat} {cur : Array Value} {t : TypeId} {f : Nat × Nat} (hk : a.heap[k]? = some (.cells cur t f)) (ht : t ≠ 5) : w.heap[k]? = some (.cells cur t f) := by
  rw [h.block k (Array.getElem?_eq_some_iff.1 hk).1 (.inr fun c g hc => by rw [hk] at hc; simp at hc; exact ht hc.2.1)]
  exact hk

theorem Tryd.infoU8 : (Tryd.prog.info? 5).map (fun i => (i.zero, i.size, i.bytes)) = some (some (.int .u8 0), 1, 1) := by kernel_rfl

theorem cells_one (w : World) (v : Value) (t : TypeId) : ∀ j u, [v][j]? = some u → (w.alloc (.cells #[v] t)).cell? ((⟨w.heap.size, 0, none⟩ : Addr).add j) = some u := by
  intro j u hj
  match j, hj with
  | 0, hj => simp at hj; subst hj; simp [Addr.add]

/-- 'append(b, c)', b a slice of bytes that the caller owns, c one byte, which lies in a new cell. -/
theorem wpl_push {ops : Array Oper} {rest : List Oper} {o : Oper} {a : Act} {Q : Exit → Act → World → Prop} {w : World} (hgd : o.guard = none) (s x : Operand)
    (ho : o.op = .call { callee := .builtin .append, args := #[s, x], argTypes := #[22, 22] })
    (base : Nat) (v : Value) (n : Nat) (xs : List UInt8) (hs : a.eval s = v) (hown : w.ownsRow base 5 1 v n (bytes xs)) (k : Int)
    (hx : a.eval x = .slice (some ⟨w.heap.size, 0, none⟩) 1 1) (h0 : 0 ≤ k) (h1 : k < 256) (hn : n ≤ 140737488355327) (hb : base ≤ w.heap.size)
    (h : ∀ v' w', w'.ownsRow base 5 1 v' (n + 1) (bytes (xs ++ [UInt8.ofNat k.toNat])) → Keeps base w w' → wpList Tryd.prog ops Q rest (a.put o.dst v') w') :
    wpList Tryd.prog ops Q (o :: rest) a (w.alloc (.cells #[.int .u8 k] 5)) := by
  obtain ⟨i0, hi, hz0, hz1, hz2⟩ := info_parts Tryd.infoU8
  refine wpList_append_own _ hgd s x 22 ho base 5 i0 (.int .u8 0) 1 1 Tryd.underlying22 hi hz0 hz1 hz2 rfl (by decide) v n (bytes xs) hs (hown.alloc _) ⟨w.heap.size, 0, none⟩ 1 1 [.int .u8 k] hx rfl (cells_one _ _ _) ?_ ?_ ?_ ?_ ?_
  · intro u hu; simp at hu; subst hu; rfl
  · unfold maxLen; omega
  · omega
  · simp; omega
  · intro v' w' h1' h2' _
    refine h v' w' ?_ (Keeps.grown ((Keeps.refl _ _).alloc _) (hown.alloc _) h2')
    rw [← bytes_one xs k.toNat (by omega), Int.toNat_of_nonneg h0]
    exact h1'

/-- 'append(b, c...)', b a row of the call's own, c a slice of bytes somewhere, or nil. -/
theorem wpl_cat {ops : Array Oper} {rest : List Oper} {o : Oper} {a : Act} {Q : Exit → Act → World → Prop} {w : World} (hgd : o.guard = none) (s x : Operand)
    (ho : o.op = .call { callee := .builtin .append, args := #[s, x], argTypes := #[22, 22] })
    (base : Nat) (v : Value) (n : Nat) (xs : List UInt8) (hs : a.eval s = v) (hown : w.ownsRow base 5 1 v n (bytes xs)) (A : Option Addr) (m c : Nat) (ys : List UInt8)
    (hx : a.eval x = .slice A m c) (hm : ys.length = m) (hy : BytesAt w A ys) (hn : n + m ≤ 140737488355327) (hb : base ≤ w.heap.size)
    (h : ∀ v' w', w'.ownsRow base 5 1 v' (n + m) (bytes (xs ++ ys)) → Keeps base w w' → wpList Tryd.prog ops Q rest (a.put o.dst v') w') :
    wpList Tryd.prog ops Q (o :: rest) a w := by
  obtain ⟨i0, hi, hz0, hz1, hz2⟩ := info_parts Tryd.infoU8
  cases A with
  | none =>
    have hy0 : ys = [] := by
      rcases Nat.eq_zero_or_pos ys.length with h0 | h0
      · exact List.length_eq_zero_iff.1 h0
      · obtain ⟨ad, ha, _⟩ := hy 0 h0; simp at ha
    subst hy0
    obtain rfl : m = 0 := by simpa using hm.symm
    have hrun : ∀ ty, (Builtin.append_ #[22, 22] ty #[v, .slice none 0 c]).run Tryd.prog w = .ok v w := fun ty => by
      rcases hown.2 with ⟨rfl, rfl⟩ | ⟨g, cap, cur, rfl, _, _, hnc, _⟩
      · simp [Builtin.append_, run_underlying Tryd.underlying22, sizeOf, typeInfo, hi, Builtin.lenOf, Builtin.firstCells]
      · simp [Builtin.append_, run_underlying Tryd.underlying22, sizeOf, typeInfo, hi, Builtin.lenOf, Builtin.firstCells, hnc, storeCells]
    refine Lib.wpList_append_run _ hgd _ _ _ _ ho _ _ hs hx _ _ (hrun _) ?_
    exact h v w (by simpa using hown) (Keeps.refl _ _)
  | some ad =>
    refine wpList_append_own _ hgd s x 22 ho base 5 i0 (.int .u8 0) 1 1 Tryd.underlying22 hi hz0 hz1 hz2 rfl (by decide) v n (bytes xs) hs hown ad m c (bytes ys) hx (by rw [bytes_len, hm]; omega) ?_ (bytes_cells _) ?_ ?_ hb ?_
    · intro j u hj
      have hjl : j < ys.length := by have := (List.getElem?_eq_some_iff.1 hj).1; rwa [bytes_len] at this
      obtain ⟨ad', ha, hc⟩ := hy j hjl
      simp only [Option.some.injEq] at ha
      subst ha
      rw [hc]
      simp [bytes, hjl] at hj
      rw [← hj]
    · unfold maxLen; omega
    · omega
    · intro v' w' h1' h2' _
      refine h v' w' ?_ (Keeps.grown (Keeps.refl _ _) hown h2')
      rw [bytes_append]; exact h1'

end Go.Proofs.YthamligdmfhmeaaDoor
