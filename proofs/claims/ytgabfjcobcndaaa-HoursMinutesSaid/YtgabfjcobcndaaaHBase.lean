/- Lists of spans in memory. -/
import Derived.Test.YtgabfjcobcndaaaHMath
import Derived.Laws.OwnMore
import Derived.Deep.AppendLies
import Derived.Maps.AppendAt
import Derived.OwnWalk
import Derived.WalkKit
import Derived.Deep.QuietTactic
import Derived.BigQuiet
import Derived.Lib.Hide
import Derived.Lib.QuietBelow
import Derived.Lib.SliceRun
namespace Go.Proofs.Ytgabfjcobcndaaa
open Go.RowKit

theorem cell_block {w : World} {p : Addr} {v : Value} (h : w.cell? p = some v) : p.block < w.heap.size := by
  simp only [World.cell?] at h
  by_cases hp : p.block < w.heap.size
  · exact hp
  · rw [Array.getElem?_eq_none (Nat.le_of_not_lt hp)] at h; simp at h

theorem addr_add (b off n : Nat) : (⟨b, off, none⟩ : Addr).add n = ⟨b, off + n, none⟩ := by unfold Addr.add; split <;> simp_all

/-- A slice's memory reads as these spans. -/
def SpansAt (w : World) (a : Option Addr) (l : List M.Sp) : Prop := l = [] ∨ ∃ b off, a = some ⟨b, off, none⟩ ∧ b < w.heap.size ∧
  ∀ i x, l[i]? = some x → w.cell? ⟨b, off + i * 2, none⟩ = some (.int .i64 x.1) ∧ w.cell? ⟨b, off + i * 2 + 1, none⟩ = some (.int .i64 x.2)
theorem SpansAt.kept {w w' : World} {a : Option Addr} {l : List M.Sp} (h : SpansAt w a l) (hb : Below w.heap.size w w') : SpansAt w' a l := by
  rcases h with h | ⟨b, off, h1, h2, h3⟩
  · exact .inl h
  · exact .inr ⟨b, off, h1, Nat.lt_of_lt_of_le h2 hb.size, fun i x hx => ⟨(hb.cell (p := ⟨b, _, none⟩) h2).trans (h3 i x hx).1, (hb.cell (p := ⟨b, _, none⟩) h2).trans (h3 i x hx).2⟩⟩
/-- Where a span of a list lies. -/
theorem SpansAt.at {w : World} {a : Option Addr} {l : List M.Sp} (h : SpansAt w a l) (i : Nat) (hi : i < l.length) : ∃ b off, a = some ⟨b, off, none⟩ ∧ w.cell? ⟨b, off + i * 2, none⟩ = some (.int .i64 l[i].1) ∧ w.cell? ⟨b, off + i * 2 + 1, none⟩ = some (.int .i64 l[i].2) := by
  rcases h with h | ⟨b, off, h1, h2, h3⟩
  · subst h; simp at hi
  · exact ⟨b, off, h1, h3 i l[i] (List.getElem?_eq_getElem hi)⟩

/-- A value is a slice of these spans. -/
def SL (w : World) (v : Value) (l : List M.Sp) : Prop := ∃ a cap, v = .slice a l.length cap ∧ SpansAt w a l ∧ l.length ≤ 8796093022208
theorem SL.kept {w w' : World} {v : Value} {l : List M.Sp} (h : SL w v l) (hb : Below w.heap.size w w') : SL w' v l := by
  obtain ⟨a, cap, h1, h2, h3⟩ := h
  exact ⟨a, cap, h1, h2.kept hb, h3⟩
theorem SL.nil (w : World) : SL w (.slice none 0 0) [] := ⟨none, 0, rfl, .inl rfl, by decide⟩

/-- Spans as cells. -/
def cel (l : List M.Sp) : List Value := l.flatMap fun s => [.int .i64 s.1, .int .i64 s.2]
theorem cel_append (a b : List M.Sp) : cel (a ++ b) = cel a ++ cel b := by simp [cel]
theorem cel_len (l : List M.Sp) : (cel l).length = l.length * 2 := by
  induction l with
  | nil => rfl
  | cons s l ih =>
    have : cel (s :: l) = .int .i64 s.1 :: .int .i64 s.2 :: cel l := rfl
    rw [this]; simp [ih]; omega
theorem cel_at : ∀ (l : List M.Sp) (i : Nat) (x : M.Sp), l[i]? = some x → (cel l)[i * 2]? = some (.int .i64 x.1) ∧ (cel l)[i * 2 + 1]? = some (.int .i64 x.2)
  | [], i, x, h => by simp at h
  | s :: l, 0, x, h => by
    simp at h; subst h
    exact ⟨rfl, rfl⟩
  | s :: l, i + 1, x, h => by
    have := cel_at l i x (by simpa using h)
    have e : cel (s :: l) = .int .i64 s.1 :: .int .i64 s.2 :: cel l := rfl
    rw [e, show (i + 1) * 2 = i * 2 + 1 + 1 from by omega, show i * 2 + 1 + 1 + 1 = (i * 2 + 1) + 1 + 1 from rfl]
    simpa using this
theorem cel_cells (l : List M.Sp) : ∀ u ∈ cel l, u.oneCell' = true := by
  intro u hu
  obtain ⟨s, _, h⟩ := List.mem_flatMap.1 hu
  simp at h
  rcases h with rfl | rfl <;> rfl
theorem owns_spans {w : World} {base n : Nat} {v : Value} {l : List M.Sp} (h : w.ownsRow base 32 2 v n (cel l)) (hl : l.length ≤ 8796093022208) : SL w v l := by
  have hn := h.1
  rw [cel_len] at hn
  obtain rfl : n = l.length := by omega
  rcases h.2 with ⟨rfl, h0⟩ | ⟨g, cap, cur, rfl, _, hg, _⟩
  · exact ⟨none, 0, by rw [h0], .inl (List.length_eq_zero_iff.1 h0), hl⟩
  · refine ⟨_, cap, rfl, .inr ⟨g, 0, rfl, (Array.getElem?_eq_some_iff.1 hg).1, fun i x hx => ?_⟩, hl⟩
    have hc := cel_at l i x hx
    have c1 := h.cells (g := g) rfl (i * 2) _ hc.1
    have c2 := h.cells (g := g) rfl (i * 2 + 1) _ hc.2
    rw [addr_add] at c1 c2
    exact ⟨c1, c2⟩

/-- What was there stays as it was, but for rows of spans from block number base on. -/
structure Keeps (base : Nat) (w w' : World) : Prop where
  os : w'.os = w.os
  tape : w'.tape = w.tape
  output : w'.output = w.output
  size : w.heap.size ≤ w'.heap.size
  block : ∀ k, k < w.heap.size → (k < base ∨ ∀ cur f, w.heap[k]? ≠ some (.cells cur 32 f)) → w'.heap[k]? = w.heap[k]?
theorem Keeps.refl (base : Nat) (w : World) : Keeps base w w := ⟨rfl, rfl, rfl, Nat.le_refl _, fun _ _ _ => rfl⟩
theorem Keeps.trans {base : Nat} {a b c : World} (h : Keeps base a b) (k : Keeps base b c) : Keeps base a c :=
  ⟨k.os.trans h.os, k.tape.trans h.tape, k.output.trans h.output, Nat.le_trans h.size k.size, fun i hi hn => by
    have h1 := h.block i hi hn
    have h2 := k.block i (Nat.lt_of_lt_of_le hi h.size) (by rw [h1]; exact hn)
    exact h2.trans h1⟩
theorem Keeps.drew {base : Nat} {a w : World} (h : Keeps base a w) : Keeps base a w.drew := ⟨h.os, h.tape, h.output, h.size, h.block⟩
theorem Keeps.alloc {base : Nat} {a w : World} (h : Keeps base a w) (o : Obj) : Keeps base a (w.alloc o) :=
  h.trans ⟨rfl, rfl, rfl, by simp, fun k hk _ => Below.heap_alloc _ _ _ hk⟩
theorem Keeps.below {base : Nat} {a w : World} (h : Keeps base a w) (hb : base ≤ a.heap.size) : Below base a w :=
  ⟨h.os, h.tape, h.output, h.size, fun k hk => h.block k (by omega) (.inl hk)⟩
theorem Keeps.of_below {base : Nat} {a w : World} (h : Below a.heap.size a w) : Keeps base a w :=
  ⟨h.os, h.tape, h.output, h.size, fun k hk _ => h.block k hk⟩
theorem Keeps.grown {base : Nat} {n : Nat} {v : Value} {xs : List Value} {a w w' : World} (h : Keeps base a w) (ho : w.ownsRow base 32 2 v n xs) (hg : w.grownBy w' v.ownBlock) : Keeps base a w' :=
  h.trans ⟨hg.os, hg.tape, hg.output, hg.size, fun k hk hn => hg.block k hk fun hv => by
    rcases ho.2 with ⟨rfl, _⟩ | ⟨g, cap, cur, rfl, hb, hgg, _⟩
    · simp [Value.ownBlock] at hv
    · simp [Value.ownBlock] at hv; subst hv
      rcases hn with hn | hn
      · omega
      · exact hn cur (0, 0) hgg⟩
theorem Keeps.other {base : Nat} {a w : World} (h : Keeps base a w) {k : Nat} {cur : Array Value} {t : TypeId} {f : Nat × Nat} (hk : a.heap[k]? = some (.cells cur t f)) (ht : t ≠ 32) : w.heap[k]? = some (.cells cur t f) := by
  rw [h.block k (Array.getElem?_eq_some_iff.1 hk).1 (.inr fun c g hc => by rw [hk] at hc; simp at hc; exact ht hc.2.1)]
  exact hk

theorem Try.infoSpan : (Try.prog.info? 32).map (fun i => (i.zero, i.size, i.bytes)) = some (some (.agg #[.int .i64 0, .int .i64 0]), 2, 16) := by kernel_rfl

theorem cells_two (w : World) (x y : Value) (t : TypeId) : ∀ j u, [x, y][j]? = some u → (w.alloc (.cells #[x, y] t)).cell? ((⟨w.heap.size, 0, none⟩ : Addr).add j) = some u := by
  intro j u hj
  match j, hj with
  | 0, hj => simp at hj; subst hj; simp [Addr.add]
  | 1, hj => simp at hj; subst hj; simp [Addr.add]

/-- 'append(l, s)', l a slice of spans that the caller owns, s one span, which lies in a new block. -/
theorem wpl_push {ops : Array Oper} {rest : List Oper} {o : Oper} {a : Act} {Q : Exit → Act → World → Prop} {w : World} (hgd : o.guard = none) (s x : Operand)
    (ho : o.op = .call { callee := .builtin .append, args := #[s, x], argTypes := #[22, 22] })
    (base : Nat) (v : Value) (n : Nat) (l : List M.Sp) (hs : a.eval s = v) (hown : w.ownsRow base 32 2 v n (cel l)) (p q : Int)
    (hx : a.eval x = .slice (some ⟨w.heap.size, 0, none⟩) 1 1) (hn : n ≤ 1099511627776) (hb : base ≤ w.heap.size)
    (h : ∀ v' w', w'.ownsRow base 32 2 v' (n + 1) (cel (l ++ [(p, q)])) → Keeps base w w' → wpList Try.prog ops Q rest (a.put o.dst v') w') :
    wpList Try.prog ops Q (o :: rest) a (w.alloc (.cells #[.int .i64 p, .int .i64 q] 32)) := by
  obtain ⟨i0, hi, hz0, hz1, hz2⟩ := info_parts Try.infoSpan
  refine wpList_append_own _ hgd s x 22 ho base 32 i0 (.agg #[.int .i64 0, .int .i64 0]) 2 16 Try.underlying22 hi hz0 hz1 hz2 rfl (by decide) v n (cel l) hs (hown.alloc _) ⟨w.heap.size, 0, none⟩ 1 1 [.int .i64 p, .int .i64 q] hx rfl (cells_two _ _ _ _) ?_ ?_ ?_ ?_ ?_
  · intro u hu; simp at hu; rcases hu with rfl | rfl <;> rfl
  · unfold maxLen; omega
  · omega
  · simp; omega
  · intro v' w' h1' h2' _
    refine h v' w' ?_ (Keeps.grown ((Keeps.refl _ _).alloc _) (hown.alloc _) h2')
    rw [cel_append]
    exact h1'

set_option maxHeartbeats 400000 in
theorem few_any {l : List M.Sp} {v : Value} {w : World} (h : SL w v l) :
    Calls Try.prog 10 #[v] w fun e w' => e = .returned (.bool (decide (l.length ≤ 40))) ∧ w' = w := by
  obtain ⟨a, cap, rfl, _, _⟩ := h
  go_enter Try.func10, Try.ntmps10
  go_wp2
  go_ret
  refine ⟨?_, rfl⟩
  congr 2
  simp
  omega
end Go.Proofs.Ytgabfjcobcndaaa
