/- SHA-256's block in numbers; what the boxes of a call of block hold. -/
import Derived.Test.YthamligdmfhmeaaDoorRowLaws
namespace Go.Proofs.YthamligdmfhmeaaDoor
open Go.RowKit

namespace H
def byte (bs : List UInt8) (i : Nat) : Nat := (bs.getD i 0).toNat
theorem byte_lt (bs : List UInt8) (i : Nat) : byte bs i < 256 := (bs.getD i 0).toNat_lt
/-- The first words of a block. -/
def fill (bs : List UInt8) : Nat → List Nat
  | 0 => List.replicate 64 0
  | n + 1 => (fill bs n).set n (word (byte bs (4 * n)) (byte bs (4 * n + 1)) (byte bs (4 * n + 2)) (byte bs (4 * n + 3)))
def sig0 (x : Nat) : Nat := ror x 7 ^^^ ror x 18 ^^^ x / 8
def sig1 (x : Nat) : Nat := ror x 17 ^^^ ror x 19 ^^^ x / 1024
def sched (l : List Nat) (t : Nat) : Nat := (l.getD (t - 16) 0 + sig0 (l.getD (t - 15) 0) + l.getD (t - 7) 0 + sig1 (l.getD (t - 2) 0)) % 4294967296
/-- All words of a block. -/
def expand (bs : List UInt8) : Nat → List Nat
  | 0 => fill bs 16
  | n + 1 => (expand bs n).set (16 + n) (sched (expand bs n) (16 + n))
structure St where (a b c d e f g h : Nat)
def St.p (s : St) (k w : Nat) : Nat := (s.h + (ror s.e 6 ^^^ ror s.e 11 ^^^ ror s.e 25) + ((s.e &&& s.f) ^^^ ((4294967295 - s.e) &&& s.g)) + k + w) % 4294967296
def St.q (s : St) : Nat := ((ror s.a 2 ^^^ ror s.a 13 ^^^ ror s.a 22) + ((s.a &&& s.b) ^^^ (s.a &&& s.c) ^^^ (s.b &&& s.c))) % 4294967296
def St.step (s : St) (k w : Nat) : St := ⟨(s.p k w + s.q) % 4294967296, s.a, s.b, s.c, (s.d + s.p k w) % 4294967296, s.e, s.f, s.g⟩
def St.rounds (s : St) (ws : List Nat) : Nat → St
  | 0 => s
  | n + 1 => (s.rounds ws n).step (K.getD n 0) (ws.getD n 0)
def St.add (s t : St) : St := ⟨(s.a + t.a) % 4294967296, (s.b + t.b) % 4294967296, (s.c + t.c) % 4294967296, (s.d + t.d) % 4294967296, (s.e + t.e) % 4294967296, (s.f + t.f) % 4294967296, (s.g + t.g) % 4294967296, (s.h + t.h) % 4294967296⟩
def St.list (s : St) : List Nat := [s.a, s.b, s.c, s.d, s.e, s.f, s.g, s.h]
/-- The state behind a block. -/
def St.block (s : St) (bs : List UInt8) : St := s.add (s.rounds (expand bs 48) 64)
def St.ok (s : St) : Prop := s.a < 4294967296 ∧ s.b < 4294967296 ∧ s.c < 4294967296 ∧ s.d < 4294967296 ∧ s.e < 4294967296 ∧ s.f < 4294967296 ∧ s.g < 4294967296 ∧ s.h < 4294967296

theorem fill_len (bs : List UInt8) : ∀ n, (fill bs n).length = 64
  | 0 => by simp [fill]
  | n + 1 => by simp [fill, fill_len bs n]
theorem expand_len (bs : List UInt8) : ∀ n, (expand bs n).length = 64
  | 0 => fill_len bs 16
  | n + 1 => by simp [expand, expand_len bs n]
theorem all_set {l : List Nat} (h : ∀ x ∈ l, x < 4294967296) (i : Nat) {v : Nat} (hv : v < 4294967296) : ∀ x ∈ l.set i v, x < 4294967296 := fun x hx => by
  rcases List.mem_or_eq_of_mem_set hx with h2 | rfl
  · exact h x h2
  · exact hv
theorem fill_lt (bs : List UInt8) : ∀ n, ∀ x ∈ fill bs n, x < 4294967296
  | 0 => by intro x hx; rw [List.eq_of_mem_replicate hx]; decide
  | n + 1 => all_set (fill_lt bs n) _ (word_lt (byte_lt _ _) (byte_lt _ _) (byte_lt _ _) (byte_lt _ _))
theorem expand_lt (bs : List UInt8) : ∀ n, ∀ x ∈ expand bs n, x < 4294967296
  | 0 => fill_lt bs 16
  | n + 1 => all_set (expand_lt bs n) _ (Nat.mod_lt _ (by decide))
theorem step_ok {s : St} (h : s.ok) (k w : Nat) : (s.step k w).ok := by
  obtain ⟨h1, h2, h3, h4, h5, h6, h7, h8⟩ := h
  exact ⟨Nat.mod_lt _ (by decide), h1, h2, h3, Nat.mod_lt _ (by decide), h5, h6, h7⟩
theorem rounds_ok {s : St} (h : s.ok) (ws : List Nat) : ∀ n, (s.rounds ws n).ok
  | 0 => h
  | n + 1 => step_ok (rounds_ok h ws n) _ _
theorem getD_lt {l : List Nat} (h : ∀ x ∈ l, x < 4294967296) (i : Nat) : l.getD i 0 < 4294967296 := by
  rw [List.getD_eq_getElem?_getD]
  cases hi : l[i]? with
  | none => decide
  | some x => exact h x (List.mem_of_getElem? hi)
theorem getD_eq {l : List Nat} {i : Nat} (h : i < l.length) : l.getD i 0 = l[i] := by simp [h]
end H

/-- A row of words in memory, at an index. -/
theorem words_cell {w : World} {B : Nat} {l : List Nat} {t : TypeId} (h : w.heap[B]? = some (.cells (words l) t (0, 0))) {i : Nat} (hi : i < l.length) : w.cell? ⟨B, i, none⟩ = some (.int .u32 (l.getD i 0 : Nat)) ∧ w.frozen? ⟨B, i, none⟩ = false := by
  refine ⟨?_, frozen_of_row w B i _ _ h⟩
  rw [cell_of_row w B i _ _ _ h, words_at hi, H.getD_eq hi]
theorem words_store {w : World} {B : Nat} {l : List Nat} {t : TypeId} (h : w.heap[B]? = some (.cells (words l) t (0, 0))) (i n : Nat) : (w.setCell ⟨B, i, none⟩ (.int .u32 (n : Int))).heap[B]? = some (.cells (words (l.set i n)) t (0, 0)) := by
  rw [heap_setCell_same w B i _ _ _ h, words_set]

theorem cell_set_off {w : World} {B i k : Nat} {z : Value} (h : k ≠ i) : (w.setCell ⟨B, i, none⟩ z).cell? ⟨B, k, none⟩ = w.cell? ⟨B, k, none⟩ := by
  simp only [World.cell?, World.setCell, Array.getElem?_modify, if_true]
  cases w.heap[B]? with
  | none => rfl
  | some o => cases o <;> simp [Ne.symm h]

/-- What the boxes of a call of block hold: the state, the result, the words. -/
structure Bx (w wr : World) (s : H.St) (ws : List Nat) : Prop where
  st : wr.heap[w.heap.size]? = some (.cells (words s.list) 53 (0, 0))
  out : ∃ cs, wr.heap[w.heap.size + 1]? = some (.cells cs 53 (0, 0)) ∧ cs.size = 8
  ws : wr.heap[w.heap.size + 1 + 1]? = some (.cells (words ws) 67 (0, 0))
  below : Below w.heap.size w wr

theorem Bx.drew {w wr : World} {s : H.St} {ws : List Nat} (h : Bx w wr s ws) : Bx w wr.drew s ws := ⟨h.st, h.out, h.ws, ⟨h.below.os, h.below.tape, h.below.output, h.below.size, h.below.block⟩⟩
theorem Bx.drewN {w wr : World} {s : H.St} {ws : List Nat} (h : Bx w wr s ws) (n : Nat) : Bx w (wr.drewN n) s ws := ⟨h.st, h.out, h.ws, ⟨h.below.os, h.below.tape, h.below.output, h.below.size, h.below.block⟩⟩
theorem Bx.store {w wr : World} {s : H.St} {ws : List Nat} (h : Bx w wr s ws) (i n : Nat) : Bx w (wr.setCell ⟨w.heap.size + 1 + 1, i, none⟩ (.int .u32 (n : Int))) s (ws.set i n) := by
  obtain ⟨h1, ⟨cs, h2, h3⟩, h4, h5⟩ := h
  refine ⟨?_, ⟨cs, ?_, h3⟩, words_store h4 i n, ?_⟩
  · rw [heap_setCell_other _ _ _ _ (by simp; omega)]; exact h1
  · rw [heap_setCell_other _ _ _ _ (by simp)]; exact h2
  · exact ⟨h5.os, h5.tape, h5.output, by simp [World.setCell]; exact h5.size, fun k hk => (heap_setCell_other _ _ _ _ (by simp; omega)).trans (h5.block k hk)⟩

theorem Bx.kept {w wr w' : World} {s : H.St} {ws : List Nat} (h : Bx w wr s ws) (hb : Below wr.heap.size wr w') : Bx w w' s ws := by
  obtain ⟨h1, ⟨cs, h2, h3⟩, h4, h5⟩ := h
  exact ⟨(hb.block _ (Array.getElem?_eq_some_iff.1 h1).1).trans h1, ⟨cs, (hb.block _ (Array.getElem?_eq_some_iff.1 h2).1).trans h2, h3⟩, (hb.block _ (Array.getElem?_eq_some_iff.1 h4).1).trans h4, h5.trans (hb.mono h5.size)⟩
/-- The state's cells. -/
theorem Bx.cells {w wr : World} {s : H.St} {ws : List Nat} (h : Bx w wr s ws) :
    wr.cell? ⟨w.heap.size, 0, none⟩ = some (.int .u32 (s.a : Nat)) ∧ wr.cell? ⟨w.heap.size, 1, none⟩ = some (.int .u32 (s.b : Nat)) ∧ wr.cell? ⟨w.heap.size, 2, none⟩ = some (.int .u32 (s.c : Nat)) ∧ wr.cell? ⟨w.heap.size, 3, none⟩ = some (.int .u32 (s.d : Nat)) ∧
      wr.cell? ⟨w.heap.size, 4, none⟩ = some (.int .u32 (s.e : Nat)) ∧ wr.cell? ⟨w.heap.size, 5, none⟩ = some (.int .u32 (s.f : Nat)) ∧ wr.cell? ⟨w.heap.size, 6, none⟩ = some (.int .u32 (s.g : Nat)) ∧ wr.cell? ⟨w.heap.size, 7, none⟩ = some (.int .u32 (s.h : Nat)) :=
  ⟨(words_cell h.st (i := 0) (by simp [H.St.list])).1, (words_cell h.st (i := 1) (by simp [H.St.list])).1, (words_cell h.st (i := 2) (by simp [H.St.list])).1, (words_cell h.st (i := 3) (by simp [H.St.list])).1, (words_cell h.st (i := 4) (by simp [H.St.list])).1, (words_cell h.st (i := 5) (by simp [H.St.list])).1, (words_cell h.st (i := 6) (by simp [H.St.list])).1, (words_cell h.st (i := 7) (by simp [H.St.list])).1⟩

theorem xor3_val {a b c : Nat} (ha : a < 4294967296) (hb : b < 4294967296) (hc : c < 4294967296) : bits .xor .u32 (bits .xor .u32 (a : Int) (b : Int)) (c : Int) = (a ^^^ b ^^^ c : Nat) := by
  rw [u32_xor_nat a b ha hb, u32_xor_nat (a ^^^ b) c (Nat.xor_lt_two_pow (n := 32) ha hb) hc]
theorem sched_val {x y u v r1 r2 r3 r4 : Nat} (hx : x < 4294967296) (hy : y < 4294967296) (h1 : r1 < 4294967296) (h2 : r2 < 4294967296) (h3 : r3 < 4294967296) (h4 : r4 < 4294967296) :
    IntKind.u32.wrap (IntKind.u32.wrap (IntKind.u32.wrap ((u : Int) + bits .xor .u32 (bits .xor .u32 (r1 : Int) (r2 : Int)) ((x : Int) / 8)) + (v : Int)) + bits .xor .u32 (bits .xor .u32 (r3 : Int) (r4 : Int)) ((y : Int) / 1024)) = ((u + (r1 ^^^ r2 ^^^ x / 8) + v + (r3 ^^^ r4 ^^^ y / 1024)) % 4294967296 : Nat) := by
  have e1 : (x : Int) / 8 = ((x / 8 : Nat) : Int) := by omega
  have e2 : (y : Int) / 1024 = ((y / 1024 : Nat) : Int) := by omega
  rw [e1, e2, xor3_val h1 h2 (by omega), xor3_val h3 h4 (by omega), IntKind.wrap_u32', IntKind.wrap_u32', IntKind.wrap_u32']
  generalize r1 ^^^ r2 ^^^ x / 8 = A
  generalize r3 ^^^ r4 ^^^ y / 1024 = B
  omega

theorem p_val {h e f g k v r1 r2 r3 : Nat} (he : e < 4294967296) (hf : f < 4294967296) (hg : g < 4294967296) (h1 : r1 < 4294967296) (h2 : r2 < 4294967296) (h3 : r3 < 4294967296) :
    IntKind.u32.wrap (IntKind.u32.wrap (IntKind.u32.wrap (IntKind.u32.wrap ((h : Int) + bits .xor .u32 (bits .xor .u32 (r1 : Int) (r2 : Int)) (r3 : Int)) + bits .xor .u32 (bits .and .u32 (e : Int) (f : Int)) (bits .and .u32 (4294967295 - (e : Int)) (g : Int))) + (k : Int)) + (v : Int)) = ((h + (r1 ^^^ r2 ^^^ r3) + ((e &&& f) ^^^ ((4294967295 - e) &&& g)) + k + v) % 4294967296 : Nat) := by
  have e1 : 4294967295 - (e : Int) = ((4294967295 - e : Nat) : Int) := by omega
  rw [e1, xor3_val h1 h2 h3, u32_and_nat e f he hf, u32_and_nat (4294967295 - e) g (by omega) hg, u32_xor_nat _ _ (Nat.and_lt_two_pow (n := 32) _ hf) (Nat.and_lt_two_pow (n := 32) _ hg), IntKind.wrap_u32', IntKind.wrap_u32', IntKind.wrap_u32', IntKind.wrap_u32']
  generalize r1 ^^^ r2 ^^^ r3 = A
  generalize (e &&& f) ^^^ ((4294967295 - e) &&& g) = B
  omega
theorem q_val {a b c r1 r2 r3 : Nat} (_ : a < 4294967296) (hb : b < 4294967296) (hc : c < 4294967296) (h1 : r1 < 4294967296) (h2 : r2 < 4294967296) (h3 : r3 < 4294967296) :
    IntKind.u32.wrap (bits .xor .u32 (bits .xor .u32 (r1 : Int) (r2 : Int)) (r3 : Int) + bits .xor .u32 (bits .xor .u32 (bits .and .u32 (a : Int) (b : Int)) (bits .and .u32 (a : Int) (c : Int))) (bits .and .u32 (b : Int) (c : Int))) = (((r1 ^^^ r2 ^^^ r3) + ((a &&& b) ^^^ (a &&& c) ^^^ (b &&& c))) % 4294967296 : Nat) := by
  have l1 := Nat.and_lt_two_pow (n := 32) a hb
  have l2 := Nat.and_lt_two_pow (n := 32) a hc
  have l3 := Nat.and_lt_two_pow (n := 32) b hc
  rw [xor3_val h1 h2 h3, u32_and_nat a b (by omega) hb, u32_and_nat a c (by omega) hc, u32_and_nat b c hb hc, xor3_val l1 l2 l3, IntKind.wrap_u32']
  generalize r1 ^^^ r2 ^^^ r3 = A
  generalize (a &&& b) ^^^ (a &&& c) ^^^ (b &&& c) = B
  omega

end Go.Proofs.YthamligdmfhmeaaDoor
