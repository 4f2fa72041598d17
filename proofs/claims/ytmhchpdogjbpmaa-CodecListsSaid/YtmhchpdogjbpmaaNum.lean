/- Contract of writeNumeral: it appends the numeral to a slice that the caller owns. -/
import Derived.Test.YtmhchpdogjbpmaaBase
namespace Go.Proofs.Ytmhchpdogjbpmaa
open Go.RowKit

/-- Bytes as values. -/
def bytes (l : List UInt8) : List Value := l.map fun b => .int .u8 b.toNat
theorem bytes_append (a b : List UInt8) : bytes (a ++ b) = bytes a ++ bytes b := by simp [bytes]
theorem bytes_len (a : List UInt8) : (bytes a).length = a.length := by simp [bytes]
theorem bytes_one (a : List UInt8) (u : Nat) (h : u < 256) : bytes a ++ [.int .u8 u] = bytes (a ++ [UInt8.ofNat u]) := by
  simp [bytes, Nat.mod_eq_of_lt h]

/-- What was there stays as it was, but for rows of element type e from block number base on. -/
structure Keeps (base : Nat) (e : TypeId) (w w' : World) : Prop where
  os : w'.os = w.os
  tape : w'.tape = w.tape
  output : w'.output = w.output
  size : w.heap.size ≤ w'.heap.size
  block : ∀ k, k < w.heap.size → (k < base ∨ ∀ cur f, w.heap[k]? ≠ some (.cells cur e f)) → w'.heap[k]? = w.heap[k]?

theorem Keeps.refl (base : Nat) (e : TypeId) (w : World) : Keeps base e w w := ⟨rfl, rfl, rfl, Nat.le_refl _, fun _ _ _ => rfl⟩
theorem Keeps.trans {base : Nat} {e : TypeId} {a b c : World} (h : Keeps base e a b) (k : Keeps base e b c) : Keeps base e a c :=
  ⟨k.os.trans h.os, k.tape.trans h.tape, k.output.trans h.output, Nat.le_trans h.size k.size, fun i hi hn => by
    have h1 := h.block i hi hn
    have h2 := k.block i (Nat.lt_of_lt_of_le hi h.size) (by rw [h1]; exact hn)
    exact h2.trans h1⟩
theorem Keeps.drew {base : Nat} {e : TypeId} {a w : World} (h : Keeps base e a w) : Keeps base e a w.drew := ⟨h.os, h.tape, h.output, h.size, h.block⟩
theorem Keeps.alloc {base : Nat} {e : TypeId} {a w : World} (h : Keeps base e a w) (o : Obj) : Keeps base e a (w.alloc o) :=
  h.trans ⟨rfl, rfl, rfl, by simp, fun k hk _ => Below.heap_alloc _ _ _ hk⟩
theorem Keeps.below {base : Nat} {e : TypeId} {a w : World} (h : Keeps base e a w) (hb : base ≤ a.heap.size) : Below base a w :=
  ⟨h.os, h.tape, h.output, h.size, fun k hk => h.block k (by omega) (.inl hk)⟩
theorem Below.keeps {base : Nat} {e : TypeId} {a w : World} (h : Below a.heap.size a w) : Keeps base e a w :=
  ⟨h.os, h.tape, h.output, h.size, fun k hk _ => h.block k hk⟩
/-- Behind a law on append: the row that it may have written is one of element type e, from base on. -/
theorem Keeps.grown {base : Nat} {e : TypeId} {size n : Nat} {v : Value} {xs : List Value} {a w w' : World} (h : Keeps base e a w) (ho : w.ownsRow base e size v n xs) (hg : w.grownBy w' v.ownBlock) : Keeps base e a w' :=
  h.trans ⟨hg.os, hg.tape, hg.output, hg.size, fun k hk hn => hg.block k hk fun hv => by
    rcases ho.2 with ⟨rfl, _⟩ | ⟨g, cap, cur, rfl, hb, hgg, _⟩
    · simp [Value.ownBlock] at hv
    · simp [Value.ownBlock] at hv; subst hv
      rcases hn with hn | hn
      · omega
      · exact hn cur (0, 0) hgg⟩
/-- A block that is no row of this type is as it was. -/
theorem Keeps.other {base : Nat} {e : TypeId} {a w : World} (h : Keeps base e a w) {k : Nat} {cur : Array Value} {t : TypeId} {f : Nat × Nat} (hk : a.heap[k]? = some (.cells cur t f)) (ht : t ≠ e) : w.heap[k]? = some (.cells cur t f) := by
  rw [h.block k (Array.getElem?_eq_some_iff.1 hk).1 (.inr fun c g hc => by rw [hk] at hc; simp at hc; exact ht hc.2.1)]
  exact hk

theorem Try.info5 : (Try.prog.info? 5).map (fun i => (i.zero, i.size, i.bytes)) = some (some (.int .u8 0), 1, 1) := by kernel_rfl

theorem cells_one (w : World) (v : Value) (t : TypeId) : ∀ j u, [v][j]? = some u → (w.alloc (.cells #[v] t)).cell? ((⟨w.heap.size, 0, none⟩ : Addr).add j) = some u := by
  intro j u hj
  match j, hj with
  | 0, hj => simp at hj; subst hj; simp [Addr.add]

/-- 'append(b, c)', b a slice of bytes that the caller owns, c one byte, which lies in a new cell. -/
theorem wpl_push {ops : Array Oper} {rest : List Oper} {o : Oper} {a : Act} {Q : Exit → Act → World → Prop} {w : World} (hgd : o.guard = none) (s x : Operand)
    (ho : o.op = .call { callee := .builtin .append, args := #[s, x], argTypes := #[27, 27] })
    (base : Nat) (v : Value) (n : Nat) (xs : List UInt8) (hs : a.eval s = v) (hown : w.ownsRow base 5 1 v n (bytes xs)) (k : Int)
    (hx : a.eval x = .slice (some ⟨w.heap.size, 0, none⟩) 1 1) (h0 : 0 ≤ k) (h1 : k < 256) (hn : n ≤ 140737488355327) (hb : base ≤ w.heap.size)
    (h : ∀ v' w', w'.ownsRow base 5 1 v' (n + 1) (bytes (xs ++ [UInt8.ofNat k.toNat])) → Keeps base 5 w w' → wpList Try.prog ops Q rest (a.put o.dst v') w') :
    wpList Try.prog ops Q (o :: rest) a (w.alloc (.cells #[.int .u8 k] 5)) := by
  obtain ⟨i0, hi, hz0, hz1, hz2⟩ := info_parts Try.info5
  refine wpList_append_own _ hgd s x 27 ho base 5 i0 (.int .u8 0) 1 1 Try.underlying27 hi hz0 hz1 hz2 rfl (by decide) v n (bytes xs) hs (hown.alloc _) ⟨w.heap.size, 0, none⟩ 1 1 [.int .u8 k] hx rfl (cells_one _ _ _) ?_ ?_ ?_ ?_ ?_
  · intro u hu; simp at hu; subst hu; rfl
  · unfold maxLen; omega
  · omega
  · simp; omega
  · intro v' w' h1' h2' _
    refine h v' w' ?_ (Keeps.grown ((Keeps.refl _ _ _).alloc _) (hown.alloc _) h2')
    rw [← bytes_one xs k.toNat (by omega), Int.toNat_of_nonneg h0]
    exact h1'

/-- What a function hands back that appends to a slice that the caller owns. -/
def Wrote (base : Nat) (n : Nat) (xs add : List UInt8) (w : World) (e : Ending) (w' : World) : Prop :=
  ∃ v, e = .returned v ∧ w'.ownsRow base 5 1 v (n + add.length) (bytes (xs ++ add)) ∧ Keeps base 5 w w'

set_option maxHeartbeats 1000000 in
theorem writeNumeral_any (base : Nat) (b : Value) (n : Nat) (xs : List UInt8) (u : Int) (w : World) (h1 : 0 ≤ u) (h2 : u ≤ 18446744073709551615)
    (ho : w.ownsRow base 5 1 b n (bytes xs)) (hb : base ≤ w.heap.size) (hn : n ≤ 70368744177664) :
    Calls Try.prog 58 #[b, .int .u64 u] w (Wrote base n xs (M.num u.toNat) w) := by
  have hlen := (M.num_len u.toNat (by omega)).2
  go_enter Try.func58, Try.ntmps58
  go_wp2
  go_loopw [0, 1] (fun bb uu wr => ∃ (k : Nat) (done : List UInt8), k ≤ u.toNat ∧ uu = .int .u64 k ∧ M.num u.toNat = done ++ M.num k ∧ wr.ownsRow base 5 1 bb (n + done.length) (bytes (xs ++ done)) ∧ Keeps base 5 w wr)
    (fun _ uu _ => (intOf uu).toNat)
  case atStart => exact ⟨u.toNat, [], Nat.le_refl _, by congr 1; omega, by simp, by simpa using ho, Keeps.refl _ _ _⟩
  case round =>
    obtain ⟨k, done, hk, rfl, hnum, hown, hkeep⟩ := hrel
    have HN := Lib.hid hnum; clear hnum
    have hL : done.length + (M.num k).length = (M.num u.toNat).length := by rw [HN.out]; simp
    have hl1 := (M.num_len k (by omega)).1
    have HL := Lib.hid hL
    have hL2 : done.length ≤ 10 := by omega
    clear hL
    have hbr : base ≤ wr.heap.size := Nat.le_trans hb hkeep.size
    by_cases hs : k < 128
    · have ht : decide ((128 : Int) ≤ (k : Int)) = false := by simp; omega
      go_wp2_with (at_builtin; refine wpl_push rfl _ _ rfl base _ _ _ rfl hown _ rfl (by omega) (by omega) (by omega) hbr ?_; intro v' w1 hown1 hkeep1)
      go_ret
      refine ⟨_, rfl, ?_, hkeep.trans hkeep1⟩
      have e : M.num k = [UInt8.ofNat k] := M.num_small k hs
      rw [HN.out, e, ← List.append_assoc]
      simpa [Nat.add_assoc] using hown1
    · have ht : decide ((128 : Int) ≤ (k : Int)) = true := by simp; omega
      go_wp2_with (at_builtin; refine wpl_push rfl _ _ rfl base _ _ _ rfl hown _ rfl (by omega) (by omega) (by omega) hbr ?_; intro v' w1 hown1 hkeep1)
      go_roundw
      case rel =>
        refine ⟨k / 128, done ++ [UInt8.ofNat (k % 128 + 128)], by omega, by simp, ?_, ?_, hkeep.trans hkeep1⟩
        · rw [HN.out, M.num_big k (by omega) hs]; simp
        · rw [show ((k : Int) % 128 + 128).toNat = k % 128 + 128 from by omega, List.append_assoc] at hown1
          rw [List.length_append, ← Nat.add_assoc]
          exact hown1
      case measure => simp [intOf]; omega

end Go.Proofs.Ytmhchpdogjbpmaa
