/- Contracts of the reader of codec: take, numeral. -/
import Derived.Test.YtmhchpdogjbpmaaSize
import Derived.Laws.PanicsMore
namespace Go.Proofs.Ytmhchpdogjbpmaa
open Go.RowKit

/-- The reader's state: the bytes that remain, in the cell of block rb. -/
def RS (w : World) (rb : Nat) (bs : List UInt8) : Prop :=
  w.frozen? ⟨rb, 0, none⟩ = false ∧ bs.length ≤ 1099511627776 ∧ ∃ a cap, w.cell? ⟨rb, 0, none⟩ = some (.slice a bs.length cap) ∧ bs.length ≤ cap ∧
    ∀ i (h : i < bs.length), ∃ ad, a = some ad ∧ ad.block < rb ∧ w.cell? (ad.add i) = some (.int .u8 (bs[i]).toNat)

/-- How a reader's function panics. -/
def Bad (e : Ending) : Prop := e = .panicked [{ v := .iface 28 (.int .i64 10), recovered := false }]

/-- What take hands back. -/
def Took (rb n : Nat) (bs : List UInt8) (w : World) (e : Ending) (w' : World) : Prop :=
  ∃ a, e = .returned (.slice a n n) ∧ (∀ i (_ : i < n) (h' : i < bs.length), ∃ ad, a = some ad ∧ ad.block < rb ∧ w.cell? (ad.add i) = some (.int .u8 (bs[i]).toNat)) ∧ RS w' rb (bs.drop n) ∧ w.grownBy w' (some rb)

theorem grownBy_refl (w : World) (row : Option Nat) : w.grownBy w row := ⟨rfl, rfl, rfl, Nat.le_refl _, fun _ _ _ => rfl⟩
theorem grownBy_trans {w w' w'' : World} {row : Option Nat} (h : w.grownBy w' row) (k : w'.grownBy w'' row) : w.grownBy w'' row :=
  ⟨k.os.trans h.os, k.tape.trans h.tape, k.output.trans h.output, Nat.le_trans h.size k.size, fun i hi hn => (k.block i (Nat.lt_of_lt_of_le hi h.size) hn).trans (h.block i hi hn)⟩
theorem grownBy_setCell (w : World) (rb : Nat) (u : Value) : w.grownBy (w.setCell ⟨rb, 0, none⟩ u) (some rb) :=
  ⟨rfl, rfl, rfl, by simp [World.setCell], fun k _ hn => Below.heap_setCell _ _ _ _ (by intro e; exact hn (by rw [e]))⟩

theorem add_add (ad : Addr) (n i : Nat) : (ad.add n).add i = ad.add (n + i) := by
  unfold Addr.add
  by_cases hn : n = 0
  · subst hn; simp
  · by_cases hi : i = 0
    · subst hi; simp
    · simp [hn, hi, Nat.add_assoc]
theorem add_block (ad : Addr) (n : Nat) : (ad.add n).block = ad.block := by unfold Addr.add; split <;> rfl

/-- The state behind a store of what remains. -/
theorem RS.cut {w : World} {rb : Nat} {bs : List UInt8} {a : Option Addr} {cap : Nat} (n : Nat) (hn : n ≤ bs.length) (hf : w.frozen? ⟨rb, 0, none⟩ = false) (hl : bs.length ≤ 1099511627776) (hc : w.cell? ⟨rb, 0, none⟩ = some (.slice a bs.length cap))
    (hcs : ∀ i (h : i < bs.length), ∃ ad, a = some ad ∧ ad.block < rb ∧ w.cell? (ad.add i) = some (.int .u8 (bs[i]).toNat)) (a' : Option Addr) (ha : n < bs.length → a' = a.map (·.add n)) :
    RS (w.setCell ⟨rb, 0, none⟩ (.slice a' (bs.length - n) (bs.length - n))) rb (bs.drop n) := by
  refine ⟨by simpa using hf, by simp; omega, a', bs.length - n, ?_, by simp, fun i h => ?_⟩
  · rw [List.length_drop]; exact World.cell?_setCell_same _ _ _ hc
  · rw [List.length_drop] at h
    obtain ⟨ad, had, hb, hcell⟩ := hcs (n + i) (by omega)
    refine ⟨ad.add n, by rw [ha (by omega), had]; rfl, by rw [add_block]; exact hb, ?_⟩
    rw [add_add, World.cell?_of_block (w := w) (Below.heap_setCell _ _ _ _ (by rw [add_block]; exact Nat.ne_of_lt hb))]
    simpa using hcell

set_option maxHeartbeats 1000000 in
theorem take_bad (rb : Nat) (n : Int) (bs : List UInt8) (w : World) (hn : (bs.length : Int) < n) (h : RS w rb bs) :
    Calls Try.prog 41 #[.pointer (some ⟨rb, 0, none⟩), .int .u64 n] w fun e w' => Bad e ∧ w = w' := by
  obtain ⟨hf, hl, a, cap, hc, hcap, hcs⟩ := h
  clear hcs
  go_enter Try.func41, Try.ntmps41
  go_wp2_with fail
  exact ⟨rfl, rfl, rfl⟩

set_option maxHeartbeats 1000000 in
theorem take_ok (rb : Nat) (n : Nat) (bs : List UInt8) (w : World) (hn : n ≤ bs.length) (h : RS w rb bs) :
    Calls Try.prog 41 #[.pointer (some ⟨rb, 0, none⟩), .int .u64 n] w (Took rb n bs w) := by
  obtain ⟨hf, hl, a, cap, hc, hcap, hcs⟩ := h
  have HF := Lib.hid hcs; clear hcs
  by_cases hlt : n < bs.length
  · have hr := RS.cut n hn hf hl hc HF.out (a.map (·.add n)) (fun _ => rfl)
    have HR := Lib.hid hr; clear hr
    go_enter Try.func41, Try.ntmps41
    go_wp2_with fail
    go_ret
    exact ⟨_, rfl, fun i _ h' => HF.out i h', HR.out, grownBy_setCell _ _ _⟩
  · have hr := RS.cut n hn hf hl hc HF.out a (fun h => absurd h hlt)
    have HR := Lib.hid hr; clear hr
    obtain rfl : n = bs.length := by omega
    go_enter Try.func41, Try.ntmps41
    go_wp2_with fail
    go_ret
    refine ⟨_, rfl, fun i _ h' => HF.out i h', ?_, grownBy_setCell _ _ _⟩
    have := HR.out; rw [Nat.sub_self] at this; exact this

theorem take_one (rb : Nat) (c : UInt8) (r : List UInt8) (w : World) (h : RS w rb (c :: r)) :
    Calls Try.prog 41 #[.pointer (some ⟨rb, 0, none⟩), .int .u64 1] w (Took rb 1 (c :: r) w) := take_ok rb 1 (c :: r) w (by simp) h
theorem take_none (rb : Nat) (w : World) (h : RS w rb []) :
    Calls Try.prog 41 #[.pointer (some ⟨rb, 0, none⟩), .int .u64 1] w fun e w' => Bad e ∧ w = w' := take_bad rb 1 [] w (by simp) h

end Go.Proofs.Ytmhchpdogjbpmaa
