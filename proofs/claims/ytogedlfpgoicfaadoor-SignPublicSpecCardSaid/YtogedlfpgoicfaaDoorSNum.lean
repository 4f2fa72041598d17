/- The eight bytes of a number. -/
import Derived.Test.YtogedlfpgoicfaaDoorSMath
import Derived.Test.YtogedlfpgoicfaaDoorJoin
namespace Go.Proofs.YtogedlfpgoicfaaDoor
open Go.RowKit

namespace G
def num8b (n : Int) (i : Nat) : Nat := (n % 18446744073709551616).toNat / 2 ^ (8 * (7 - i)) % 256
theorem num8b_lt (n : Int) (i : Nat) : num8b n i < 256 := Nat.mod_lt _ (by decide)
/-- The first k of the eight bytes, and zeros. -/
def numz (n : Int) : Nat → List UInt8
  | 0 => List.replicate 8 0
  | k + 1 => (numz n k).set k (UInt8.ofNat (num8b n k))
theorem numz_len (n : Int) : ∀ k, (numz n k).length = 8
  | 0 => by simp [numz]
  | k + 1 => by simp [numz, numz_len n k]
theorem numz_8 (n : Int) : numz n 8 = num8 n := by
  simp [numz, num8, num8b, List.range, List.range.loop, List.replicate]
/-- The first k of the eight bytes. -/
def numk (n : Int) (k : Nat) : List UInt8 := (num8 n).take k
theorem numk_8 (n : Int) : numk n 8 = num8 n := by unfold numk; rw [List.take_of_length_le (by rw [num8_len]; exact Nat.le_refl _)]
theorem numk_len (n : Int) (k : Nat) (h : k ≤ 8) : (numk n k).length = k := by unfold numk; rw [List.length_take, num8_len]; omega
theorem numk_succ (n : Int) (k : Nat) (h : k < 8) : numk n (k + 1) = numk n k ++ [UInt8.ofNat (num8b n k)] := by
  unfold numk
  rw [List.take_succ_eq_append_getElem (by rw [num8_len]; exact h)]
  simp [num8, num8b]
theorem num_byte (n : Int) (i : Nat) (h : i < 8) : n / 2 ^ (8 * (7 - i)) % 256 = (num8b n i : Int) := by
  have h8 : i = 0 ∨ i = 1 ∨ i = 2 ∨ i = 3 ∨ i = 4 ∨ i = 5 ∨ i = 6 ∨ i = 7 := by omega
  unfold num8b
  obtain ⟨m, hm⟩ : ∃ m : Nat, n % 18446744073709551616 = m := ⟨(n % 18446744073709551616).toNat, by omega⟩
  rw [hm, Int.toNat_natCast]
  rcases h8 with rfl | rfl | rfl | rfl | rfl | rfl | rfl | rfl <;> (simp only [Nat.sub_zero, Nat.reduceSub, Nat.reduceMul, Int.reducePow, Nat.reducePow, Int.natCast_emod, Int.natCast_ediv]; omega)
end G

set_option maxRecDepth 100000 in
set_option maxHeartbeats 1000000 in
theorem number_any (n : Int) (w : World) :
    Calls Tryd.prog 91 #[.int .i64 n] w fun e w' => e = .returned (.slice (some ⟨w.heap.size, 0, none⟩) 8 8) ∧ BytesAt w' (some ⟨w.heap.size, 0, none⟩) (G.num8 n) ∧ Below w.heap.size w w' := by
  have hmk : ∀ W : World, (Instr.makeSlice 22 (.int .i64 8) (.int .i64 8)).run Tryd.prog W = .ok (.slice (some ⟨W.heap.size, 0, none⟩) 8 8) (W.alloc (.cells (byts (G.numz n 0)) 5)) := fun W => by
    rw [show G.numz n 0 = List.replicate 8 0 from rfl]
    kernel_rfl
  go_enter Tryd.func91, Tryd.ntmps91
  go_wp2_with fail
  have HB : Hid ((w.alloc (.cells (byts (G.numz n 0)) 5)).heap[w.heap.size]? = some (.cells (byts (G.numz n 0)) 5 (0, 0)) ∧ Below w.heap.size w (w.alloc (.cells (byts (G.numz n 0)) 5))) := Lib.hid ⟨heap_alloc_new w _, (Below.refl _ _).alloc (Nat.le_refl _) _⟩
  generalize w.alloc (.cells (byts (G.numz n 0)) 5) = W0 at HB ⊢
  clear hmk
  go_loopw [8] (fun ii wr => ∃ i : Nat, i ≤ 8 ∧ ii = .int .i64 i ∧ Hid (wr.heap[w.heap.size]? = some (.cells (byts (G.numz n i)) 5 (0, 0)) ∧ Below w.heap.size w wr))
    (fun ii _ => 8 - (intOf ii).toNat)
  case atStart => exact ⟨0, Nat.zero_le _, rfl, HB⟩
  case round =>
    obtain ⟨i, hi, rfl, HI⟩ := hrel
    by_cases hlt : i < 8
    · have q1 : decide ((i : Int) < 8) = true := by rw [decide_eq_true_iff]; omega
      obtain ⟨co, fo⟩ := byts_cell HI.out.1 (i := i) (by rw [G.numz_len]; exact hlt)
      obtain ⟨u, hu⟩ : ∃ u, u = 8 * (7 - i) := ⟨_, rfl⟩
      have e4 : (8 : Int) * (7 - (i : Int)) = (u : Int) := by omega
      have hul : u ≤ 56 := by omega
      go_wp2_with fail
      rw [G.num_byte n i hlt]
      have HN : Hid ((wr.setCell ⟨w.heap.size, i, none⟩ (.int .u8 (G.num8b n i : Nat))).heap[w.heap.size]? = some (.cells (byts (G.numz n (i + 1))) 5 (0, 0)) ∧ Below w.heap.size w (wr.setCell ⟨w.heap.size, i, none⟩ (.int .u8 (G.num8b n i : Nat)))) := Lib.hid
        ⟨by rw [byts_store HI.out.1 i _ (G.num8b_lt n i)]; rfl, HI.out.2.setCell (p := ⟨w.heap.size, i, none⟩) (Nat.le_refl _) _⟩
      refine ⟨⟨i + 1, by omega, by go_num, HN⟩, ?_⟩
      simp [intOf]; omega
    · obtain rfl : i = 8 := by omega
      have HR := Lib.hid HI.out.2
      have HZ : Hid (BytesAt wr (some ⟨w.heap.size, 0, none⟩) (G.num8 n)) := Lib.hid (by
        rw [← G.numz_8]; exact BytesAt.row HI.out.1)
      clear hi hlt
      go_wp2_with fail
      go_ret
      exact ⟨rfl, HZ.out, HR.out⟩

end Go.Proofs.YtogedlfpgoicfaaDoor
