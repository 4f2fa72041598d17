/- Contracts of slices.Grow at the nil slice, slices.Concat at slices of bytes. -/
import Derived.Test.YthamligdmfhmeaaDoorBytes
namespace Go.Proofs.YthamligdmfhmeaaDoor
open Go.RowKit

/-- What a function hands back that makes a slice of bytes of its own. -/
def Made (bs : List UInt8) (w : World) (e : Ending) (w' : World) : Prop :=
  ∃ v, e = .returned v ∧ w'.ownsRow w.heap.size 5 1 v bs.length (bytes bs) ∧ Below w.heap.size w w'

theorem zeroCells_size (z : Value) (n : Nat) : (Builtin.zeroCells #[z] n).size = n := by
  simp [Builtin.zeroCells]

set_option maxRecDepth 100000 in
set_option maxHeartbeats 1000000 in
theorem grow_any (n : Nat) (w : World) (hn : n ≤ 1099511627776) :
    Calls Tryd.prog 39 #[.slice none 0 0, .int .i64 n] w fun e w' => ∃ v, e = .returned v ∧ w'.ownsRow w.heap.size 5 1 v 0 [] ∧ Below w.heap.size w w' := by
  by_cases h0 : n = 0
  · subst h0
    go_enter Tryd.func39, Tryd.ntmps39
    go_wp2
    go_ret
    exact ⟨_, rfl, ⟨rfl, .inl ⟨rfl, rfl⟩⟩, Below.refl _ _⟩
  · obtain ⟨i0, hi, hz0, hz1, hz2⟩ := info_parts Tryd.infoU8
    have hold : (Builtin.firstCells i0.size 0 (.slice none 0 0)).run Tryd.prog w.drew = .ok ([] : List Value).toArray w.drew := run_firstCells_none w.drew i0.size 0 0 0
    have hrz : ∀ ty, (Builtin.append_ #[22, 3] ty #[.slice none 0 0, .int .i64 n]).run Tryd.prog w =
        .ok (.slice (some ⟨w.heap.size, 0, none⟩) n (grownCap w n 0 5)) (w.drew.alloc (.cells (Builtin.zeroCells #[.int .u8 0] n ++ Builtin.zeroCells #[.int .u8 0] (grownCap w n 0 5 - n)) 5)) := fun ty => by
      have h := Lib.run_append_grow_zeros w 22 3 ty 5 i0 _ .i64 .i64 Tryd.underlying22 Tryd.underlying3 hi hz0 none 0 0 [] hold n (by omega) (by omega) (by omega) (by omega) (by rw [hz2]; omega)
        (by rw [hz2, Nat.zero_add, Nat.mul_one]; have := growslice_fits (need := n) (old := 0) (bytes := 1) (by omega) (by omega); simpa using this)
      simpa [Value.cells] using h
    have hge : n ≤ grownCap w n 0 5 := grownCap_ge w _ _ _
    have hle := grownCap_le_maxLen w n 0 5 (by unfold maxLen; omega)
    obtain ⟨G, hG⟩ : ∃ G, G = grownCap w n 0 5 := ⟨_, rfl⟩
    rw [← hG] at hrz hge hle
    have HL := Lib.hid hle
    have hG63 : G ≤ 9223372036854775807 := by unfold maxLen at hle; omega
    have n0 : (0 : Int) < (n : Int) := by omega
    have hw : Hid ((w.alloc (.cells (Builtin.zeroCells #[.int .u8 0] n ++ Builtin.zeroCells #[.int .u8 0] (G - n)) 5)).drew.ownsRow w.heap.size 5 1 (.slice (some ⟨w.heap.size, 0, none⟩) 0 G) 0 []) := Lib.hid (by
      refine ⟨rfl, .inr ⟨w.heap.size, G, _, rfl, Nat.le_refl _, heap_alloc_new w _, Nat.zero_le _, HL.out, ?_, by simp⟩⟩
      simp [zeroCells_size]; omega)
    have HR := Lib.hid hrz
    clear hG hle hold hrz
    go_enter Tryd.func39, Tryd.ntmps39
    go_wp2_with (at_builtin; refine Lib.wpList_append_run _ rfl _ _ _ _ rfl _ _ rfl rfl _ _ (HR.out _) ?_)
    go_ret
    exact ⟨_, rfl, hw.out, (Below.refl _ _).drew.alloc (Nat.le_refl _) _⟩

namespace H
/-- The first k of these lists, one after the other. -/
def cat (L : Nat → List UInt8) : Nat → List UInt8
  | 0 => []
  | k + 1 => cat L k ++ L k
theorem cat_le (L : Nat → List UInt8) {j k : Nat} (h : j ≤ k) : (cat L j).length ≤ (cat L k).length := by
  induction k with
  | zero => obtain rfl : j = 0 := by omega
            exact Nat.le_refl _
  | succ k ih =>
    rcases Nat.lt_or_ge j (k + 1) with hl | hl
    · have := ih (by omega); simp [cat]; omega
    · obtain rfl : j = k + 1 := by omega
      exact Nat.le_refl _
end H

set_option maxRecDepth 100000 in
set_option maxHeartbeats 1000000 in
theorem concat_any (b off n cap : Nat) (L : Nat → List UInt8) (ad : Nat → Option Addr) (cp : Nat → Nat) (w : World) (hn : n ≤ 1099511627776) (hb : b < w.heap.size)
    (hc : ∀ j, j < n → w.cell? ⟨b, off + j, none⟩ = some (.slice (ad j) (L j).length (cp j)) ∧ BytesAt w (ad j) (L j)) (ht : (H.cat L n).length ≤ 1099511627776) :
    Calls Tryd.prog 30 #[.slice (some ⟨b, off, none⟩) n cap] w (Made (H.cat L n) w) := by
  have HC := Lib.hid hc
  have HT := Lib.hid ht
  clear hc ht
  go_enter Tryd.func30, Tryd.ntmps30
  go_wp2
  go_loop [3, 11] (fun ss ii => ∃ k : Nat, k ≤ n ∧ ii = .int .i64 k ∧ ss = .int .i64 ((H.cat L k).length : Nat))
    (fun _ ii => n - (intOf ii).toNat)
  case atStart => exact ⟨0, Nat.zero_le _, rfl, rfl⟩
  case round =>
    obtain ⟨k, hk, rfl, rfl⟩ := hrel
    by_cases hlt : k < n
    · have hcx := (HC.out k hlt).1
      have hl1 : (H.cat L k).length + (L k).length = (H.cat L (k + 1)).length := by simp [H.cat]
      have hl2 : (H.cat L (k + 1)).length ≤ 1099511627776 := Nat.le_trans (H.cat_le L (by omega)) HT.out
      have HL1 := Lib.hid hl1
      obtain ⟨x, hx⟩ : ∃ x, (H.cat L k).length = x := ⟨_, rfl⟩
      obtain ⟨y, hy⟩ : ∃ y, (L k).length = y := ⟨_, rfl⟩
      have hxy : x + y ≤ 1099511627776 := by omega
      rw [hy] at hcx
      rw [hx]
      have HX := Lib.hid hx; have HY := Lib.hid hy
      clear hx hy hl1 hl2
      go_wp2
      go_round
      case rel => exact ⟨k + 1, by omega, by go_num, by rw [← HL1.out, HX.out, HY.out]; go_num⟩
      case measure => simp [intOf]; omega
    · have hkn : k = n := by omega
      have hl2 : (H.cat L n).length ≤ 1099511627776 := HT.out
      rw [hkn]
      have HG := Lib.hid (grow_any (H.cat L n).length w hl2)
      clear hkn hlt hk
      go_wp2_with (go_at_call 39; (with_reducible refine HG.out.mono ?_); rintro e w1 ⟨v1, rfl, ho1, hb1⟩; have HO1 := Lib.hid ho1; have HB1 := Lib.hid hb1; clear ho1 hb1)
      go_loopw [6, 27] (fun vv ii wr => ∃ k : Nat, k ≤ n ∧ ii = .int .i64 k ∧ Hid (wr.ownsRow w.heap.size 5 1 vv (H.cat L k).length (bytes (H.cat L k)) ∧ Keeps w.heap.size w wr))
        (fun _ ii _ => n - (intOf ii).toNat)
      case atStart => exact ⟨0, Nat.zero_le _, rfl, Lib.hid ⟨HO1.out, Keeps.of_below HB1.out⟩⟩
      case round =>
        obtain ⟨k, hk, rfl, HW⟩ := hrel
        by_cases hlt : k < n
        · have hcx : wr.cell? ⟨b, off + k, none⟩ = some (.slice (ad k) (L k).length (cp k)) := ((HW.out.2.below (Nat.le_refl _)).cell (p := ⟨b, off + k, none⟩) hb).trans (HC.out k hlt).1
          have hba := ((HC.out k hlt).2).kept (HW.out.2.below (Nat.le_refl _))
          have hl1 : (H.cat L k).length + (L k).length = (H.cat L (k + 1)).length := by simp [H.cat]
          have hl3 : (H.cat L (k + 1)).length ≤ 1099511627776 := Nat.le_trans (H.cat_le L (by omega)) HT.out
          have HL1 := Lib.hid hl1
          have HL3 := Lib.hid hl3
          have HBA := Lib.hid hba
          clear hl1 hl2 hl3 hba
          go_wp2_with (at_builtin; refine wpl_cat rfl _ _ rfl w.heap.size _ _ _ rfl HW.out.1 (ad k) _ (cp k) _ rfl rfl HBA.out (by have := HL1.out; have := HL3.out; omega) HW.out.2.size ?_; intro v' w' h1' h2'; have HN := Lib.hid (And.intro (show w'.ownsRow w.heap.size 5 1 v' (H.cat L (k + 1)).length (bytes (H.cat L (k + 1))) from by rw [← HL1.out]; exact h1') (HW.out.2.trans h2')); clear h1' h2')
          go_roundw
          case rel => exact ⟨k + 1, by omega, by go_num, HN⟩
          case measure => simp [intOf]; omega
        · have hkn : k = n := by omega
          rw [hkn] at HW
          clear hkn
          go_wp2_with fail
          go_ret
          exact ⟨_, rfl, HW.out.1, HW.out.2.below (Nat.le_refl _)⟩

end Go.Proofs.YthamligdmfhmeaaDoor
