/- Contract of padding. -/
import Derived.Test.YthamligdmfhmeaaDoorConcat
namespace Go.Proofs.YthamligdmfhmeaaDoor
open Go.RowKit

namespace H
/-- What follows n bytes: a one, zeros, and k bytes of the number of bits. -/
def padn (n : Nat) : Nat → List UInt8
  | 0 => 128 :: List.replicate (63 - (n + 8) % 64) 0
  | k + 1 => padn n k ++ [UInt8.ofNat (n * 8 / 2 ^ (8 * (7 - k)) % 256)]
def pad (n : Nat) : List UInt8 := padn n 8
theorem padn_len (n : Nat) : ∀ k, (padn n k).length = 64 - (n + 8) % 64 + k
  | 0 => by simp [padn]; omega
  | k + 1 => by simp [padn, padn_len n k]; omega
end H

theorem zeroCells_rep (v : Value) (n : Nat) : Builtin.zeroCells #[v] n = Array.replicate n v := by
  apply Array.ext
  · simp [Builtin.zeroCells]
  · intro i h1 h2
    simp [Builtin.zeroCells, Nat.mod_one]

/-- 'append(b, make([]byte, z)...)', b a row of one byte. -/
theorem wpl_zeros {ops : Array Oper} {rest : List Oper} {o : Oper} {a : Act} {Q : Exit → Act → World → Prop} {w : World} (hgd : o.guard = none) (s x : Operand)
    (ho : o.op = .call { callee := .builtin .append, args := #[s, x], argTypes := #[22, 3] })
    (base B c z : Nat) (hs : a.eval s = .slice (some ⟨B, 0, none⟩) 1 1) (hB : w.heap[B]? = some (.cells #[.int .u8 c] 5 (0, 0))) (hc : c < 256) (hbB : base ≤ B)
    (hx : a.eval x = .int .i64 z) (hz : z ≤ 1099511627776)
    (h : ∀ v' w', w'.ownsRow base 5 1 v' (1 + z) (bytes (UInt8.ofNat c :: List.replicate z 0)) → Keeps base w w' → wpList Tryd.prog ops Q rest (a.put o.dst v') w') :
    wpList Tryd.prog ops Q (o :: rest) a w := by
  obtain ⟨i0, hi, hz0, hz1, hz2⟩ := info_parts Tryd.infoU8
  have hlt : B < w.heap.size := (Array.getElem?_eq_some_iff.1 hB).1
  have hcb : bytes [UInt8.ofNat c] = [.int .u8 c] := by simp [bytes, Nat.mod_eq_of_lt hc]
  by_cases h0 : z = 0
  · subst h0
    have hrun : ∀ ty, (Builtin.append_ #[22, 3] ty #[.slice (some ⟨B, 0, none⟩) 1 1, .int .i64 (0 : Nat)]).run Tryd.prog w = .ok (.slice (some ⟨B, 0, none⟩) 1 1) w := fun ty => by
      have hw : IntKind.i64.wrap 0 = 0 := by rw [IntKind.wrap_i64]; rfl
      simp [Builtin.append_, run_underlying Tryd.underlying22, run_underlying Tryd.underlying3, sizeOf, typeInfo, zeroValue, hi, hz0, asInt, asIntOf, hw, storeCells]
    refine Lib.wpList_append_run _ hgd _ _ _ _ ho _ _ hs hx _ _ (hrun _) ?_
    refine h _ w ?_ (Keeps.refl _ _)
    simp only [List.replicate_zero, hcb]
    exact ⟨rfl, .inr ⟨B, 1, _, rfl, hbB, hB, Nat.le_refl _, by decide, rfl, rfl⟩⟩
  · have hold : (Builtin.firstCells i0.size 1 (.slice (some ⟨B, 0, none⟩) 1 1)).run Tryd.prog w.drew = .ok ([.int .u8 c] : List Value).toArray w.drew :=
      run_firstCells_some w.drew i0.size 1 ⟨B, 0, none⟩ 1 1 [.int .u8 c] (by rw [hz1]; rfl) (fun j v hj => by
        have : w.cell? ((⟨B, 0, none⟩ : Addr).add j) = some v := by
          match j, hj with
          | 0, hj =>
            simp at hj; subst hj
            rw [show (⟨B, 0, none⟩ : Addr).add 0 = ⟨B, 0, none⟩ from rfl, cell_of_row w B 0 _ _ _ hB]; rfl
        exact this)
    have hrz : ∀ ty, (Builtin.append_ #[22, 3] ty #[.slice (some ⟨B, 0, none⟩) 1 1, .int .i64 z]).run Tryd.prog w =
        .ok (.slice (some ⟨w.heap.size, 0, none⟩) (1 + z) (grownCap w (1 + z) 1 5)) (w.drew.alloc (.cells (([.int .u8 c] : List Value).toArray ++ Builtin.zeroCells #[.int .u8 0] z ++ Builtin.zeroCells #[.int .u8 0] (grownCap w (1 + z) 1 5 - (1 + z))) 5)) := fun ty => by
      have h := Lib.run_append_grow_zeros w 22 3 ty 5 i0 _ .i64 .i64 Tryd.underlying22 Tryd.underlying3 hi hz0 (some ⟨B, 0, none⟩) 1 1 [.int .u8 c] hold z (by omega) (by omega) (by omega) (by omega) (by rw [hz2]; omega)
        (by rw [hz2]; have := growslice_fits (need := 1 + z) (old := 1) (bytes := 1) (by omega) (by omega); simpa using this)
      simpa [Value.cells] using h
    have hge : 1 + z ≤ grownCap w (1 + z) 1 5 := grownCap_ge w _ _ _
    have hle := grownCap_le_maxLen w (1 + z) 1 5 (by unfold maxLen; omega)
    obtain ⟨G, hG⟩ : ∃ G, G = grownCap w (1 + z) 1 5 := ⟨_, rfl⟩
    rw [← hG] at hrz hge hle
    refine Lib.wpList_append_run _ hgd _ _ _ _ ho _ _ hs hx _ _ (hrz _) ?_
    refine h _ _ ?_ (((Keeps.refl base w).drew).alloc _)
    refine ⟨by simp [bytes_len]; omega, .inr ⟨w.heap.size, G, _, rfl, by omega, heap_alloc_new w.drew _, hge, hle, ?_, ?_⟩⟩
    · simp [zeroCells_size]; omega
    · rw [zeroCells_rep, zeroCells_rep]
      simp only [Array.toList_append, Array.toList_replicate, Nat.mul_one]
      rw [List.take_append_of_le_length (by simp; omega), List.take_of_length_le (by simp; omega)]
      simp [bytes, Nat.mod_eq_of_lt hc]

set_option maxRecDepth 100000 in
set_option maxHeartbeats 1000000 in
theorem padding_any (n : Nat) (w : World) (hn : n ≤ 1099511627776) :
    Calls Tryd.prog 35 #[.int .i64 n] w (Made (H.pad n) w) := by
  have hz : 63 - ((n : Int) + 8) % 64 = ((63 - (n + 8) % 64 : Nat) : Int) := by omega
  have HZ := Lib.hid hz
  obtain ⟨z, hzz⟩ : ∃ z, 63 - (n + 8) % 64 = z := ⟨_, rfl⟩
  rw [hzz] at hz
  have hzl : z ≤ 63 := by omega
  have HZZ := Lib.hid hzz
  clear hzz
  go_enter Tryd.func35, Tryd.ntmps35
  go_wp2_with (at_builtin; refine wpl_zeros rfl _ _ rfl w.heap.size w.heap.size 128 z rfl (heap_alloc_new w _) (by decide) (Nat.le_refl _) rfl (by omega) ?_; intro v1 w1 ho1 hk1; have HP := Lib.hid (And.intro ho1 ((Keeps.refl w.heap.size w).alloc _ |>.trans hk1)); clear ho1 hk1)
  have H0 : Hid (w1.ownsRow w.heap.size 5 1 v1 (H.padn n 0).length (bytes (H.padn n 0)) ∧ Keeps w.heap.size w w1) := Lib.hid (by
    have h := HP.out.1
    rw [← HZZ.out] at h
    refine ⟨?_, HP.out.2⟩
    rw [H.padn_len, H.padn, show 64 - (n + 8) % 64 + 0 = 1 + (63 - (n + 8) % 64) from by omega]
    exact h)
  clear HP
  go_loopw [4, 13] (fun vv ii wr => ∃ k : Nat, k ≤ 8 ∧ ii = .int .i64 k ∧ Hid (wr.ownsRow w.heap.size 5 1 vv (H.padn n k).length (bytes (H.padn n k)) ∧ Keeps w.heap.size w wr))
    (fun _ ii _ => 8 - (intOf ii).toNat)
  case atStart => exact ⟨0, Nat.zero_le _, rfl, H0⟩
  case round =>
    obtain ⟨k, hk, rfl, HW⟩ := hrel
    have hl := H.padn_len n k
    obtain ⟨m, hm⟩ : ∃ m, (H.padn n k).length = m := ⟨_, rfl⟩
    have hml : m ≤ 100 := by omega
    have HM := Lib.hid hm
    have HN : Hid (∀ (v' : Value) (w' : World), w'.ownsRow w.heap.size 5 1 v' ((H.padn n k).length + 1) (bytes (H.padn n k ++ [UInt8.ofNat ((n : Int) * 8 / 2 ^ (8 * (7 - k)) % 256).toNat])) → w'.ownsRow w.heap.size 5 1 v' (H.padn n (k + 1)).length (bytes (H.padn n (k + 1)))) := Lib.hid (fun v' w' h => by
      have e : ((n : Int) * 8 / 2 ^ (8 * (7 - k)) % 256).toNat = n * 8 / 2 ^ (8 * (7 - k)) % 256 := by
        have : ((n : Int) * 8 / 2 ^ (8 * (7 - k)) % 256) = ((n * 8 / 2 ^ (8 * (7 - k)) % 256 : Nat) : Int) := by simp
        rw [this]; rfl
      rw [e] at h
      rw [H.padn, List.length_append]; exact h)
    clear hl hm
    by_cases hlt : k < 8
    · go_wp2_with (at_builtin; refine wpl_push rfl _ _ rfl w.heap.size _ _ _ rfl HW.out.1 _ rfl (Int.emod_nonneg _ (by decide)) (Int.emod_lt_of_pos _ (by decide)) (by have := HM.out; omega) HW.out.2.size ?_; intro v' w' h1' h2'; have HN2 := Lib.hid (And.intro (HN.out v' w' h1') (HW.out.2.trans h2')); clear h1' h2')
      go_roundw
      case rel => exact ⟨k + 1, by omega, by go_num, HN2⟩
      case measure => simp [intOf]; omega
    · have hk8 : k = 8 := by omega
      rw [hk8] at HW
      clear hk8
      go_wp2_with fail
      go_ret
      exact ⟨_, rfl, HW.out.1, HW.out.2.below (Nat.le_refl _)⟩

end Go.Proofs.YthamligdmfhmeaaDoor
