/- slices.Chunk at bytes, in pieces of 64: the closure as an iterator. -/
import Derived.RangeFuncNested
import Derived.RangeFuncBound
import Derived.RangeFuncCalls
import Derived.RangeFuncLeaves
import Derived.RangeFuncBox
import Derived.RangeFuncFrom
import Derived.Shelf.Abstract
import Derived.Shelf.RegionOpen
import Derived.OwnWalkIn
import Derived.TacticsInMore
import Derived.LoopNIn
import Derived.LoopIn
import Derived.Test.YthamligdmfhmeaaDoorPad
namespace Go.Proofs.YthamligdmfhmeaaDoor
open Go.RowKit Go.Shelf

attribute [local go_sem] Oper.semAt_some

/-- Blocks below n₁, but for block g, are as they were. -/
structure Kq (g n₁ : Nat) (w w' : World) : Prop where
  size : w.heap.size ≤ w'.heap.size
  block : ∀ k, k < n₁ → k ≠ g → w'.heap[k]? = w.heap[k]?
theorem Kq.refl (g n₁ : Nat) (w : World) : Kq g n₁ w w := ⟨Nat.le_refl _, fun _ _ _ => rfl⟩
theorem Kq.trans {g n₁ : Nat} {a b c : World} (h : Kq g n₁ a b) (k : Kq g n₁ b c) : Kq g n₁ a c :=
  ⟨Nat.le_trans h.size k.size, fun i hi hn => (k.block i hi hn).trans (h.block i hi hn)⟩
theorem Kq.of_but {g n₁ : Nat} {a b : World} (h : But g a b) (hn : n₁ ≤ a.heap.size) : Kq g n₁ a b := ⟨h.size, fun k hk hg => h.block k (by omega) hg⟩
theorem Kq.cell {g n₁ : Nat} {a b : World} (h : Kq g n₁ a b) {k i : Nat} (hk : k < n₁) (hg : k ≠ g) : b.cell? ⟨k, i, none⟩ = a.cell? ⟨k, i, none⟩ := by
  simp only [World.cell?, h.block k hk hg]

set_option maxRecDepth 100000 in
set_option maxHeartbeats 2000000 in
/-- The closure of slices.Chunk over m pieces. -/
theorem chunk1_in (n : Nat) (hn : 1 ≤ n) (l Bs Bn g n₁ b off m cap : Nat) (hm0 : 0 < m) (hm : m ≤ 1099511627776) (hcap : 64 * m ≤ cap) (hBs : Bs < n₁) (hBn : Bn < n₁) (gs : Bs ≠ g) (gn : Bn ≠ g) (J Jx : List Nat → World → Prop) (hJ : ∀ s A k, J s A → J s (World.drewN A k))
    (hY : ∀ pre x W, J pre W → pre.length < m → YieldAt Fence.wide (n - 1) Tryd.prog l #[.slice (some ⟨b, off + 64 * (x % m), none⟩) 64 64] W fun e W' =>
      (e = .returned (.bool true) ∧ J (pre ++ [x]) W' ∧ Kq g n₁ W W') ∨ (e = .returned (.bool false) ∧ Jx (pre ++ [x]) W'))
    (W : World) (hs : W.cell? ⟨Bs, 0, none⟩ = some (.slice (some ⟨b, off, none⟩) (64 * m) cap)) (hnn : W.cell? ⟨Bn, 0, none⟩ = some (.int .i64 64)) (h0 : J [] W) :
    CallsIn Fence.wide n Tryd.prog 42 #[.func (.yield l) #[] #[], .pointer (some ⟨Bs, 0, none⟩), .pointer (some ⟨Bn, 0, none⟩)] W fun e W' => (∃ v, e = .returned v) ∧
      ((∃ ys, ys = List.range m ∧ J ys W') ∨ (∃ pre, True ∧ Jx pre W')) := by
  refine callsIn_of_wp Tryd.func42 rfl (by trivial) ?_ rfl
  simp only [Tryd.ntmps42, List.size_toArray, List.length_cons, List.length_nil, Nat.reduceAdd, Nat.reduceSub, Array.replicate_succ, Array.replicate_zero, List.push_toArray, List.append_toArray, List.nil_append, List.cons_append]
  gi_wp2
  gi_loopw [4] (fun i wr => ∃ k : Nat, k ≤ m ∧ i = .int .i64 ((64 * k : Nat) : Int) ∧ J (List.range k) wr ∧ Kq g n₁ W wr)
    (fun i _ => 64 * m - (intOf i).toNat)
  case atStart => exact ⟨0, Nat.zero_le _, rfl, h0, Kq.refl _ _ _⟩
  case round =>
    obtain ⟨k, hk, rfl, hJk, hkq⟩ := hrel
    have cs := (hkq.cell (i := 0) hBs gs).trans hs
    have cn := (hkq.cell (i := 0) hBn gn).trans hnn
    by_cases hlt : k < m
    · obtain ⟨q, hq⟩ : ∃ q, 64 * k = q := ⟨_, rfl⟩
      obtain ⟨e, he⟩ : ∃ e, 64 * m = e := ⟨_, rfl⟩
      have hqe : q + 64 ≤ e := by omega
      have hel : e ≤ 70368744177664 := by omega
      rw [hq]
      rw [he] at cs
      rw [he] at hcap
      have HQ := Lib.hid hq; have HE := Lib.hid he
      have hsl : ∀ W : World, (Instr.slice 22 (.slice (some ⟨b, off, none⟩) e cap) (some (.int .i64 (q : Int))) none none).run Tryd.prog W = .ok (.slice (some ⟨b, off + q, none⟩) (e - q) (cap - q)) W := fun W => by
        rw [run_slice_l (P := Tryd.prog) (w := W) 22 _ e cap (by kernel_rfl) .i64 (q : Int) (by omega) (by omega)]
        have hs : (sizeOf (Tryd.prog.elem 22)).run Tryd.prog W = .ok 1 W := by kernel_rfl
        rw [hs]
        simp only [Result.andThen, sliced, Int.toNat_natCast, Nat.mul_one]
        rw [if_neg (by omega)]
        simp [Addr.add]
      clear hq he
      gi_wp2
      refine wpIn_wide.2 ?_
      have c1 : ((e - q : Nat) : Int) = (e : Int) - (q : Int) := by omega
      go_quiet (fail)
      have hkq2 : Kq g n₁ wr (wr.drewN nq) := ⟨Nat.le_refl _, fun _ _ _ => rfl⟩
      have HKQ := Lib.hid (hkq.trans hkq2)
      have HJ := Lib.hid (hJ _ _ nq hJk)
      clear hkq hkq2 hJk cs cn c1 hsl
      generalize wr.drewN nq = wq at HKQ HJ ⊢
      have cs := (HKQ.out.cell (i := 0) hBs gs).trans hs
      rw [HE.out] at cs
      have hY1 := hY _ k wq HJ.out (by rw [List.length_range]; exact hlt)
      rw [Nat.mod_eq_of_lt hlt, HQ.out] at hY1
      obtain ⟨fn, tmps, assign, body, hy, hR⟩ := hY1
      have HR := Lib.hid hR
      have hsl : ∀ W : World, (Instr.slice 22 (.slice (some ⟨b, off, none⟩) e cap) (some (.int .i64 (q : Int))) (some (.int .i64 ((q : Int) + 64))) (some (.int .i64 ((q : Int) + 64)))).run Tryd.prog W = .ok (.slice (some ⟨b, off + q, none⟩) 64 64) W := fun W => by
        rw [run_slice_lhm (P := Tryd.prog) (w := W) 22 _ e cap (by kernel_rfl) .i64 .i64 .i64 (q : Int) ((q : Int) + 64) ((q : Int) + 64) (by omega) (by omega) (by omega) (by omega)]
        have hs : (sizeOf (Tryd.prog.elem 22)).run Tryd.prog W = .ok 1 W := by kernel_rfl
        have e1 : ((q : Int) + 64).toNat = q + 64 := by omega
        rw [hs, e1]
        simp only [Result.andThen, sliced, Int.toNat_natCast, Nat.mul_one]
        rw [if_neg (by omega), show q + 64 - q = 64 from by omega]
        simp [Addr.add]
      clear hR
      gi_wp2
      clear hsl hy cs
      refine HR.out.mono ?_
      rintro e3 W3 (⟨rfl, hJ3, hk3⟩ | ⟨rfl, hJx3⟩)
      · have HK3 := Lib.hid (HKQ.out.trans hk3)
        have HJ3 := Lib.hid hJ3
        clear hk3 hJ3
        have cn3 := (HK3.out.cell (i := 0) hBn gn).trans hnn
        gi_wp2
        go_roundw
        case rel => exact ⟨k + 1, by omega, by rw [show 64 * (k + 1) = q + 64 from by have := HQ.out; omega]; go_num, by rw [List.range_succ]; exact HJ3.out, HK3.out⟩
        case measure => have := HQ.out; have := HE.out; simp [intOf]; omega
      · gi_wp2
        refine bodyPost_ret (results_none rfl _ _ _) rfl ?_
        exact ⟨⟨_, rfl⟩, .inr ⟨_, trivial, hJx3⟩⟩
    · have hkm : k = m := by omega
      rw [hkm] at hJk
      have c1 : ¬ (64 * k < 64 * m) := by omega
      gi_wp2
      go_end0
      exact ⟨⟨_, rfl⟩, .inl ⟨_, rfl, hJk⟩⟩

set_option maxRecDepth 100000 in
set_option maxHeartbeats 1000000 in
/-- .. over no piece. -/
theorem chunk1_nil_in (n : Nat) (l Bs Bn : Nat) (a : Option Addr) (cap : Nat) (J : List Nat → World → Prop) (W : World) (hs : W.cell? ⟨Bs, 0, none⟩ = some (.slice a 0 cap)) (h0 : J [] W) :
    CallsIn Fence.wide n Tryd.prog 42 #[.func (.yield l) #[] #[], .pointer (some ⟨Bs, 0, none⟩), .pointer (some ⟨Bn, 0, none⟩)] W fun e W' => (∃ v, e = .returned v) ∧ J [] W' := by
  refine callsIn_of_wp Tryd.func42 rfl (by trivial) ?_ rfl
  simp only [Tryd.ntmps42, List.size_toArray, List.length_cons, List.length_nil, Nat.reduceAdd, Nat.reduceSub, Array.replicate_succ, Array.replicate_zero, List.push_toArray, List.append_toArray, List.nil_append, List.cons_append]
  gi_wp2
  gi_loopw [4] (fun i wr => i = .int .i64 0 ∧ J [] wr ∧ wr.cell? ⟨Bs, 0, none⟩ = some (.slice a 0 cap)) (fun _ _ => 0)
  case atStart => exact ⟨rfl, h0, hs⟩
  case round =>
    obtain ⟨rfl, hJs, hc⟩ := hrel
    gi_wp2
    go_end0
    exact ⟨⟨_, rfl⟩, hJs⟩

set_option maxHeartbeats 1000000 in
/-- slices.Chunk in pieces of 64. -/
theorem chunk_any (a : Option Addr) (len cap : Nat) (w : World) :
    Calls Tryd.prog 34 #[.slice a len cap, .int .i64 64] w fun e w' =>
      e = .returned (.func (.func 42) #[] #[.pointer (some ⟨w.heap.size, 0, none⟩), .pointer (some ⟨w.heap.size + 1, 0, none⟩)]) ∧ w' = (w.alloc (.cells #[.slice a len cap] 22)).alloc (.cells #[.int .i64 64] 3) := by
  go_enter Tryd.func34, Tryd.ntmps34
  go_wp2
  go_ret
  exact ⟨rfl, rfl⟩

theorem grownBy_drewN (A : World) (k : Nat) : A.grownBy (A.drewN k) none := ⟨rfl, rfl, rfl, Nat.le_refl _, fun _ _ _ => rfl⟩

/-- What slices.Chunk hands back, as an iterator over the numbers of the pieces. -/
theorem chunk_stops (n : Nat) (hn : 1 ≤ n) (Bs Bn g n₁ b off m cap : Nat) (a : Option Addr) (ha : 0 < m → a = some ⟨b, off, none⟩) (hm : m ≤ 1099511627776) (hcap : 64 * m ≤ cap) (hBs : Bs < n₁) (hBn : Bn < n₁) (gs : Bs ≠ g) (gn : Bn ≠ g) (w : World) (hn₁ : n₁ ≤ w.heap.size)
    (hs : w.cell? ⟨Bs, 0, none⟩ = some (.slice a (64 * m) cap)) (hnn : w.cell? ⟨Bn, 0, none⟩ = some (.int .i64 64)) :
    SeqStopsK Fence.wide n Tryd.prog 42 #[.pointer (some ⟨Bs, 0, none⟩), .pointer (some ⟨Bn, 0, none⟩)] (fun x : Nat => #[.slice (some ⟨b, off + 64 * (x % m), none⟩) 64 64]) (Kq g n₁) (fun ys => ys = List.range m) (fun _ => True) m w := fun l J Jx W hW hJ _ hY h0 => by
  have hs' := (hW.cell (p := ⟨Bs, 0, none⟩) (by simp; omega)).trans hs
  have hn' := (hW.cell (p := ⟨Bn, 0, none⟩) (by simp; omega)).trans hnn
  rcases Nat.eq_zero_or_pos m with rfl | hm0
  · exact (chunk1_nil_in n l Bs Bn a cap J W hs' h0).mono fun e W' ⟨he, hj⟩ => ⟨he, .inl ⟨_, rfl, hj⟩⟩
  · rw [ha hm0] at hs'
    exact (chunk1_in n hn l Bs Bn g n₁ b off m cap hm0 hm hcap hBs hBn gs gn J Jx (fun s A k h => hJ s A _ none h (grownBy_drewN A k) (fun r e => by cases e)) hY W hs' hn' h0)

end Go.Proofs.YthamligdmfhmeaaDoor
