/- Contracts of group's functions. -/
import Derived.Test.YtogedlfpgoicfaaDoorGProd
namespace Go.Proofs.YtogedlfpgoicfaaDoor
open Go.RowKit

namespace G
/-- A scalar. -/
def sc (x : Int) : Bool := decide (0 ≤ x ∧ x < 2305843009213688669)
theorem sc_nat {k : Nat} (h : k < 2305843009213688669) : sc k = true := by unfold sc; simp; omega
/-- An element. -/
def El (a : Nat) : Prop := 1 ≤ a ∧ a < 4611686018427377339 ∧ a ^ 2305843009213688669 % 4611686018427377339 = 1
/-- An element, as a test of any number. -/
def el (a : Int) : Bool := decide (1 ≤ a ∧ a < 4611686018427377339) && (a.toNat ^ 2305843009213688669 % 4611686018427377339 == 1)
/-- What Check says. -/
def chk (a : Int) : Int := if el a then 0 else 30
theorem El.lt {a : Nat} (h : El a) : a < 4611686018427377339 := h.2.1
theorem el_iff {a : Nat} : el a = true ↔ El a := by
  unfold el El
  rw [Bool.and_eq_true, decide_eq_true_iff, beq_iff_eq, Int.toNat_natCast]
  constructor
  · rintro ⟨⟨h1, h2⟩, h3⟩; exact ⟨by omega, by omega, h3⟩
  · rintro ⟨h1, h2, h3⟩; exact ⟨⟨by omega, by omega⟩, h3⟩
end G

set_option maxRecDepth 100000 in
set_option maxHeartbeats 1000000 in
theorem scalars_any (b off n cap : Nat) (xs : List Int) (w : World) (hn : xs.length = n) (hl : n ≤ 1000)
    (hc : ∀ j (h : j < xs.length), w.cell? ⟨b, off + j, none⟩ = some (.int .i64 xs[j])) :
    Calls Tryd.prog 76 #[.slice (some ⟨b, off, none⟩) n cap] w fun e w' => e = .returned (.bool (xs.all G.sc)) ∧ w = w' := by
  have HC := Lib.hid hc
  have HN := Lib.hid hn
  clear hc hn
  go_enter Tryd.func76, Tryd.ntmps76
  go_wp2
  go_loop [7] (fun ii => ∃ k : Nat, k ≤ n ∧ ii = .int .i64 k ∧ Hid ((xs.take k).all G.sc = true)) (fun ii => n - (intOf ii).toNat)
  case atStart => exact ⟨0, Nat.zero_le _, rfl, Lib.hid rfl⟩
  case round =>
    obtain ⟨k, hk, rfl, HT⟩ := hrel
    by_cases hlt : k < n
    · have hkl : k < xs.length := by rw [HN.out]; exact hlt
      have hcx := HC.out k hkl
      obtain ⟨x, hx⟩ : ∃ x, x = xs[k] := ⟨_, rfl⟩
      rw [← hx] at hcx
      have hsn : (xs.take (k + 1)).all G.sc = G.sc x := by
        rw [List.take_succ_eq_append_getElem hkl, List.all_append, HT.out, ← hx]
        simp
      have HS := Lib.hid hsn; have HX := Lib.hid hx
      clear hsn hx
      by_cases hsc : 0 ≤ x ∧ x < 2305843009213688669
      · have g1 : decide (x < 0) = false := by rw [decide_eq_false_iff_not]; omega
        have g2 : decide (2305843009213688669 ≤ x) = false := by rw [decide_eq_false_iff_not]; omega
        have hst : Hid (G.sc x = true) := Lib.hid (by unfold G.sc; simpa using hsc)
        clear hsc
        go_wp2_with fail
        go_round
        case rel => exact ⟨k + 1, by omega, by go_num, Lib.hid (by rw [HS.out, hst.out])⟩
        case measure => simp [intOf]; omega
      · have hst : Hid (xs.all G.sc = false) := Lib.hid (by
          rw [List.all_eq_false]
          refine ⟨x, by rw [HX.out]; exact List.getElem_mem _, ?_⟩
          unfold G.sc; simpa using hsc)
        rcases Int.lt_or_le x 0 with h | h
        · have g1 : decide (x < 0) = true := by rw [decide_eq_true_iff]; exact h
          clear hsc
          go_wp2_with fail
          go_ret
          rw [hst.out]
          exact ⟨rfl, rfl⟩
        · have g1 : decide (x < 0) = false := by rw [decide_eq_false_iff_not]; omega
          have g2 : decide (2305843009213688669 ≤ x) = true := by rw [decide_eq_true_iff]; omega
          clear hsc
          go_wp2_with fail
          go_ret
          rw [hst.out]
          exact ⟨rfl, rfl⟩
    · have hkn : k = n := by omega
      have hst : Hid (xs.all G.sc = true) := Lib.hid (by rw [← HT.out, hkn, ← HN.out, List.take_length])
      rw [hkn]
      clear hkn hlt hk
      go_wp2_with fail
      go_ret
      rw [hst.out]
      exact ⟨rfl, rfl⟩

set_option maxRecDepth 100000 in
set_option maxHeartbeats 1000000 in
theorem check_any (a : Int) (w : World) :
    Calls Tryd.prog 48 #[.int .i64 a] w fun e w' => e = .returned (.int .i64 (G.chk a)) ∧ Below w.heap.size w w' := by
  by_cases h1 : 1 ≤ a
  · have g1 : decide (a < 1) = false := by rw [decide_eq_false_iff_not]; omega
    by_cases h2 : a < 4611686018427377339
    · have g2 : decide (4611686018427377339 ≤ a) = false := by rw [decide_eq_false_iff_not]; omega
      obtain ⟨n, rfl⟩ : ∃ n : Nat, a = n := ⟨a.toNat, by omega⟩
      obtain ⟨z, hz⟩ : ∃ z, z = n ^ 2305843009213688669 % 4611686018427377339 := ⟨_, rfl⟩
      have HP : Hid (Calls Tryd.prog 95 #[.int .i64 n, .int .i64 2305843009213688669] w fun e w' => e = .returned (.int .i64 z) ∧ Below w.heap.size w w') := Lib.hid (power_any n 2305843009213688669 z w (by omega) (by decide) (Lib.hid hz))
      have hel : G.el n = (z == 1) := by
        unfold G.el
        rw [hz, Int.toNat_natCast]
        have : decide (1 ≤ (n : Int) ∧ (n : Int) < 4611686018427377339) = true := by rw [decide_eq_true_iff]; exact ⟨h1, h2⟩
        rw [this, Bool.true_and]
      have HE := Lib.hid hel
      have hs : Hid True := Lib.hid trivial
      clear hel hz h1 h2
      by_cases hz1 : z = 1
      · have g3 : ((z : Int) != 1) = false := by simp; omega
        have HZ := Lib.hid hz1
        clear hz1
        go_enter Tryd.func48, Tryd.ntmps48
        go_wp2_with (go_at_call 95; (with_reducible refine HP.out.mono ?_); rintro e w' ⟨rfl, hb⟩)
        go_ret
        rw [G.chk, HE.out, HZ.out]
        exact ⟨rfl, hb⟩
      · have g3 : ((z : Int) != 1) = true := by simp; omega
        have HZ := Lib.hid hz1
        clear hz1
        go_enter Tryd.func48, Tryd.ntmps48
        go_wp2_with (go_at_call 95; (with_reducible refine HP.out.mono ?_); rintro e w' ⟨rfl, hb⟩)
        go_ret
        rw [G.chk, HE.out, show (z == 1) = false by simpa using HZ.out]
        exact ⟨rfl, hb⟩
    · have g2 : decide (4611686018427377339 ≤ a) = true := by rw [decide_eq_true_iff]; omega
      have hel : Hid (G.el a = false) := Lib.hid (by
        unfold G.el
        have : decide (1 ≤ a ∧ a < 4611686018427377339) = false := by rw [decide_eq_false_iff_not]; omega
        rw [this, Bool.false_and])
      clear h1 h2
      go_enter Tryd.func48, Tryd.ntmps48
      go_wp2_with fail
      go_ret
      rw [G.chk, hel.out]
      exact ⟨rfl, Below.refl _ _⟩
  · have g1 : decide (a < 1) = true := by rw [decide_eq_true_iff]; omega
    have hel : Hid (G.el a = false) := Lib.hid (by
      unfold G.el
      have : decide (1 ≤ a ∧ a < 4611686018427377339) = false := by rw [decide_eq_false_iff_not]; omega
      rw [this, Bool.false_and])
    clear h1
    go_enter Tryd.func48, Tryd.ntmps48
    go_wp2_with fail
    go_ret
    rw [G.chk, hel.out]
    exact ⟨rfl, Below.refl _ _⟩

theorem scalars1_any (x : Int) (w : World) (b : Bool) (hb : Hid (G.sc x = b)) :
    Calls Tryd.prog 76 #[.slice (some ⟨w.heap.size, 0, none⟩) 1 1] (w.alloc (.cells #[.int .i64 x] 3)) fun e w' => e = .returned (.bool b) ∧ (w.alloc (.cells #[.int .i64 x] 3)) = w' := by
  refine (scalars_any w.heap.size 0 1 1 [x] _ rfl (by decide) ?_).mono ?_
  · intro j h
    have hj : j = 0 := by simpa using h
    subst hj
    simp [World.cell?_alloc_new]
  · rintro e w' ⟨rfl, rfl⟩
    exact ⟨by simp [hb.out], rfl⟩
theorem scalars2_any (x y : Int) (w : World) (b : Bool) (hb : Hid ((G.sc x && G.sc y) = b)) :
    Calls Tryd.prog 76 #[.slice (some ⟨w.heap.size, 0, none⟩) 2 2] (w.alloc (.cells #[.int .i64 x, .int .i64 y] 3)) fun e w' => e = .returned (.bool b) ∧ (w.alloc (.cells #[.int .i64 x, .int .i64 y] 3)) = w' := by
  refine (scalars_any w.heap.size 0 2 2 [x, y] _ rfl (by decide) ?_).mono ?_
  · intro j h
    have hj : j = 0 ∨ j = 1 := by simp at h; omega
    rcases hj with rfl | rfl <;> simp [World.cell?_alloc_new]
  · rintro e w' ⟨rfl, rfl⟩
    exact ⟨by simp [← hb.out], rfl⟩

theorem G.below_new (w : World) (o : Obj) : Below w.heap.size w (w.alloc o) := (Below.refl _ _).alloc (Nat.le_refl _) _

set_option maxRecDepth 100000 in
set_option maxHeartbeats 1000000 in
theorem sum_ok (a b z : Nat) (w : World) (ha : a < 2305843009213688669) (hb : b < 2305843009213688669) (HZ : Hid (z = (a + b) % 2305843009213688669)) :
    Calls Tryd.prog 32 #[.int .i64 a, .int .i64 b] w fun e w' => e = .returned (.tuple #[.int .i64 z, .int .i64 0]) ∧ Below w.heap.size w w' := by
  have HS := Lib.hid (scalars2_any a b w true (Lib.hid (by rw [G.sc_nat ha, G.sc_nat hb]; rfl)))
  obtain ⟨s, hs⟩ : ∃ s, s = a + b := ⟨_, rfl⟩
  have e1 : (a : Int) + (b : Int) = (s : Int) := by omega
  have e2 : (s : Int) % 2305843009213688669 = (z : Int) := by rw [HZ.out, ← hs]; exact (Int.natCast_emod s _).symm
  have hsl : s < 4611686018427387904 := by omega
  have E2 := Lib.hid e2
  clear hs ha hb e2
  go_enter Tryd.func32, Tryd.ntmps32
  go_wp2_with (go_at_call 76; (with_reducible refine HS.out.mono ?_); rintro e w' ⟨rfl, rfl⟩)
  go_ret2
  rw [← E2.out]
  exact ⟨rfl, G.below_new _ _⟩

set_option maxRecDepth 100000 in
set_option maxHeartbeats 1000000 in
theorem sum_no (a b : Int) (w : World) (h : Hid ((G.sc a && G.sc b) = false)) :
    Calls Tryd.prog 32 #[.int .i64 a, .int .i64 b] w fun e w' => e = .returned (.tuple #[.int .i64 0, .int .i64 1]) ∧ Below w.heap.size w w' := by
  have HS := Lib.hid (scalars2_any a b w false h)
  go_enter Tryd.func32, Tryd.ntmps32
  go_wp2_with (go_at_call 76; (with_reducible refine HS.out.mono ?_); rintro e w' ⟨rfl, rfl⟩)
  go_ret2
  exact ⟨rfl, G.below_new _ _⟩

set_option maxRecDepth 100000 in
set_option maxHeartbeats 1000000 in
theorem prod_ok (a b z : Nat) (w : World) (ha : a < 2305843009213688669) (hb : b < 2305843009213688669) (HZ : Hid (z = a * b % 2305843009213688669)) :
    Calls Tryd.prog 34 #[.int .i64 a, .int .i64 b] w fun e w' => e = .returned (.tuple #[.int .i64 z, .int .i64 0]) ∧ Below w.heap.size w w' := by
  have HS := Lib.hid (scalars2_any a b w true (Lib.hid (by rw [G.sc_nat ha, G.sc_nat hb]; rfl)))
  have HP : Hid (∀ W : World, Calls Tryd.prog 79 #[.int .i64 a, .int .i64 b, .int .i64 2305843009213688669] W fun e w' => e = .returned (.int .i64 z) ∧ ∃ n, w' = W.drewN n) := Lib.hid fun W =>
    product_any a b 2305843009213688669 z W (by decide) (by decide) ha hb HZ
  clear ha hb
  go_enter Tryd.func34, Tryd.ntmps34
  go_wp2_with (first | (go_at_call 76; (with_reducible refine HS.out.mono ?_); rintro e w' ⟨rfl, rfl⟩) | (go_at_call 79; (with_reducible refine (HP.out _).mono ?_); rintro e w' ⟨rfl, n, rfl⟩))
  go_ret2
  exact ⟨rfl, G.Below.drewN (G.below_new _ _) n⟩

set_option maxRecDepth 100000 in
set_option maxHeartbeats 1000000 in
theorem prod_no (a b : Int) (w : World) (h : Hid ((G.sc a && G.sc b) = false)) :
    Calls Tryd.prog 34 #[.int .i64 a, .int .i64 b] w fun e w' => e = .returned (.tuple #[.int .i64 0, .int .i64 1]) ∧ Below w.heap.size w w' := by
  have HS := Lib.hid (scalars2_any a b w false h)
  go_enter Tryd.func34, Tryd.ntmps34
  go_wp2_with (go_at_call 76; (with_reducible refine HS.out.mono ?_); rintro e w' ⟨rfl, rfl⟩)
  go_ret2
  exact ⟨rfl, G.below_new _ _⟩

theorem check_ok (a : Nat) (w : World) (ha : G.El a) :
    Calls Tryd.prog 48 #[.int .i64 a] w fun e w' => e = .returned (.int .i64 0) ∧ Below w.heap.size w w' := by
  refine (check_any a w).mono ?_
  rintro e w' ⟨rfl, hb⟩
  exact ⟨by rw [G.chk, G.el_iff.2 ha]; rfl, hb⟩
theorem check_no (a : Int) (w : World) (ha : G.el a = false) :
    Calls Tryd.prog 48 #[.int .i64 a] w fun e w' => e = .returned (.int .i64 30) ∧ Below w.heap.size w w' := by
  refine (check_any a w).mono ?_
  rintro e w' ⟨rfl, hb⟩
  exact ⟨by rw [G.chk, ha]; rfl, hb⟩

set_option maxRecDepth 100000 in
set_option maxHeartbeats 1000000 in
theorem mul_ok (a b z : Nat) (w : World) (ha : G.El a) (hb : G.El b) (HZ : Hid (z = a * b % 4611686018427377339)) :
    Calls Tryd.prog 52 #[.int .i64 a, .int .i64 b] w fun e w' => e = .returned (.tuple #[.int .i64 z, .int .i64 0]) ∧ Below w.heap.size w w' := by
  have HC : Hid (∀ W : World, Calls Tryd.prog 48 #[.int .i64 a] W fun e w' => e = .returned (.int .i64 0) ∧ Below W.heap.size W w') := Lib.hid fun W => check_ok a W ha
  have HD : Hid (∀ W : World, Calls Tryd.prog 48 #[.int .i64 b] W fun e w' => e = .returned (.int .i64 0) ∧ Below W.heap.size W w') := Lib.hid fun W => check_ok b W hb
  have HP : Hid (∀ W : World, Calls Tryd.prog 79 #[.int .i64 a, .int .i64 b, .int .i64 4611686018427377339] W fun e w' => e = .returned (.int .i64 z) ∧ ∃ n, w' = W.drewN n) := Lib.hid fun W =>
    product_any a b 4611686018427377339 z W (by decide) (by decide) ha.lt hb.lt HZ
  clear ha hb
  go_enter Tryd.func52, Tryd.ntmps52
  go_wp2_with fail
  refine (HC.out _).mono ?_
  rintro e w1 ⟨rfl, hb1⟩
  have HB1 := Lib.hid hb1
  clear hb1
  go_wp2_with fail
  refine (HD.out _).mono ?_
  rintro e w2 ⟨rfl, hb2⟩
  have HB2 := Lib.hid (HB1.out.trans (hb2.mono HB1.out.size))
  clear hb2
  go_wp2_with (go_at_call 79; (with_reducible refine (HP.out _).mono ?_); rintro e w' ⟨rfl, n, rfl⟩)
  go_ret2
  exact ⟨rfl, G.Below.drewN HB2.out n⟩

set_option maxRecDepth 100000 in
set_option maxHeartbeats 1000000 in
theorem exp_ok (a k z : Nat) (w : World) (ha : G.El a) (hk : k < 2305843009213688669) (HZ : Hid (z = a ^ k % 4611686018427377339)) :
    Calls Tryd.prog 50 #[.int .i64 a, .int .i64 k] w fun e w' => e = .returned (.tuple #[.int .i64 z, .int .i64 0]) ∧ Below w.heap.size w w' := by
  have HC : Hid (∀ W : World, Calls Tryd.prog 48 #[.int .i64 a] W fun e w' => e = .returned (.int .i64 0) ∧ Below W.heap.size W w') := Lib.hid fun W => check_ok a W ha
  have HS : Hid (∀ w : World, Calls Tryd.prog 76 #[.slice (some ⟨w.heap.size, 0, none⟩) 1 1] (w.alloc (.cells #[.int .i64 k] 3)) fun e w' => e = .returned (.bool true) ∧ (w.alloc (.cells #[.int .i64 k] 3)) = w') := Lib.hid fun w => scalars1_any k w true (Lib.hid (G.sc_nat hk))
  have HP : Hid (∀ W : World, Calls Tryd.prog 95 #[.int .i64 a, .int .i64 k] W fun e w' => e = .returned (.int .i64 z) ∧ Below W.heap.size W w') := Lib.hid fun W =>
    power_any a k z W ha.lt (by omega) HZ
  clear ha hk
  go_enter Tryd.func50, Tryd.ntmps50
  go_wp2_with fail
  refine (HC.out _).mono ?_
  rintro e w1 ⟨rfl, hb1⟩
  have HB1 := Lib.hid hb1
  clear hb1
  go_wp2_with (go_at_call 76; (with_reducible refine (HS.out _).mono ?_); rintro e w' ⟨rfl, rfl⟩)
  refine (HP.out _).mono ?_
  rintro e w2 ⟨rfl, hb2⟩
  have HB2 := Lib.hid ((HB1.out.alloc HB1.out.size _).trans (hb2.mono (Nat.le_trans HB1.out.size (by simp))))
  clear hb2
  go_wp2_with fail
  go_ret2
  exact ⟨rfl, HB2.out⟩

set_option maxRecDepth 100000 in
set_option maxHeartbeats 1000000 in
theorem exp_no (a : Nat) (k : Int) (w : World) (ha : G.El a) (hk : G.sc k = false) :
    Calls Tryd.prog 50 #[.int .i64 a, .int .i64 k] w fun e w' => e = .returned (.tuple #[.int .i64 0, .int .i64 1]) ∧ Below w.heap.size w w' := by
  have HC : Hid (∀ W : World, Calls Tryd.prog 48 #[.int .i64 a] W fun e w' => e = .returned (.int .i64 0) ∧ Below W.heap.size W w') := Lib.hid fun W => check_ok a W ha
  have HS : Hid (∀ w : World, Calls Tryd.prog 76 #[.slice (some ⟨w.heap.size, 0, none⟩) 1 1] (w.alloc (.cells #[.int .i64 k] 3)) fun e w' => e = .returned (.bool false) ∧ (w.alloc (.cells #[.int .i64 k] 3)) = w') := Lib.hid fun w => scalars1_any k w false (Lib.hid hk)
  clear ha hk
  go_enter Tryd.func50, Tryd.ntmps50
  go_wp2_with fail
  refine (HC.out _).mono ?_
  rintro e w1 ⟨rfl, hb1⟩
  have HB1 := Lib.hid hb1
  clear hb1
  go_wp2_with (go_at_call 76; (with_reducible refine (HS.out _).mono ?_); rintro e w' ⟨rfl, rfl⟩)
  go_ret2
  exact ⟨rfl, HB1.out.alloc HB1.out.size _⟩

set_option maxRecDepth 100000 in
set_option maxHeartbeats 1000000 in
theorem inv_ok (a z : Nat) (w : World) (ha : G.El a) (HZ : Hid (z = a ^ 2305843009213688668 % 4611686018427377339)) :
    Calls Tryd.prog 54 #[.int .i64 a] w fun e w' => e = .returned (.tuple #[.int .i64 z, .int .i64 0]) ∧ Below w.heap.size w w' := by
  have HE : Hid (Calls Tryd.prog 50 #[.int .i64 a, .int .i64 2305843009213688668] w fun e w' => e = .returned (.tuple #[.int .i64 z, .int .i64 0]) ∧ Below w.heap.size w w') := Lib.hid (exp_ok a 2305843009213688668 z w ha (by decide) HZ)
  clear ha
  go_enter Tryd.func54, Tryd.ntmps54
  go_wp2_with (go_at_call 50; (with_reducible refine HE.out.mono ?_); rintro e w' ⟨rfl, hb⟩)
  go_ret2
  exact ⟨rfl, hb⟩

namespace G
theorem el4 : El 4 := ⟨by decide, by decide, by
  rw [← pm_eq 4611686018427377339 64 4 2305843009213688669 (by decide)]
  decide +kernel⟩
end G

set_option maxRecDepth 100000 in
set_option maxHeartbeats 1000000 in
theorem base_ok (k z : Nat) (w : World) (hk : k < 2305843009213688669) (HZ : Hid (z = 4 ^ k % 4611686018427377339)) :
    Calls Tryd.prog 49 #[.int .i64 k] w fun e w' => e = .returned (.tuple #[.int .i64 z, .int .i64 0]) ∧ Below w.heap.size w w' := by
  have HE : Hid (Calls Tryd.prog 50 #[.int .i64 4, .int .i64 k] w fun e w' => e = .returned (.tuple #[.int .i64 z, .int .i64 0]) ∧ Below w.heap.size w w') := Lib.hid (exp_ok 4 k z w G.el4 hk HZ)
  go_enter Tryd.func49, Tryd.ntmps49
  go_wp2_with (go_at_call 50; (with_reducible refine HE.out.mono ?_); rintro e w' ⟨rfl, hb⟩)
  go_ret2
  exact ⟨rfl, hb⟩

end Go.Proofs.YtogedlfpgoicfaaDoor
