/- The walks of GroupAxioms, GroupPowers and GroupHalves. -/
import Derived.Test.YtmnlialfpffmkaaGLaws
namespace Go.Proofs.Ytmnlialfpffmkaa
open Go.RowKit

theorem mul_any (a b : Nat) (w : World) (ha : G.El a) (hb : G.El b) :
    Calls Try.prog 9 #[.int .i64 a, .int .i64 b] w fun e w' => e = .returned (.tuple #[.int .i64 (G.mp a b : Nat), .int .i64 0]) ∧ Below w.heap.size w w' := mul_ok a b _ w ha hb (Lib.hid rfl)
theorem exp_any (a k : Nat) (w : World) (ha : G.El a) (hk : k < 2305843009213688669) :
    Calls Try.prog 13 #[.int .i64 a, .int .i64 k] w fun e w' => e = .returned (.tuple #[.int .i64 (G.pw a k : Nat), .int .i64 0]) ∧ Below w.heap.size w w' := exp_ok a k _ w ha hk (Lib.hid rfl)
theorem inv_any (a : Nat) (w : World) (ha : G.El a) :
    Calls Try.prog 10 #[.int .i64 a] w fun e w' => e = .returned (.tuple #[.int .i64 (G.iv a : Nat), .int .i64 0]) ∧ Below w.heap.size w w' := inv_ok a _ w ha (Lib.hid (G.pwG_eq 4611686018427377339 a 2305843009213688668))

set_option maxRecDepth 100000 in
set_option maxHeartbeats 4000000 in
theorem axioms_walk (m n o : Nat) (w : World) (hm : m < 18446744073709551616) (hn : n < 18446744073709551616) (ho : o < 18446744073709551616) :
    Calls Try.prog 3 #[.int .u64 m, .int .u64 n, .int .u64 o] w fun e w' => e = .returned (.bool true) ∧ Below w.heap.size w w' := by
  have hE : ∀ (x : Nat), x < 18446744073709551616 → ∃ (b : Bool) (a : Nat), (b = true → G.El a) ∧ ∀ W : World, Calls Try.prog 8 #[.int .u64 x] W fun e w' => e = .returned (.tuple #[.int .i64 a, .bool b]) ∧ W = w' := by
    intro x hx
    by_cases h : x % 4611686018427377339 = 0
    · exact ⟨false, 0, fun e => by (cases e), fun W => element_no x W hx h⟩
    · refine ⟨true, G.sq x, fun _ => G.sq_el h, fun W => ?_⟩
      exact element_at x W hx h
  obtain ⟨bx, a, ha, HX⟩ := hE m hm
  obtain ⟨by', b, hb, HY⟩ := hE n hn
  obtain ⟨bz, c, hc, HZ⟩ := hE o ho
  have EX := Lib.hid HX; have EY := Lib.hid HY; have EZ := Lib.hid HZ
  have HA := Lib.hid ha; have HBE := Lib.hid hb; have HC := Lib.hid hc
  clear hE HX HY HZ ha hb hc hm hn ho
  go_enter Try.func3, Try.ntmps3
  go_wp2_with fail
  refine (gsane_any _).mono ?_; rintro e w1 ⟨rfl, hb⟩; have HB := Lib.hid hb; clear hb
  go_wp2_with fail
  refine (EX.out _).mono ?_; rintro e w2 ⟨rfl, rfl⟩
  go_wp2_with fail
  refine (EY.out _).mono ?_; rintro e w2 ⟨rfl, rfl⟩
  go_wp2_with fail
  refine (EZ.out _).mono ?_; rintro e w2 ⟨rfl, rfl⟩
  clear EX EY EZ
  cases bx
  · go_wp2_with fail
    go_ret
    exact ⟨rfl, HB.out⟩
  cases by'
  · go_wp2_with fail
    go_ret
    exact ⟨rfl, HB.out⟩
  cases bz
  · go_wp2_with fail
    go_ret
    exact ⟨rfl, HB.out⟩
  have hea := HA.out rfl
  have heb := HBE.out rfl
  have hec := HC.out rfl
  have e1 := G.mp_comm b a
  have e2 := G.mp_assoc a b c
  have e3 := G.mp_iv hea
  have A1 : Hid (∀ W : World, Calls Try.prog 9 #[.int .i64 a, .int .i64 1] W fun e w' => e = .returned (.tuple #[.int .i64 a, .int .i64 0]) ∧ Below W.heap.size W w') := Lib.hid fun W => by
    have := mul_any a 1 W hea G.el1
    rw [G.mp_one hea] at this
    exact this
  have A := Lib.hid hea; have B := Lib.hid heb; have C := Lib.hid hec
  clear hea heb hec HA HBE HC
  go_wp2_with (first
    | (go_at_call 9; (with_reducible refine (A1.out _).mono ?_); rintro e wc ⟨rfl, hb⟩; replace HB := below_step HB hb; clear hb)
    | (go_at_call 9; (with_reducible refine (mul_any _ _ _ (by first | exact A.out | exact B.out | exact C.out | exact A.out.iv | exact A.out.mp B.out) (by first | exact A.out | exact B.out | exact C.out | exact A.out.iv | exact B.out.mp C.out)).mono ?_); rintro e wc ⟨rfl, hb⟩; replace HB := below_step HB hb; clear hb)
    | (go_at_call 10; (with_reducible refine (inv_any _ _ A.out).mono ?_); rintro e wc ⟨rfl, hb⟩; replace HB := below_step HB hb; clear hb)
    | (go_at_call 11; (with_reducible refine (check_ok _ _ (by first | exact A.out.iv | exact A.out.mp B.out)).mono ?_); rintro e wc ⟨rfl, hb⟩; replace HB := below_step HB hb; clear hb))
  go_ret
  exact ⟨rfl, HB.out⟩

set_option maxRecDepth 100000 in
set_option maxHeartbeats 4000000 in
theorem powers_walk (m : Nat) (x y : Int) (w : World) (hm : m < 18446744073709551616) :
    Calls Try.prog 4 #[.int .u64 m, .int .i64 x, .int .i64 y] w fun e w' => e = .returned (.bool true) ∧ Below w.heap.size w w' := by
  by_cases h0 : m % 4611686018427377339 = 0
  · have EX : Hid (∀ W : World, Calls Try.prog 8 #[.int .u64 m] W fun e w' => e = .returned (.tuple #[.int .i64 0, .bool false]) ∧ W = w') := Lib.hid fun W => element_no m W hm h0
    clear hm h0
    go_enter Try.func4, Try.ntmps4
    go_wp2_with fail
    refine (gsane_any _).mono ?_; rintro e w1 ⟨rfl, hb⟩; have HB := Lib.hid hb; clear hb
    go_wp2_with (go_at_call 8; (with_reducible refine (EX.out _).mono ?_); rintro e w' ⟨rfl, rfl⟩)
    go_ret
    exact ⟨rfl, HB.out⟩
  have hel := G.sq_el h0
  have EX : Hid (∀ W : World, Calls Try.prog 8 #[.int .u64 m] W fun e w' => e = .returned (.tuple #[.int .i64 (G.sq m : Nat), .bool true]) ∧ W = w') := Lib.hid fun W => element_at m W hm h0
  obtain ⟨a, ha⟩ : ∃ a, a = G.sq m := ⟨_, rfl⟩
  rw [← ha] at hel EX
  clear hm h0 ha
  have A := Lib.hid hel
  clear hel
  go_enter Try.func4, Try.ntmps4
  go_wp2_with fail
  refine (gsane_any _).mono ?_; rintro e w1 ⟨rfl, hb⟩; have HB := Lib.hid hb; clear hb
  go_wp2_with fail
  refine (EX.out _).mono ?_; rintro e w' ⟨rfl, rfl⟩
  clear EX
  go_wp2_with fail
  refine (of_any _ _).mono ?_; rintro e w2 ⟨⟨j, hj, rfl⟩, rfl⟩
  go_wp2_with fail
  refine (of_any _ _).mono ?_; rintro e w2 ⟨⟨k, hk, rfl⟩, rfl⟩
  have e1 := G.pw_ad A.out j k
  have e2 := G.pw_ml A.out j k
  have S1 : Hid (∀ W : World, Calls Try.prog 14 #[.int .i64 j, .int .i64 k] W fun e w' => e = .returned (.tuple #[.int .i64 (G.ad j k : Nat), .int .i64 0]) ∧ Below W.heap.size W w') := Lib.hid fun W => sum_ok j k _ W hj hk (Lib.hid rfl)
  have P1 : Hid (∀ W : World, Calls Try.prog 15 #[.int .i64 j, .int .i64 k] W fun e w' => e = .returned (.tuple #[.int .i64 (G.ml j k : Nat), .int .i64 0]) ∧ Below W.heap.size W w') := Lib.hid fun W => prod_ok j k _ W hj hk (Lib.hid rfl)
  have X0 : Hid (∀ W : World, Calls Try.prog 13 #[.int .i64 a, .int .i64 0] W fun e w' => e = .returned (.tuple #[.int .i64 1, .int .i64 0]) ∧ Below W.heap.size W w') := Lib.hid fun W => by
    have := exp_any a 0 W A.out (by decide)
    rw [G.pw_zero] at this
    exact this
  have X1 : Hid (∀ W : World, Calls Try.prog 13 #[.int .i64 a, .int .i64 1] W fun e w' => e = .returned (.tuple #[.int .i64 a, .int .i64 0]) ∧ Below W.heap.size W w') := Lib.hid fun W => by
    have := exp_any a 1 W A.out (by decide)
    rw [G.pw_one A.out] at this
    exact this
  have X2 : Hid (∀ W : World, Calls Try.prog 13 #[.int .i64 a, .int .i64 2305843009213688668] W fun e w' => e = .returned (.tuple #[.int .i64 (G.iv a : Nat), .int .i64 0]) ∧ Below W.heap.size W w') := Lib.hid fun W => exp_any a 2305843009213688668 W A.out (by decide)
  have J := Lib.hid hj; have K := Lib.hid hk
  clear hj hk
  go_wp2_with (first
    | (go_at_call 13; (with_reducible refine (X0.out _).mono ?_); rintro e wc ⟨rfl, hb⟩; replace HB := below_step HB hb; clear hb)
    | (go_at_call 13; (with_reducible refine (X1.out _).mono ?_); rintro e wc ⟨rfl, hb⟩; replace HB := below_step HB hb; clear hb)
    | (go_at_call 13; (with_reducible refine (X2.out _).mono ?_); rintro e wc ⟨rfl, hb⟩; replace HB := below_step HB hb; clear hb)
    | (go_at_call 13; (with_reducible refine (exp_any _ _ _ (by first | exact A.out | exact A.out.pw _) (by first | exact J.out | exact K.out | exact G.ad_lt _ _ | exact G.ml_lt _ _)).mono ?_); rintro e wc ⟨rfl, hb⟩; replace HB := below_step HB hb; clear hb)
    | (go_at_call 14; (with_reducible refine (S1.out _).mono ?_); rintro e wc ⟨rfl, hb⟩; replace HB := below_step HB hb; clear hb)
    | (go_at_call 15; (with_reducible refine (P1.out _).mono ?_); rintro e wc ⟨rfl, hb⟩; replace HB := below_step HB hb; clear hb)
    | (go_at_call 9; (with_reducible refine (mul_any _ _ _ (A.out.pw _) (A.out.pw _)).mono ?_); rintro e wc ⟨rfl, hb⟩; replace HB := below_step HB hb; clear hb)
    | (go_at_call 10; (with_reducible refine (inv_any _ _ A.out).mono ?_); rintro e wc ⟨rfl, hb⟩; replace HB := below_step HB hb; clear hb))
  go_ret
  exact ⟨rfl, HB.out⟩

set_option maxRecDepth 100000 in
set_option maxHeartbeats 4000000 in
theorem halves_walk (n : Nat) (w : World) (hn : n < 18446744073709551616) :
    Calls Try.prog 6 #[.int .u64 n] w fun e w' => e = .returned (.bool true) ∧ Below w.heap.size w w' := by
  obtain ⟨a, ha⟩ : ∃ a, a = n % 4611686018427377339 := ⟨_, rfl⟩
  have hal : a < 4611686018427377339 := by rw [ha]; exact Nat.mod_lt _ (by decide)
  have hal2 : a < 4611686018427387904 := by omega
  have e0 : (n : Int) % 4611686018427377339 = (a : Int) := by omega
  by_cases h0 : a = 0
  · have CN : Hid (∀ W : World, Calls Try.prog 11 #[.int .i64 0] W fun e w' => e = .returned (.int .i64 30) ∧ Below W.heap.size W w') := Lib.hid fun W => check_no 0 W (G.no_out (.inl (by decide)))
    subst h0
    have E0 := e0
    clear hal hal2 ha
    go_enter Try.func6, Try.ntmps6
    go_wp2_with fail
    refine (gsane_any _).mono ?_; rintro e w1 ⟨rfl, hb⟩; have HB := Lib.hid hb; clear hb
    go_wp2_with (go_at_call 11; (with_reducible refine (CN.out _).mono ?_); rintro e wc ⟨rfl, hb⟩; replace HB := below_step HB hb; clear hb)
    go_ret
    exact ⟨rfl, HB.out⟩
  have hel := G.sq_el (n := n) (by rw [← ha]; exact h0)
  have EX : Hid (∀ W : World, Calls Try.prog 8 #[.int .u64 n] W fun e w' => e = .returned (.tuple #[.int .i64 (G.sq n : Nat), .bool true]) ∧ W = w') := Lib.hid fun W => element_at n W hn (by rw [← ha]; exact h0)
  obtain ⟨s, hs⟩ : ∃ s, s = G.sq n := ⟨_, rfl⟩
  rw [← hs] at hel EX
  have CS : Hid (∀ W : World, Calls Try.prog 11 #[.int .i64 s] W fun e w' => e = .returned (.int .i64 0) ∧ Below W.heap.size W w') := Lib.hid fun W => check_ok s W hel
  obtain ⟨b, hb⟩ : ∃ b, b = 4611686018427377339 - a := ⟨_, rfl⟩
  have e2 : 4611686018427377339 - (a : Int) = (b : Int) := by omega
  have hz : ((a : Int) == 0) = false := by simp; omega
  have hh := G.halves (a := a) (by omega) hal
  rw [← hb] at hh
  have hch : ∃ p q : Int, (p = 0 ∧ q = 30 ∨ p = 30 ∧ q = 0) ∧ (∀ W : World, Calls Try.prog 11 #[.int .i64 a] W fun e w' => e = .returned (.int .i64 p) ∧ Below W.heap.size W w') ∧
      (∀ W : World, Calls Try.prog 11 #[.int .i64 b] W fun e w' => e = .returned (.int .i64 q) ∧ Below W.heap.size W w') := by
    have hno : ∀ {c : Nat}, ¬ G.El c → G.el c = false := fun h => by
      rw [← Bool.not_eq_true]; exact fun e => h (G.el_iff.1 e)
    rcases hh with ⟨h1, h2⟩ | ⟨h1, h2⟩
    · exact ⟨0, 30, .inl ⟨rfl, rfl⟩, fun W => check_ok a W h1, fun W => check_no b W (hno h2)⟩
    · exact ⟨30, 0, .inr ⟨rfl, rfl⟩, fun W => check_no a W (hno h1), fun W => check_ok b W h2⟩
  obtain ⟨p, q, hpq, HC1, HC2⟩ := hch
  have C1 := Lib.hid HC1; have C2 := Lib.hid HC2
  have hb2 : b < 4611686018427387904 := by omega
  clear HC1 HC2 hh hb hs hel h0 hal ha
  rcases hpq with ⟨rfl, rfl⟩ | ⟨rfl, rfl⟩
  all_goals
    go_enter Try.func6, Try.ntmps6
    go_wp2_with fail
    refine (gsane_any _).mono ?_; rintro e w1 ⟨rfl, hb⟩; have HB := Lib.hid hb; clear hb
    go_wp2_with (first
      | (go_at_call 8; (with_reducible refine (EX.out _).mono ?_); rintro e w' ⟨rfl, rfl⟩)
      | (go_at_call 11; (with_reducible refine (CS.out _).mono ?_); rintro e wc ⟨rfl, hb⟩; replace HB := below_step HB hb; clear hb)
      | (go_at_call 11; (with_reducible refine (C1.out _).mono ?_); rintro e wc ⟨rfl, hb⟩; replace HB := below_step HB hb; clear hb)
      | (go_at_call 11; (with_reducible refine (C2.out _).mono ?_); rintro e wc ⟨rfl, hb⟩; replace HB := below_step HB hb; clear hb))
    go_ret
    exact ⟨rfl, HB.out⟩

end Go.Proofs.Ytmnlialfpffmkaa
