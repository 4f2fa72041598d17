/- The law SignVerifySpec: the reference's Verify, and the walk. -/
import Derived.Test.YtogedlfpgoicfaaDoorRSign
namespace Go.Proofs.YtogedlfpgoicfaaDoor
open Go.RowKit

theorem rp_key (p x n c : Nat) : c * (x * x % p) ^ n % p = c * x ^ (2 * n) % p := by
  rw [Nat.mul_mod, ← Nat.pow_mod, ← Nat.mul_mod, ← Nat.pow_two, ← Nat.pow_mul]
theorem rp_odd (p x n c : Nat) : (c * x % p) * x ^ (2 * n) % p = c * x ^ (2 * n + 1) % p := by
  rw [Nat.mod_mul_mod, Nat.pow_succ, Nat.mul_assoc, Nat.mul_comm x]

set_option maxRecDepth 100000 in
set_option maxHeartbeats 1000000 in
theorem rpower_any (a k z : Nat) (w : World) (ha : a < 4611686018427377339) (hk : k < 4611686018427387904) (HZ : Hid (z = a ^ k % 4611686018427377339)) :
    Calls Tryd.prog 109 #[.int .i64 a, .int .i64 k] w fun e w' => e = .returned (.int .i64 z) ∧ w = w' := by
  go_enter Tryd.func109, Tryd.ntmps109
  go_wp2
  go_loop [0, 1, 5] (fun aa kk cc => ∃ c x y : Nat, aa = .int .i64 x ∧ kk = .int .i64 y ∧ cc = .int .i64 c ∧ x < 4611686018427377339 ∧ c < 4611686018427377339 ∧ y < 4611686018427387904 ∧ Hid (z = c * x ^ y % 4611686018427377339)) (fun _ kk _ => (intOf kk).toNat)
  case atStart => exact ⟨1, a, k, rfl, rfl, rfl, ha, by decide, hk, Lib.hid (by rw [Nat.one_mul]; exact HZ.out)⟩
  case round =>
    clear HZ
    obtain ⟨c, x, y, rfl, rfl, rfl, hx, hc, hy, HZ⟩ := hrel
    by_cases h0 : 0 < y
    · obtain ⟨x2, hx2⟩ : ∃ x2, x2 = x * x % 4611686018427377339 := ⟨_, rfl⟩
      obtain ⟨c2, hc2⟩ : ∃ c2, c2 = c * x % 4611686018427377339 := ⟨_, rfl⟩
      have HS1 : Hid (∀ W : World, Calls Tryd.prog 80 #[.int .i64 c, .int .i64 x, .int .i64 4611686018427377339] W fun e w' => e = .returned (.int .i64 c2) ∧ W = w') := Lib.hid fun W => modular_any c x 4611686018427377339 c2 W hc (by omega) (by decide) (Lib.hid hc2)
      have HS2 : Hid (∀ W : World, Calls Tryd.prog 80 #[.int .i64 x, .int .i64 x, .int .i64 4611686018427377339] W fun e w' => e = .returned (.int .i64 x2) ∧ W = w') := Lib.hid fun W => modular_any x x 4611686018427377339 x2 W hx (by omega) (by decide) (Lib.hid hx2)
      have hx2l : x2 < 4611686018427377339 := by rw [hx2]; exact Nat.mod_lt _ (by decide)
      have hc2l : c2 < 4611686018427377339 := by rw [hc2]; exact Nat.mod_lt _ (by decide)
      have q0 : decide ((0 : Int) < (y : Int)) = true := by rw [decide_eq_true_iff]; omega
      rcases Nat.mod_two_eq_zero_or_one y with h1 | h1
      · have HN := Lib.hid (show z = c * x2 ^ (y / 2) % 4611686018427377339 by rw [hx2, rp_key, HZ.out, show 2 * (y / 2) = y by omega])
        have g : ((y : Int) % 2 == 1) = false := by simp; omega
        clear hx2 hc2 h1
        go_wp2_with (go_at_call 80; (with_reducible refine (HS2.out _).mono ?_); rintro e w' ⟨rfl, rfl⟩)
        go_round
        case rel => exact ⟨c, x2, y / 2, rfl, by go_num, rfl, hx2l, hc, by omega, HN⟩
        case measure => simp [intOf]; omega
      · have HN := Lib.hid (show z = c2 * x2 ^ (y / 2) % 4611686018427377339 by rw [hx2, rp_key, hc2, rp_odd, HZ.out, show 2 * (y / 2) + 1 = y by omega])
        have g : ((y : Int) % 2 == 1) = true := by simp; omega
        clear hx2 hc2 h1
        go_wp2_with (first
          | (go_at_call_of 80 (Value.int .i64 (c : Int)); (with_reducible refine (HS1.out _).mono ?_); rintro e w' ⟨rfl, rfl⟩)
          | (go_at_call 80; (with_reducible refine (HS2.out _).mono ?_); rintro e w' ⟨rfl, rfl⟩))
        go_round
        case rel => exact ⟨c2, x2, y / 2, rfl, by go_num, rfl, hx2l, hc2l, by omega, HN⟩
        case measure => simp [intOf]; omega
    · obtain rfl : y = 0 := by omega
      have hzc : z = c := by rw [HZ.out, Nat.pow_zero, Nat.mul_one, Nat.mod_eq_of_lt hc]
      subst hzc
      clear HZ
      go_wp2
      go_ret
      exact ⟨rfl, rfl⟩

theorem rpower_below (a k z : Nat) (w : World) (ha : a < 4611686018427377339) (hk : k < 4611686018427387904) (HZ : Hid (z = a ^ k % 4611686018427377339)) :
    Calls Tryd.prog 109 #[.int .i64 a, .int .i64 k] w fun e w' => e = .returned (.int .i64 z) ∧ Below w.heap.size w w' := by
  refine (rpower_any a k z w ha hk HZ).mono ?_
  rintro e w' ⟨rfl, rfl⟩
  exact ⟨rfl, Below.refl _ _⟩

set_option maxRecDepth 100000 in
set_option maxHeartbeats 1000000 in
theorem rcheck_any (a : Int) (w : World) :
    Calls Tryd.prog 92 #[.int .i64 a] w fun e w' => e = .returned (.int .i64 (G.chk a)) ∧ Below w.heap.size w w' := by
  by_cases h1 : 1 ≤ a
  · have g1 : decide (a < 1) = false := by rw [decide_eq_false_iff_not]; omega
    by_cases h2 : a < 4611686018427377339
    · have g2 : decide (4611686018427377339 ≤ a) = false := by rw [decide_eq_false_iff_not]; omega
      obtain ⟨n, rfl⟩ : ∃ n : Nat, a = n := ⟨a.toNat, by omega⟩
      obtain ⟨z, hz⟩ : ∃ z, z = n ^ 2305843009213688669 % 4611686018427377339 := ⟨_, rfl⟩
      have HP : Hid (Calls Tryd.prog 109 #[.int .i64 n, .int .i64 2305843009213688669] w fun e w' => e = .returned (.int .i64 z) ∧ Below w.heap.size w w') := Lib.hid (rpower_below n 2305843009213688669 z w (by omega) (by decide) (Lib.hid hz))
      have hel : G.el n = (z == 1) := by
        unfold G.el
        rw [hz, Int.toNat_natCast]
        have : decide (1 ≤ (n : Int) ∧ (n : Int) < 4611686018427377339) = true := by rw [decide_eq_true_iff]; exact ⟨h1, h2⟩
        rw [this, Bool.true_and]
      have HE := Lib.hid hel
      have hs : Hid True := Lib.hid trivial
      clear hel hz h1 h2
      by_cases hz1 : z = 1
      · have g3 : ((z : Int) != 1) = false := by simp; omega
        have HZ := Lib.hid hz1
        clear hz1
        go_enter Tryd.func92, Tryd.ntmps92
        go_wp2_with (go_at_call 109; (with_reducible refine HP.out.mono ?_); rintro e w' ⟨rfl, hb⟩)
        go_ret
        rw [G.chk, HE.out, HZ.out]
        exact ⟨rfl, hb⟩
      · have g3 : ((z : Int) != 1) = true := by simp; omega
        have HZ := Lib.hid hz1
        clear hz1
        go_enter Tryd.func92, Tryd.ntmps92
        go_wp2_with (go_at_call 109; (with_reducible refine HP.out.mono ?_); rintro e w' ⟨rfl, hb⟩)
        go_ret
        rw [G.chk, HE.out, show (z == 1) = false by simpa using HZ.out]
        exact ⟨rfl, hb⟩
    · have g2 : decide (4611686018427377339 ≤ a) = true := by rw [decide_eq_true_iff]; omega
      have hel : Hid (G.el a = false) := Lib.hid (by
        unfold G.el
        have : decide (1 ≤ a ∧ a < 4611686018427377339) = false := by rw [decide_eq_false_iff_not]; omega
        rw [this, Bool.false_and])
      clear h1 h2
      go_enter Tryd.func92, Tryd.ntmps92
      go_wp2_with fail
      go_ret
      rw [G.chk, hel.out]
      exact ⟨rfl, Below.refl _ _⟩
  · have g1 : decide (a < 1) = true := by rw [decide_eq_true_iff]; omega
    have hel : Hid (G.el a = false) := Lib.hid (by
      unfold G.el
      have : decide (1 ≤ a ∧ a < 4611686018427377339) = false := by rw [decide_eq_false_iff_not]; omega
      rw [this, Bool.false_and])
    clear h1
    go_enter Tryd.func92, Tryd.ntmps92
    go_wp2_with fail
    go_ret
    rw [G.chk, hel.out]
    exact ⟨rfl, Below.refl _ _⟩

theorem rcheck_ok (a : Nat) (w : World) (ha : G.El a) :
    Calls Tryd.prog 92 #[.int .i64 a] w fun e w' => e = .returned (.int .i64 0) ∧ Below w.heap.size w w' := by
  refine (rcheck_any a w).mono ?_
  rintro e w' ⟨rfl, hb⟩
  exact ⟨by rw [G.chk, G.el_iff.2 ha]; rfl, hb⟩
theorem rcheck_no (a : Int) (w : World) (ha : G.el a = false) :
    Calls Tryd.prog 92 #[.int .i64 a] w fun e w' => e = .returned (.int .i64 30) ∧ Below w.heap.size w w' := by
  refine (rcheck_any a w).mono ?_
  rintro e w' ⟨rfl, hb⟩
  exact ⟨by rw [G.chk, ha]; rfl, hb⟩

set_option maxRecDepth 100000 in
set_option maxHeartbeats 1000000 in
theorem rmul_ok (a b z : Nat) (w : World) (ha : G.El a) (hb : G.El b) (HZ : Hid (z = a * b % 4611686018427377339)) :
    Calls Tryd.prog 94 #[.int .i64 a, .int .i64 b] w fun e w' => e = .returned (.tuple #[.int .i64 z, .int .i64 0]) ∧ Below w.heap.size w w' := by
  have HC : Hid (∀ W : World, Calls Tryd.prog 92 #[.int .i64 a] W fun e w' => e = .returned (.int .i64 0) ∧ Below W.heap.size W w') := Lib.hid fun W => rcheck_ok a W ha
  have HD : Hid (∀ W : World, Calls Tryd.prog 92 #[.int .i64 b] W fun e w' => e = .returned (.int .i64 0) ∧ Below W.heap.size W w') := Lib.hid fun W => rcheck_ok b W hb
  have HP : Hid (∀ W : World, Calls Tryd.prog 80 #[.int .i64 a, .int .i64 b, .int .i64 4611686018427377339] W fun e w' => e = .returned (.int .i64 z) ∧ W = w') := Lib.hid fun W =>
    modular_any a b 4611686018427377339 z W ha.lt (by have := hb.lt; omega) (by decide) HZ
  clear ha hb
  go_enter Tryd.func94, Tryd.ntmps94
  go_wp2_with fail
  refine (HC.out _).mono ?_
  rintro e w1 ⟨rfl, hb1⟩
  have HB1 := Lib.hid hb1
  clear hb1
  go_wp2_with fail
  refine (HD.out _).mono ?_
  rintro e w2 ⟨rfl, hb2⟩
  have HB2 := Lib.hid (HB1.out.trans (hb2.mono HB1.out.size))
  clear hb2
  go_wp2_with (go_at_call 80; (with_reducible refine (HP.out _).mono ?_); rintro e w' ⟨rfl, rfl⟩)
  go_ret2
  exact ⟨rfl, HB2.out⟩

set_option maxRecDepth 100000 in
set_option maxHeartbeats 1000000 in
theorem rexp_ok (a k z : Nat) (w : World) (ha : G.El a) (hk : k < 2305843009213688669) (HZ : Hid (z = a ^ k % 4611686018427377339)) :
    Calls Tryd.prog 93 #[.int .i64 a, .int .i64 k] w fun e w' => e = .returned (.tuple #[.int .i64 z, .int .i64 0]) ∧ Below w.heap.size w w' := by
  have HC : Hid (∀ W : World, Calls Tryd.prog 92 #[.int .i64 a] W fun e w' => e = .returned (.int .i64 0) ∧ Below W.heap.size W w') := Lib.hid fun W => rcheck_ok a W ha
  have HS : Hid (∀ W : World, Calls Tryd.prog 77 #[.int .i64 k] W fun e w' => e = .returned (.bool true) ∧ W = w') := Lib.hid fun W => by rw [← G.sc_nat hk]; exact risc_any k W
  have HP : Hid (∀ W : World, Calls Tryd.prog 109 #[.int .i64 a, .int .i64 k] W fun e w' => e = .returned (.int .i64 z) ∧ W = w') := Lib.hid fun W => rpower_any a k z W ha.lt (by omega) HZ
  clear ha hk
  go_enter Tryd.func93, Tryd.ntmps93
  go_wp2_with fail
  refine (HC.out _).mono ?_
  rintro e w1 ⟨rfl, hb1⟩
  have HB1 := Lib.hid hb1
  clear hb1
  go_wp2_with (first | (go_at_call 77; (with_reducible refine (HS.out _).mono ?_); rintro e w' ⟨rfl, rfl⟩) | (go_at_call 109; (with_reducible refine (HP.out _).mono ?_); rintro e w' ⟨rfl, rfl⟩))
  go_ret2
  exact ⟨rfl, HB1.out⟩

set_option maxRecDepth 100000 in
set_option maxHeartbeats 1000000 in
theorem rbase_ok (k z : Nat) (w : World) (hk : k < 2305843009213688669) (HZ : Hid (z = 4 ^ k % 4611686018427377339)) :
    Calls Tryd.prog 85 #[.int .i64 k] w fun e w' => e = .returned (.tuple #[.int .i64 z, .int .i64 0]) ∧ Below w.heap.size w w' := by
  have HE : Hid (Calls Tryd.prog 93 #[.int .i64 4, .int .i64 k] w fun e w' => e = .returned (.tuple #[.int .i64 z, .int .i64 0]) ∧ Below w.heap.size w w') := Lib.hid (rexp_ok 4 k z w G.el4 hk HZ)
  go_enter Tryd.func85, Tryd.ntmps85
  go_wp2_with (go_at_call 93; (with_reducible refine HE.out.mono ?_); rintro e w' ⟨rfl, hb⟩)
  go_ret2
  exact ⟨rfl, hb⟩

set_option maxRecDepth 100000 in
set_option maxHeartbeats 2000000 in
theorem rchallenge_any (pub r : Int) (a : Option Addr) (n cap : Nat) (bs : List UInt8) (w : World) (hn : bs.length = n) (hl : n ≤ 100000) (hb : BytesAt w a bs) :
    Calls Tryd.prog 89 #[.int .i64 pub, .int .i64 r, .slice a n cap] w fun e w' => e = .returned (.int .i64 (G.chal pub r bs : Nat)) ∧ Below w.heap.size w w' := by
  have HB := Lib.hid hb; have HN := Lib.hid hn
  clear hb hn
  go_enter Tryd.func89, Tryd.ntmps89
  go_wp2_with fail
  refine (rbytes_any r _).mono ?_
  rintro e w1 ⟨v1, rfl, ho1, hb1⟩
  have HO1 := Lib.hid ho1
  have HW1 : Hid (Below w.heap.size w w1) := Lib.hid hb1
  clear ho1 hb1
  go_wp2_with fail
  refine (rbytes_any pub _).mono ?_
  rintro e w2 ⟨v2, rfl, ho2, hb2⟩
  have HO3 : Hid (w2.ownsRow w.heap.size 5 1 v1 (G.num8 r).length (bytes (G.num8 r))) := Lib.hid (owns_kept HO1.out hb2)
  have HW2 : Hid (Below w.heap.size w w2) := step_below HW1 hb2
  obtain ⟨A2, c2, rfl, _, _, hby2⟩ := owns_bytesAt ho2
  have HY := Lib.hid hby2
  have HS : Hid (∀ V v, Below w.heap.size w V → V.ownsRow w.heap.size 5 1 v (8 + 8 + n) (bytes ((G.num8 r ++ G.num8 pub) ++ bs)) → Calls Tryd.prog 37 #[.string ⟨#[115, 105, 103, 110]⟩, v] V fun e w' => e = .returned (.int .i64 (G.chal pub r bs : Nat)) ∧ Hid (Below w.heap.size w w')) := Lib.hid (fun V v hV ho => by
    obtain ⟨A, c, rfl, hc, _, hby⟩ := owns_bytesAt ho
    refine (rscalar_any ⟨#[115, 105, 103, 110]⟩ A (8 + 8 + n) c ((G.num8 r ++ G.num8 pub) ++ bs) V (by decide) (by rw [List.length_append, List.length_append, G.num8_len, G.num8_len, HN.out]) (by omega) hby).mono ?_
    rintro e w' ⟨rfl, hb⟩
    exact ⟨by rw [List.append_assoc]; rfl, Lib.hid (hV.trans (hb.mono hV.size))⟩)
  clear ho2 hb2 hby2 HO1 HW1
  go_wp2_with (first
    | (at_builtin; refine wpl_cat rfl _ _ rfl w.heap.size _ 8 (G.num8 r) rfl HO3.out A2 8 c2 (G.num8 pub) rfl (G.num8_len pub) HY.out (by decide) HW2.out.size ?_; intro v3 w3 h1 h2; have HC := Lib.hid (And.intro h1 (HW2.out.trans (h2.below HW2.out.size))); clear h1 h2)
    | (at_builtin; refine wpl_cat rfl _ _ rfl w.heap.size _ (8 + 8) (G.num8 r ++ G.num8 pub) rfl HC.out.1 a n cap bs rfl HN.out (HB.out.kept HC.out.2) (by omega) HC.out.2.size ?_; intro v4 w4 h1 h2; have HE := Lib.hid (And.intro h1 (HC.out.2.trans (h2.below HC.out.2.size))); clear h1 h2)
    | (go_at_call 37; (with_reducible refine (HS.out _ _ HE.out.2 HE.out.1).mono ?_); rintro e w5 ⟨rfl, HX⟩))
  go_ret
  exact ⟨rfl, HX.out⟩


set_option maxRecDepth 100000 in
set_option maxHeartbeats 4000000 in
theorem rverify_any (pub r s : Int) (a : Option Addr) (n cap : Nat) (bs : List UInt8) (w : World) (hn : bs.length = n) (hl : n ≤ 100000) (hb : BytesAt w a bs) :
    Calls Tryd.prog 47 #[.int .i64 pub, .slice a n cap, .agg #[.int .i64 r, .int .i64 s]] w fun e w' => e = .returned (.bool (G.ver pub r s bs)) ∧ Below w.heap.size w w' := by
  have HB := Lib.hid hb; have HN := Lib.hid hn
  clear hb hn
  cases hp : G.el pub with
  | false =>
    have HR : Hid (G.ver pub r s bs = false) := Lib.hid (by unfold G.ver; rw [hp]; rfl)
    rw [HR.out]
    have P1 : Hid (∀ W : World, Calls Tryd.prog 92 #[.int .i64 pub] W fun e w' => e = .returned (.int .i64 30) ∧ Below W.heap.size W w') := Lib.hid fun W => rcheck_no pub W hp
    clear hp
    go_enter Tryd.func47, Tryd.ntmps47
    have HG : Hid (Sig (w.alloc (.cells #[.int .i64 r, .int .i64 s] 52)) w.heap.size r s) := Lib.hid (Sig.new w r s)
    have HV : Hid (Below w.heap.size w (w.alloc (.cells #[.int .i64 r, .int .i64 s] 52))) := Lib.hid ((Below.refl _ _).alloc (Nat.le_refl _) _)
    have k0 := HG.out.c0; have k1 := HG.out.c1
    go_wp2_with (first
      | (go_at_call 92; (with_reducible refine (P1.out _).mono ?_); rintro e wc ⟨rfl, hb⟩; replace HG := sig_step HG hb; have k0 := HG.out.c0; have k1 := HG.out.c1; replace HV := step_below HV hb; clear hb))
    go_ret
    exact ⟨rfl, HV.out⟩
  | true =>
  obtain ⟨p, rfl, hpe⟩ := G.el_nat hp
  have P1 : Hid (∀ W : World, Calls Tryd.prog 92 #[.int .i64 p] W fun e w' => e = .returned (.int .i64 0) ∧ Below W.heap.size W w') := Lib.hid fun W => rcheck_ok p W hpe
  cases hr : G.el r with
  | false =>
    have HR : Hid (G.ver p r s bs = false) := Lib.hid (by unfold G.ver; rw [hr]; simp)
    rw [HR.out]
    have P2 : Hid (∀ W : World, Calls Tryd.prog 92 #[.int .i64 r] W fun e w' => e = .returned (.int .i64 30) ∧ Below W.heap.size W w') := Lib.hid fun W => rcheck_no r W hr
    clear hp hr hpe
    go_enter Tryd.func47, Tryd.ntmps47
    have HG : Hid (Sig (w.alloc (.cells #[.int .i64 r, .int .i64 s] 52)) w.heap.size r s) := Lib.hid (Sig.new w r s)
    have HV : Hid (Below w.heap.size w (w.alloc (.cells #[.int .i64 r, .int .i64 s] 52))) := Lib.hid ((Below.refl _ _).alloc (Nat.le_refl _) _)
    have k0 := HG.out.c0; have k1 := HG.out.c1
    go_wp2_with (first
      | (go_at_call 92; (with_reducible refine (P1.out _).mono ?_); rintro e wc ⟨rfl, hb⟩; replace HG := sig_step HG hb; have k0 := HG.out.c0; have k1 := HG.out.c1; replace HV := step_below HV hb; clear hb)
      | (go_at_call 92; (with_reducible refine (P2.out _).mono ?_); rintro e wc ⟨rfl, hb⟩; replace HG := sig_step HG hb; have k0 := HG.out.c0; have k1 := HG.out.c1; replace HV := step_below HV hb; clear hb))
    go_ret
    exact ⟨rfl, HV.out⟩
  | true =>
  obtain ⟨q, rfl, hqe⟩ := G.el_nat hr
  have P2 : Hid (∀ W : World, Calls Tryd.prog 92 #[.int .i64 q] W fun e w' => e = .returned (.int .i64 0) ∧ Below W.heap.size W w') := Lib.hid fun W => rcheck_ok q W hqe
  by_cases h1 : s < 0
  · have q1 : decide (s < 0) = true := decide_eq_true h1
    have HR : Hid (G.ver p q s bs = false) := Lib.hid (by
      have h : G.sc s = false := by unfold G.sc; rw [decide_eq_false_iff_not]; omega
      unfold G.ver; rw [h]; simp)
    rw [HR.out]
    clear hp hr hpe hqe h1
    go_enter Tryd.func47, Tryd.ntmps47
    have HG : Hid (Sig (w.alloc (.cells #[.int .i64 q, .int .i64 s] 52)) w.heap.size q s) := Lib.hid (Sig.new w q s)
    have HV : Hid (Below w.heap.size w (w.alloc (.cells #[.int .i64 q, .int .i64 s] 52))) := Lib.hid ((Below.refl _ _).alloc (Nat.le_refl _) _)
    have k0 := HG.out.c0; have k1 := HG.out.c1
    go_wp2_with (first
      | (go_at_call 92; (with_reducible refine (P1.out _).mono ?_); rintro e wc ⟨rfl, hb⟩; replace HG := sig_step HG hb; have k0 := HG.out.c0; have k1 := HG.out.c1; replace HV := step_below HV hb; clear hb)
      | (go_at_call 92; (with_reducible refine (P2.out _).mono ?_); rintro e wc ⟨rfl, hb⟩; replace HG := sig_step HG hb; have k0 := HG.out.c0; have k1 := HG.out.c1; replace HV := step_below HV hb; clear hb))
    go_ret
    exact ⟨rfl, HV.out⟩
  have q1 : decide (s < 0) = false := decide_eq_false h1
  by_cases h2 : 2305843009213688669 ≤ s
  · have q2 : decide (2305843009213688669 ≤ s) = true := decide_eq_true h2
    have HR : Hid (G.ver p q s bs = false) := Lib.hid (by
      have h : G.sc s = false := by unfold G.sc; rw [decide_eq_false_iff_not]; omega
      unfold G.ver; rw [h]; simp)
    rw [HR.out]
    clear hp hr hpe hqe h1 h2
    go_enter Tryd.func47, Tryd.ntmps47
    have HG : Hid (Sig (w.alloc (.cells #[.int .i64 q, .int .i64 s] 52)) w.heap.size q s) := Lib.hid (Sig.new w q s)
    have HV : Hid (Below w.heap.size w (w.alloc (.cells #[.int .i64 q, .int .i64 s] 52))) := Lib.hid ((Below.refl _ _).alloc (Nat.le_refl _) _)
    have k0 := HG.out.c0; have k1 := HG.out.c1
    go_wp2_with (first
      | (go_at_call 92; (with_reducible refine (P1.out _).mono ?_); rintro e wc ⟨rfl, hb⟩; replace HG := sig_step HG hb; have k0 := HG.out.c0; have k1 := HG.out.c1; replace HV := step_below HV hb; clear hb)
      | (go_at_call 92; (with_reducible refine (P2.out _).mono ?_); rintro e wc ⟨rfl, hb⟩; replace HG := sig_step HG hb; have k0 := HG.out.c0; have k1 := HG.out.c1; replace HV := step_below HV hb; clear hb))
    go_ret
    exact ⟨rfl, HV.out⟩
  obtain ⟨t, rfl⟩ : ∃ t : Nat, s = t := ⟨s.toNat, by omega⟩
  have q2 : decide (2305843009213688669 ≤ (t : Int)) = false := decide_eq_false h2
  have htl : t < 2305843009213688669 := by omega
  obtain ⟨c, hc⟩ : ∃ c, c = G.chal p q bs := ⟨_, rfl⟩
  have hcl : c < 2305843009213688669 := by rw [hc]; exact G.chal_lt _ _ _
  obtain ⟨x, hx⟩ : ∃ x, x = G.pw 4 t := ⟨_, rfl⟩
  obtain ⟨y, hy⟩ : ∃ y, y = G.pw p c := ⟨_, rfl⟩
  obtain ⟨z, hz⟩ : ∃ z, z = G.mp q y := ⟨_, rfl⟩
  have hye : G.El y := by rw [hy]; exact hpe.pw _
  have HR : Hid (G.ver p q t bs = ((x : Int) == (z : Int))) := Lib.hid (by
    unfold G.ver
    rw [hp, hr, G.sc_nat htl, ← hc, Int.toNat_natCast, Int.toNat_natCast, Int.toNat_natCast, ← hx, ← hy, ← hz]
    simp only [Bool.true_and]
    rw [Bool.eq_iff_iff, decide_eq_true_iff, beq_iff_eq]
    omega)
  have P3 : Hid (∀ W : World, Calls Tryd.prog 85 #[.int .i64 t] W fun e w' => e = .returned (.tuple #[.int .i64 x, .int .i64 0]) ∧ Below W.heap.size W w') := Lib.hid fun W => rbase_ok t x W htl (Lib.hid hx)
  have P4 : Hid (∀ W : World, Below w.heap.size w W → Calls Tryd.prog 89 #[.int .i64 p, .int .i64 q, .slice a n cap] W fun e w' => e = .returned (.int .i64 c) ∧ Below W.heap.size W w') := Lib.hid fun W hW => by
    rw [hc]; exact rchallenge_any p q a n cap bs W HN.out hl (HB.out.kept hW)
  have P5 : Hid (∀ W : World, Calls Tryd.prog 93 #[.int .i64 p, .int .i64 c] W fun e w' => e = .returned (.tuple #[.int .i64 y, .int .i64 0]) ∧ Below W.heap.size W w') := Lib.hid fun W => rexp_ok p c y W hpe hcl (Lib.hid hy)
  have P6 : Hid (∀ W : World, Calls Tryd.prog 94 #[.int .i64 q, .int .i64 y] W fun e w' => e = .returned (.tuple #[.int .i64 z, .int .i64 0]) ∧ Below W.heap.size W w') := Lib.hid fun W => rmul_ok q y z W hqe hye (Lib.hid hz)
  rw [HR.out]
  clear hp hr hpe hqe h1 h2 htl hc hcl hx hy hz hye
  go_enter Tryd.func47, Tryd.ntmps47
  have HG : Hid (Sig (w.alloc (.cells #[.int .i64 q, .int .i64 t] 52)) w.heap.size q t) := Lib.hid (Sig.new w q t)
  have HV : Hid (Below w.heap.size w (w.alloc (.cells #[.int .i64 q, .int .i64 t] 52))) := Lib.hid ((Below.refl _ _).alloc (Nat.le_refl _) _)
  have k0 := HG.out.c0; have k1 := HG.out.c1
  go_wp2_with (first
    | (go_at_call 92; (with_reducible refine (P1.out _).mono ?_); rintro e wc ⟨rfl, hb⟩; replace HG := sig_step HG hb; have k0 := HG.out.c0; have k1 := HG.out.c1; replace HV := step_below HV hb; clear hb)
    | (go_at_call 92; (with_reducible refine (P2.out _).mono ?_); rintro e wc ⟨rfl, hb⟩; replace HG := sig_step HG hb; have k0 := HG.out.c0; have k1 := HG.out.c1; replace HV := step_below HV hb; clear hb)
    | (go_at_call 85; (with_reducible refine (P3.out _).mono ?_); rintro e wc ⟨rfl, hb⟩; replace HG := sig_step HG hb; have k0 := HG.out.c0; have k1 := HG.out.c1; replace HV := step_below HV hb; clear hb)
    | (go_at_call 89; (with_reducible refine (P4.out _ HV.out).mono ?_); rintro e wc ⟨rfl, hb⟩; replace HG := sig_step HG hb; have k0 := HG.out.c0; have k1 := HG.out.c1; replace HV := step_below HV hb; clear hb)
    | (go_at_call 93; (with_reducible refine (P5.out _).mono ?_); rintro e wc ⟨rfl, hb⟩; replace HG := sig_step HG hb; have k0 := HG.out.c0; have k1 := HG.out.c1; replace HV := step_below HV hb; clear hb)
    | (go_at_call 94; (with_reducible refine (P6.out _).mono ?_); rintro e wc ⟨rfl, hb⟩; replace HG := sig_step HG hb; have k0 := HG.out.c0; have k1 := HG.out.c1; replace HV := step_below HV hb; clear hb))
  go_ret
  exact ⟨rfl, HV.out⟩

set_option maxRecDepth 100000 in
set_option maxHeartbeats 4000000 in
theorem vspec_walk (pub : Int) (a : Option Addr) (n cap : Nat) (bs : List UInt8) (r s : Int) (w : World) (hK : KT w) (_ : -9223372036854775808 ≤ pub) (_ : pub ≤ 9223372036854775807) (hn : bs.length = n) (_ : n ≤ cap) (hb : BytesAt w a bs) :
    Calls Tryd.prog 10 #[.int .i64 pub, .slice a n cap, .agg #[.int .i64 r, .int .i64 s]] w fun e w' => e = .returned (.bool true) ∧ Below w.heap.size w w' := by
  have HK := Lib.hid hK; have HB := Lib.hid hb; have HN := Lib.hid hn
  clear hK hb hn
  have HS : Hid (∀ W : World, Below w.heap.size w W → Calls Tryd.prog 38 #[] W fun e w' => e = .returned (.bool true) ∧ Below W.heap.size W w') := Lib.hid fun W hW => ssane_any W (HK.out.kept hW HK.out.pos)
  have HG0 : Hid (Sig (w.alloc (.cells #[.int .i64 r, .int .i64 s] 52)) w.heap.size r s) := Lib.hid (Sig.new w r s)
  have HW0 : Hid (Below w.heap.size w (w.alloc (.cells #[.int .i64 r, .int .i64 s] 52))) := Lib.hid ((Below.refl _ _).alloc (Nat.le_refl _) _)
  by_cases g1 : 1000 < n
  · have q1 : decide ((1000 : Int) < (n : Int)) = true := by rw [decide_eq_true_iff]; omega
    go_enter Tryd.func10, Tryd.ntmps10
    go_wp2_with fail
    refine (HS.out _ HW0.out).mono ?_
    rintro e w1 ⟨rfl, hb1⟩
    have HV := step_below HW0 hb1
    have HG := sig_step HG0 hb1
    clear hb1 HS HW0 HG0
    have k0 := HG.out.c0; have k1 := HG.out.c1
    go_wp2_with fail
    go_quiet (fail)
    go_wp2_with fail
    go_ret
    exact ⟨rfl, G.Below.drewN HV.out _⟩
  have q1 : decide ((1000 : Int) < (n : Int)) = false := by rw [decide_eq_false_iff_not]; omega
  obtain ⟨b, hbv⟩ : ∃ b, b = G.ver pub r s bs := ⟨_, rfl⟩
  have P1 : Hid (∀ W : World, Below w.heap.size w W → Calls Tryd.prog 46 #[.int .i64 pub, .slice a n cap, .agg #[.int .i64 r, .int .i64 s]] W fun e w' => e = .returned (.bool b) ∧ Below W.heap.size W w') := Lib.hid fun W hW => by
    rw [hbv]; exact verify_any pub r s a n cap bs W (HK.out.kept hW HK.out.pos) HN.out (by omega) (HB.out.kept hW)
  have P2 : Hid (∀ W : World, Below w.heap.size w W → Calls Tryd.prog 47 #[.int .i64 pub, .slice a n cap, .agg #[.int .i64 r, .int .i64 s]] W fun e w' => e = .returned (.bool b) ∧ Below W.heap.size W w') := Lib.hid fun W hW => by
    rw [hbv]; exact rverify_any pub r s a n cap bs W HN.out (by omega) (HB.out.kept hW)
  clear hbv g1
  go_enter Tryd.func10, Tryd.ntmps10
  go_wp2_with fail
  refine (HS.out _ HW0.out).mono ?_
  rintro e w1 ⟨rfl, hb1⟩
  have HV := step_below HW0 hb1
  have HG := sig_step HG0 hb1
  clear hb1 HS HW0 HG0
  have k0 := HG.out.c0; have k1 := HG.out.c1
  go_wp2_with fail
  replace HV : Hid (Below w.heap.size w w1.drew) := Lib.hid HV.out.drew
  replace HG : Hid (Sig w1.drew w.heap.size r s) := HG
  go_region_held3 (fun w' => w'.cell? ⟨w.heap.size, 0, none⟩ = some (.int .i64 r) ∧ w'.cell? ⟨w.heap.size, 1, none⟩ = some (.int .i64 s)) (exact ⟨HG.out.c0, HG.out.c1⟩)
    (first
      | (go_at_call 46; (with_reducible refine (P1.out _ HV.out).mono ?_); rintro e wc ⟨rfl, hb⟩; have HG := sig_step HG hb; have HV := step_below HV hb; clear hb)
      | (go_at_call 47; (with_reducible refine (P2.out _ HV.out).mono ?_); rintro e wc ⟨rfl, hb⟩; have HG := sig_step HG hb; have HV := step_below HV hb; clear hb))
  all_goals
    go_wp2_with fail
    go_ret
    exact ⟨by simp, HV.out⟩

end Go.Proofs.YtogedlfpgoicfaaDoor
