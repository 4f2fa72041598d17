/- Scalars are a commutative ring: the walk. -/
import Derived.Test.YtmnlialfpffmkaaGSane
namespace Go.Proofs.Ytmnlialfpffmkaa
open Go.RowKit

namespace G
/-- Sums and products of scalars. -/
def ad (a b : Nat) : Nat := (a + b) % 2305843009213688669
def ml (a b : Nat) : Nat := a * b % 2305843009213688669
theorem ad_lt (a b : Nat) : ad a b < 2305843009213688669 := Nat.mod_lt _ (by decide)
theorem ml_lt (a b : Nat) : ml a b < 2305843009213688669 := Nat.mod_lt _ (by decide)
theorem ad_comm (a b : Nat) : ad a b = ad b a := by unfold ad; rw [Nat.add_comm]
theorem ml_comm (a b : Nat) : ml a b = ml b a := by unfold ml; rw [Nat.mul_comm]
theorem ad_assoc (a b c : Nat) : ad a (ad b c) = ad (ad a b) c := by unfold ad; rw [Nat.add_mod_mod, Nat.mod_add_mod, Nat.add_assoc]
theorem ml_assoc (a b c : Nat) : ml a (ml b c) = ml (ml a b) c := by unfold ml; rw [Nat.mul_mod_mod, Nat.mod_mul_mod, Nat.mul_assoc]
theorem ml_ad (a b c : Nat) : ad (ml a b) (ml a c) = ml a (ad b c) := by unfold ml ad; rw [← Nat.add_mod, Nat.mul_mod_mod, Nat.mul_add]
theorem ad_zero {a : Nat} (h : a < 2305843009213688669) : ad a 0 = a := by unfold ad; rw [Nat.add_zero, Nat.mod_eq_of_lt h]
theorem ml_one {a : Nat} (h : a < 2305843009213688669) : ml a 1 = a := by unfold ml; rw [Nat.mul_one, Nat.mod_eq_of_lt h]
theorem ml_zero (a : Nat) : ml a 0 = 0 := by unfold ml; rw [Nat.mul_zero, Nat.zero_mod]
end G

set_option maxRecDepth 100000 in
set_option maxHeartbeats 1000000 in
theorem add_any (a b : Nat) (w : World) (ha : a < 2305843009213688669) (hb : b < 2305843009213688669) :
    Calls Try.prog 16 #[.int .i64 a, .int .i64 b] w fun e w' => e = .returned (.int .i64 (G.ad a b : Nat)) ∧ Below w.heap.size w w' := by
  have HS := Lib.hid (sum_ok a b (G.ad a b) w ha hb (Lib.hid rfl))
  clear ha hb
  go_enter Try.func16, Try.ntmps16
  go_wp2_with (go_at_call 14; (with_reducible refine HS.out.mono ?_); rintro e w' ⟨rfl, hb⟩)
  go_ret
  exact ⟨rfl, hb⟩

set_option maxRecDepth 100000 in
set_option maxHeartbeats 1000000 in
theorem times_any (a b : Nat) (w : World) (ha : a < 2305843009213688669) (hb : b < 2305843009213688669) :
    Calls Try.prog 17 #[.int .i64 a, .int .i64 b] w fun e w' => e = .returned (.int .i64 (G.ml a b : Nat)) ∧ Below w.heap.size w w' := by
  have HS := Lib.hid (prod_ok a b (G.ml a b) w ha hb (Lib.hid rfl))
  clear ha hb
  go_enter Try.func17, Try.ntmps17
  go_wp2_with (go_at_call 15; (with_reducible refine HS.out.mono ?_); rintro e w' ⟨rfl, hb⟩)
  go_ret
  exact ⟨rfl, hb⟩

theorem and_low (x : Int) : ∃ n : Nat, n < 4611686018427387904 ∧ bits .and .i64 x 4611686018427387903 = (n : Int) := by
  have hle : (BitVec.ofInt 64 x &&& BitVec.ofInt 64 4611686018427387903).toNat ≤ 4611686018427387903 := by
    rw [BitVec.toNat_and]
    exact Nat.and_le_right
  refine ⟨_, Nat.lt_succ_of_le hle, ?_⟩
  show IntKind.i64.wrap ((BitVec.ofInt 64 x &&& BitVec.ofInt 64 4611686018427387903).toNat : Int) = _
  rw [IntKind.wrap_i64]
  omega

set_option maxRecDepth 100000 in
set_option maxHeartbeats 1000000 in
theorem of_any (x : Int) (w : World) :
    Calls Try.prog 12 #[.int .i64 x] w fun e w' => (∃ k : Nat, k < 2305843009213688669 ∧ e = .returned (.int .i64 k)) ∧ w = w' := by
  obtain ⟨n, hn, he⟩ := and_low x
  obtain ⟨k, hk⟩ : ∃ k, k = n % 2305843009213688669 := ⟨_, rfl⟩
  have e2 : (n : Int) % 2305843009213688669 = (k : Int) := by omega
  have hkl : k < 2305843009213688669 := by omega
  clear hk
  go_enter Try.func12, Try.ntmps12
  go_wp2
  go_ret
  exact ⟨⟨k, hkl, by first | rfl | (rw [← e2]; rfl)⟩, rfl⟩

set_option maxRecDepth 100000 in
set_option maxHeartbeats 4000000 in
theorem ring_walk (x y z : Int) (w : World) :
    Calls Try.prog 5 #[.int .i64 x, .int .i64 y, .int .i64 z] w fun e w' => e = .returned (.bool true) ∧ Below w.heap.size w w' := by
  go_enter Try.func5, Try.ntmps5
  go_wp2_with fail
  refine (gsane_any _).mono ?_; rintro e w1 ⟨rfl, hb⟩; have HB := Lib.hid hb; clear hb
  go_wp2_with fail
  refine (of_any _ _).mono ?_; rintro e w2 ⟨⟨a, ha, rfl⟩, rfl⟩
  go_wp2_with fail
  refine (of_any _ _).mono ?_; rintro e w2 ⟨⟨b, hb, rfl⟩, rfl⟩
  go_wp2_with fail
  refine (of_any _ _).mono ?_; rintro e w2 ⟨⟨c, hc, rfl⟩, rfl⟩
  have e1 := G.ad_comm b a
  have e2 := G.ad_assoc a b c
  have e3 := G.ml_comm b a
  have e4 := G.ml_assoc a b c
  have e5 := G.ml_ad a b c
  have A0 : Hid (∀ W : World, Calls Try.prog 16 #[.int .i64 a, .int .i64 0] W fun e w' => e = .returned (.int .i64 a) ∧ Below W.heap.size W w') := Lib.hid fun W => by
    have := add_any a 0 W ha (by decide)
    rw [G.ad_zero ha] at this
    exact this
  have M1 : Hid (∀ W : World, Calls Try.prog 17 #[.int .i64 a, .int .i64 1] W fun e w' => e = .returned (.int .i64 a) ∧ Below W.heap.size W w') := Lib.hid fun W => by
    have := times_any a 1 W ha (by decide)
    rw [G.ml_one ha] at this
    exact this
  have M0 : Hid (∀ W : World, Calls Try.prog 17 #[.int .i64 a, .int .i64 0] W fun e w' => e = .returned (.int .i64 0) ∧ Below W.heap.size W w') := Lib.hid fun W => by
    have := times_any a 0 W ha (by decide)
    rw [G.ml_zero a] at this
    exact this
  have HA := Lib.hid ha; have HBB := Lib.hid hb; have HC := Lib.hid hc
  clear ha hb hc
  go_wp2_with (first
    | (go_at_call 16; (with_reducible refine (A0.out _).mono ?_); rintro e wc ⟨rfl, hb⟩; replace HB := below_step HB hb; clear hb)
    | (go_at_call 16; (with_reducible refine (add_any _ _ _ (by first | exact HA.out | exact HBB.out | exact HC.out | exact G.ad_lt _ _ | exact G.ml_lt _ _) (by first | exact HA.out | exact HBB.out | exact HC.out | exact G.ad_lt _ _ | exact G.ml_lt _ _)).mono ?_); rintro e wc ⟨rfl, hb⟩; replace HB := below_step HB hb; clear hb)
    | (go_at_call 17; (with_reducible refine (M1.out _).mono ?_); rintro e wc ⟨rfl, hb⟩; replace HB := below_step HB hb; clear hb)
    | (go_at_call 17; (with_reducible refine (M0.out _).mono ?_); rintro e wc ⟨rfl, hb⟩; replace HB := below_step HB hb; clear hb)
    | (go_at_call 17; (with_reducible refine (times_any _ _ _ (by first | exact HA.out | exact HBB.out | exact HC.out | exact G.ad_lt _ _ | exact G.ml_lt _ _) (by first | exact HA.out | exact HBB.out | exact HC.out | exact G.ad_lt _ _ | exact G.ml_lt _ _)).mono ?_); rintro e wc ⟨rfl, hb⟩; replace HB := below_step HB hb; clear hb))
  go_ret
  exact ⟨rfl, HB.out⟩

end Go.Proofs.Ytmnlialfpffmkaa
