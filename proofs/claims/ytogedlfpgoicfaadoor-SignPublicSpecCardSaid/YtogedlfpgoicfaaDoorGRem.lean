/- Contracts of math/bits.Div64 and Rem64 at the divisors at hand. -/
import Derived.Test.YtogedlfpgoicfaaDoorRows
import Derived.Test.YtogedlfpgoicfaaDoorShelf
import Derived.Test.YtogedlfpgoicfaaDoorGDiv
import Derived.WalkKit
import Derived.WalkSpells
import Derived.WalkLawsBesides
import Derived.Laws.EntriesVeiled
import Derived.Laws.Bits64b
import Derived.Deep.QuietTactic
import Derived.Deep.RegionHeld3
import Derived.Deep.RegionLaw
import Derived.Deep.Cut
import Derived.Deep.CutBlock
import Derived.BigQuiet
import Derived.Lib.Hide
import Derived.Lib.QuietBelow
import Derived.IntWalk
import Derived.Lib.ItoaNum
import Derived.Deep.CutRange
import Derived.Deep.DeepCutAuto
namespace Go.Proofs.YtogedlfpgoicfaaDoor
open Go.RowKit

theorem bitlen_of {y k : Nat} (h1 : 2 ^ k ≤ y) (h2 : y < 2 ^ (k + 1)) (hk : k < 64) : Lib.bitLen y = k + 1 := by
  have hy : y < 2 ^ 64 := Nat.lt_of_lt_of_le h2 (Nat.pow_le_pow_right (by decide) hk)
  obtain ⟨a1, a2, a3⟩ := Lib.bitLenAux_bounds 64 y (by have := Nat.two_pow_pos k; omega) (by omega)
  have e : Lib.bitLen y = Lib.bitLenAux 64 y := rfl
  rw [e]
  rcases Nat.lt_trichotomy (Lib.bitLenAux 64 y) (k + 1) with h | h | h
  · have := Nat.pow_le_pow_right (n := 2) (by decide) (show Lib.bitLenAux 64 y ≤ k by omega)
    omega
  · exact h
  · have := Nat.pow_le_pow_right (n := 2) (by decide) (show k + 1 ≤ Lib.bitLenAux 64 y - 1 by omega)
    omega

theorem maskN (a : Nat) (ha : a < 18446744073709551616) : bits .and .u64 (a : Int) 4294967295 = ((a % 4294967296 : Nat) : Int) := by
  have h := bits_and_u64_nat a 4294967295 ha (by omega)
  have e : a &&& 4294967295 = a % 4294967296 := Nat.and_two_pow_sub_one_eq_mod a 32
  rw [e] at h
  exact h
theorem orN (a b s : Nat) (hb : b < 2 ^ s) (h : a * 2 ^ s + b < 18446744073709551616) : bits .or .u64 ((a : Int) * ((2 ^ s : Nat) : Int)) (b : Int) = ((a * 2 ^ s + b : Nat) : Int) := by
  have h1 := bits_or_u64_nat (a * 2 ^ s) b (by omega) (by omega)
  rw [Nat.mul_comm a, ← Nat.two_pow_add_eq_or_of_lt hb] at h1
  rw [Nat.mul_comm a, ← h1]
  congr 1
  simp [Int.mul_comm]

theorem geq_cases {q s m : Nat} (h : 4294967296 ≤ q ∨ s < m) : (decide ((4294967296 : Int) ≤ (q : Int)) = true ∧ True) ∨ (decide ((4294967296 : Int) ≤ (q : Int)) = false ∧ s < m) := by
  by_cases hq : 4294967296 ≤ q
  · exact .inl ⟨by rw [decide_eq_true_iff]; omega, trivial⟩
  · exact .inr ⟨by rw [decide_eq_false_iff_not]; omega, by omega⟩
theorem wrap_names {u v q Y u2 : Nat} (hY : u2 < Y) (hY2 : Y < 18446744073709551616) (hq : q = (u * 4294967296 + v) / Y) (h2 : u2 = (u * 4294967296 + v) % Y) :
    ∃ a1 a2 a3 : Nat, IntKind.u64.wrap ((u : Int) * 4294967296) = (a1 : Int) ∧ IntKind.u64.wrap ((a1 : Int) + (v : Int)) = (a2 : Int) ∧ IntKind.u64.wrap ((q : Int) * (Y : Int)) = (a3 : Int) ∧ IntKind.u64.wrap ((a2 : Int) - (a3 : Int)) = (u2 : Int) := by
  have h := Nat.div_add_mod' (u * 4294967296 + v) Y
  rw [← hq, ← h2] at h
  obtain ⟨t, ht⟩ : ∃ t, t = q * Y := ⟨_, rfl⟩
  have e : (q : Int) * (Y : Int) = (t : Int) := by rw [ht]; exact (Int.natCast_mul q Y).symm
  rw [← ht] at h
  refine ⟨u * 4294967296 % 18446744073709551616, (u * 4294967296 + v) % 18446744073709551616, t % 18446744073709551616, ?_, ?_, ?_, ?_⟩
  · rw [IntKind.wrap_u64]; omega
  · rw [IntKind.wrap_u64]; omega
  · rw [e, IntKind.wrap_u64]; omega
  · rw [IntKind.wrap_u64]; omega
/-- The numbers of a division, by their names. -/
def Nm (s k : Nat) (hi lo y Y y1 y0 L v1 v0 u : Nat) : Prop :=
  hi < y ∧ lo < 18446744073709551616 ∧ Y = y * s ∧ y1 = Y / 4294967296 ∧ y0 = Y % 4294967296 ∧ L = lo * s % 18446744073709551616 ∧ v1 = L / 4294967296 ∧ v0 = L % 4294967296 ∧ u = hi * s + lo / k

theorem Nm.parts {s k hi lo y Y y1 y0 L v1 v0 u : Nat} (h : Nm s k hi lo y Y y1 y0 L v1 v0 u) : Y = y1 * 4294967296 + y0 ∧ v0 < 4294967296 ∧ y0 < 4294967296 := by
  obtain ⟨_, _, _, h1, h2, _, _, h3, _⟩ := h
  omega
theorem Nm.last2 {hi lo y Y y1 y0 L v1 v0 u : Nat} (h : Nm 4 4611686018427387904 hi lo y Y y1 y0 L v1 v0 u) (hy : 0 < y) :
    ((u * 4294967296 + v1) % Y * 4294967296 + v0) % Y / 4 = (hi * 18446744073709551616 + lo) % y := by
  obtain ⟨_, _, hY, _, _, hL, h1, h3, hu⟩ := h
  rw [G.two_digits u v1 v0 Y (by omega), show u * 18446744073709551616 + v1 * 4294967296 + v0 = (hi * 18446744073709551616 + lo) * 4 by omega, hY, Nat.mul_mod_mul_right]
  omega
theorem Nm.last3 {hi lo y Y y1 y0 L v1 v0 u : Nat} (h : Nm 8 2305843009213693952 hi lo y Y y1 y0 L v1 v0 u) (hy : 0 < y) :
    ((u * 4294967296 + v1) % Y * 4294967296 + v0) % Y / 8 = (hi * 18446744073709551616 + lo) % y := by
  obtain ⟨_, _, hY, _, _, hL, h1, h3, hu⟩ := h
  rw [G.two_digits u v1 v0 Y (by omega), show u * 18446744073709551616 + v1 * 4294967296 + v0 = (hi * 18446744073709551616 + lo) * 8 by omega, hY, Nat.mul_mod_mul_right]
  omega

set_option maxRecDepth 100000 in
set_option maxHeartbeats 4000000 in
theorem div2_any (hi lo y z : Nat) (w : World) (hy1 : 2305843009213693952 ≤ y) (hy2 : y < 4611686018427387904) (h : hi < y) (hl : lo < 18446744073709551616) (h0 : 0 < hi) (HZZ : Hid (z = (hi * 18446744073709551616 + lo) % y)) :
    Calls Tryd.prog 114 #[.int .u64 hi, .int .u64 lo, .int .u64 y] w fun e w' => (∃ q : Int, e = .returned (.tuple #[.int .u64 q, .int .u64 z])) ∧ w = w' := by
  have hb := bitlen_of (y := y) (k := 61) hy1 hy2 (by decide)
  have HZ : Hid (Calls Tryd.prog 116 #[.int .u64 y] w fun e w' => e = .returned (.int .i64 2) ∧ w = w') := Lib.hid (by
    refine (Tryd.bits_LeadingZeros64 (y : Int) w (by omega) (by omega)).mono ?_
    rintro e w' ⟨rfl, hw⟩
    refine ⟨?_, hw.symm⟩
    rw [show ((y : Int)).toNat = y from rfl, hb]
    rfl)
  clear hb
  obtain ⟨Y, hY⟩ : ∃ Y, Y = y * 4 := ⟨_, rfl⟩
  obtain ⟨y1, hy1'⟩ : ∃ x, x = Y / 4294967296 := ⟨_, rfl⟩
  obtain ⟨y0, hy0'⟩ : ∃ x, x = Y % 4294967296 := ⟨_, rfl⟩
  obtain ⟨L, hL⟩ : ∃ x, x = lo * 4 % 18446744073709551616 := ⟨_, rfl⟩
  obtain ⟨v1, hv1⟩ : ∃ x, x = L / 4294967296 := ⟨_, rfl⟩
  obtain ⟨v0, hv0⟩ : ∃ x, x = L % 4294967296 := ⟨_, rfl⟩
  obtain ⟨u, hu⟩ : ∃ x, x = hi * 4 + lo / 4611686018427387904 := ⟨_, rfl⟩
  have d1 : G.Dg y1 y0 u v1 (u / y1) (u % y1) := G.Dg.start (by omega) (by omega) (by omega) (by omega) (by omega)
  obtain ⟨q, hq⟩ : ∃ q, q = u / y1 := ⟨_, rfl⟩
  obtain ⟨r, hr⟩ : ∃ r, r = u % y1 := ⟨_, rfl⟩
  rw [← hq, ← hr] at d1
  have e0 : (y : Int) * 4 = (Y : Int) := by omega
  have e1 : (Y : Int) / 4294967296 = (y1 : Int) := by omega
  have e2 : bits .and .u64 (Y : Int) 4294967295 = (y0 : Int) := by rw [maskN _ (by omega), hy0']
  have e3 : bits .or .u64 ((hi : Int) * 4) ((lo : Int) / 4611686018427387904) = (u : Int) := by
    have := orN hi (lo / 4611686018427387904) 2 (by omega) (by omega)
    rw [hu, ← this]
    congr 1
  have e4 : IntKind.u64.wrap ((lo : Int) * 4) = (L : Int) := by rw [IntKind.wrap_u64]; omega
  have e5 : (L : Int) / 4294967296 = (v1 : Int) := by omega
  have e6 : bits .and .u64 (L : Int) 4294967295 = (v0 : Int) := by rw [maskN _ (by omega), hv0]
  have e7 : (u : Int) / (y1 : Int) = (q : Int) := by rw [hq]; exact (Int.natCast_ediv u y1).symm
  have e8 : (u : Int).tdiv (y1 : Int) = (q : Int) := by rw [Int.tdiv_eq_ediv_of_nonneg (by omega), e7]
  obtain ⟨m, hm⟩ : ∃ m, m = q * y1 := ⟨_, rfl⟩
  have e9 : (q : Int) * (y1 : Int) = (m : Int) := by rw [hm]; exact (Int.natCast_mul q y1).symm
  have e10 : (u : Int) - (m : Int) = (r : Int) := by have := d1.eqn; omega
  have hrl : r < y1 := by rw [hr]; exact Nat.mod_lt _ (by omega)
  have b1 : 2147483648 ≤ y1 := by omega
  have b2 : y1 < 4294967296 := by omega
  have b3 : q ≤ 4294967297 := by have := d1.qle; omega
  have b4 : r < 4294967296 := by omega
  have b5 : u < 18446744073709551616 := by omega
  have b6 : m ≤ u := by have := d1.r_le; omega
  have D1 := Lib.hid d1
  have HN : Nm 4 4611686018427387904 hi lo y Y y1 y0 L v1 v0 u := ⟨h, hl, hY, hy1', hy0', hL, hv1, hv0, hu⟩
  have b11 : Y < 18446744073709551616 := by omega
  clear d1 hy1' hy0' hL hv1 hv0 hu hY hq hr hm hrl
  go_enter Tryd.func114, Tryd.ntmps114
  go_upto_block 0 with (go_at_call 116; (with_reducible refine HZ.out.mono ?_); rintro e w' ⟨rfl, rfl⟩)
  have HE := Lib.hid (And.intro e9 e10)
  have HE2 := Lib.hid (And.intro e7 (And.intro e8 (And.intro e3 (And.intro e4 (And.intro e0 e6)))))
  clear e9 e10 e7 e8 e3 e4 e0 e1 e2 e5 e6 b6
  go_cut [15, 16] from 67 to 85 (fun a15 a16 wx => w = wx ∧ ∃ q r : Nat, a15 = .int .u64 q ∧ a16 = .int .u64 r ∧ q ≤ 4294967296 ∧ Hid (q = (u * 4294967296 + v1) / (y1 * 4294967296 + y0)))
  case first =>
    go_wp2_with fail
    go_loopg [15, 16] q (fun g a15 a16 wx => w = wx ∧ ∃ q r : Nat, a15 = .int .u64 q ∧ a16 = .int .u64 r ∧ q = g ∧ q ≤ 4294967297 ∧ r < 4294967296 ∧ Hid (G.Dg y1 y0 u v1 q r))
    case atStart => exact ⟨rfl, q, r, rfl, rfl, rfl, b3, b4, D1⟩
    case round =>
      clear b3 b4 D1
      obtain ⟨rfl, q, r, rfl, rfl, rfl, b3, b4, D1⟩ := hrel
      obtain ⟨m, hm⟩ : ∃ m, m = q * y0 := ⟨_, rfl⟩
      have e9 : (q : Int) * (y0 : Int) = (m : Int) := by rw [hm]; exact (Int.natCast_mul q y0).symm
      have hml : m < 18446744073709551616 := by have := D1.out.r_le.1; omega
      have hv1 : v1 < 4294967296 := D1.out.vlt
      obtain ⟨t, ht⟩ : ∃ t, t = 4294967296 * r := ⟨_, rfl⟩
      obtain ⟨s, hs⟩ : ∃ s, s = t + v1 := ⟨_, rfl⟩
      have e11 : 4294967296 * (r : Int) = (t : Int) := by omega
      have e12 : (t : Int) + (v1 : Int) = (s : Int) := by omega
      have htl : t < 18446744073709551616 := by omega
      have hsl : s < 18446744073709551616 := by omega
      by_cases hx : 4294967296 ≤ q ∨ s < m
      · obtain ⟨hq1, hd⟩ := D1.out.next (by rw [← hm, ← ht, ← hs]; exact hx)
        have HD := Lib.hid hd
        have hq2 : q - 1 ≤ 4294967296 := by omega
        clear hd hm D1 ht hs
        by_cases h2 : 4294967296 ≤ r + y1
        · have g2 : decide ((4294967296 : Int) ≤ (r : Int) + (y1 : Int)) = true := by rw [decide_eq_true_iff]; omega
          rcases geq_cases hx with ⟨g1, hx⟩ | ⟨g1, hx⟩
          all_goals
            go_wp2_with fail
            go_meet
            exact ⟨rfl, q - 1, r + y1, by go_num, by go_num, hq2, Lib.hid (HD.out.done (.inl ⟨h2, hq2⟩))⟩
        · have g2 : decide ((4294967296 : Int) ≤ (r : Int) + (y1 : Int)) = false := by rw [decide_eq_false_iff_not]; omega
          rcases geq_cases hx with ⟨g1, hx⟩ | ⟨g1, hx⟩
          all_goals
            go_wp2_with fail
            go_roundg (q - 1)
            case measure => omega
            case rel => exact ⟨rfl, q - 1, r + y1, by go_num, by go_num, rfl, by omega, by omega, HD⟩
      · have hx1 : q < 4294967296 := by omega
        have hx2 : m ≤ s := by omega
        have HD := Lib.hid (D1.out.done (.inr ⟨hx1, by rw [← hm, ← ht, ← hs]; exact hx2⟩))
        have g1 : decide ((4294967296 : Int) ≤ (q : Int)) = false := by rw [decide_eq_false_iff_not]; omega
        clear hm D1 hx ht hs
        go_wp2_with fail
        go_meet
        exact ⟨rfl, q, r, rfl, rfl, by omega, HD⟩
  case rest =>
    clear b3 b4 D1 HE HE2
    obtain ⟨rfl, qa, ra, rfl, rfl, hql, HQ⟩ := hcut
    obtain ⟨hYe, hv0, hy0l⟩ := HN.parts
    obtain ⟨u2, hu2⟩ : ∃ u2, u2 = (u * 4294967296 + v1) % Y := ⟨_, rfl⟩
    have hu2l : u2 < Y := by rw [hu2]; exact Nat.mod_lt _ (by omega)
    obtain ⟨a1, a2, a3, n1, n2, n3, n4⟩ := wrap_names (q := qa) hu2l b11 (by rw [hYe]; exact HQ.out) hu2
    have d2 : G.Dg y1 y0 u2 v0 (u2 / y1) (u2 % y1) := G.Dg.start b1 b2 hy0l (by rw [← hYe]; exact hu2l) hv0
    obtain ⟨q2, hq2⟩ : ∃ q2, q2 = u2 / y1 := ⟨_, rfl⟩
    obtain ⟨r2, hr2⟩ : ∃ r2, r2 = u2 % y1 := ⟨_, rfl⟩
    rw [← hq2, ← hr2] at d2
    have e7 : (u2 : Int) / (y1 : Int) = (q2 : Int) := by rw [hq2]; exact (Int.natCast_ediv u2 y1).symm
    have e8 : (u2 : Int).tdiv (y1 : Int) = (q2 : Int) := by rw [Int.tdiv_eq_ediv_of_nonneg (by omega), e7]
    obtain ⟨m, hm⟩ : ∃ m, m = q2 * y1 := ⟨_, rfl⟩
    have e9 : (q2 : Int) * (y1 : Int) = (m : Int) := by rw [hm]; exact (Int.natCast_mul q2 y1).symm
    have e10 : (u2 : Int) - (m : Int) = (r2 : Int) := by have := d2.eqn; omega
    have b3 : q2 ≤ 4294967297 := by have := d2.qle; omega
    have b4 : r2 < 4294967296 := by have : r2 < y1 := by { rw [hr2]; exact Nat.mod_lt _ (by omega) }; omega
    have b5' : u2 < 18446744073709551616 := by omega
    have b6 : m ≤ u2 := by have := d2.r_le; omega
    have D1 := Lib.hid d2
    have HU := Lib.hid hu2
    have HY := Lib.hid hYe
    clear d2 hu2 hYe hq2 hr2 hm
    go_upto_block 2 with fail
    clear e7 e8 e9 e10 b6
    go_cut [18, 16] from 102 to 120 (fun a18 a16 wx => w = wx ∧ ∃ q r : Nat, a18 = .int .u64 q ∧ a16 = .int .u64 r ∧ q ≤ 4294967296 ∧ Hid (q = (u2 * 4294967296 + v0) / (y1 * 4294967296 + y0)))
    case first =>
      go_wp2_with fail
      go_loopg [18, 16] q2 (fun g a15 a16 wx => w = wx ∧ ∃ q r : Nat, a15 = .int .u64 q ∧ a16 = .int .u64 r ∧ q = g ∧ q ≤ 4294967297 ∧ r < 4294967296 ∧ Hid (G.Dg y1 y0 u2 v0 q r))
      case atStart => exact ⟨rfl, q2, r2, rfl, rfl, rfl, b3, b4, D1⟩
      case round =>
        clear b3 b4 D1
        obtain ⟨rfl, q, r, rfl, rfl, rfl, b3, b4, D1⟩ := hrel
        obtain ⟨m, hm⟩ : ∃ m, m = q * y0 := ⟨_, rfl⟩
        have e9 : (q : Int) * (y0 : Int) = (m : Int) := by rw [hm]; exact (Int.natCast_mul q y0).symm
        have hml : m < 18446744073709551616 := by have := D1.out.r_le.1; omega
        obtain ⟨t, ht⟩ : ∃ t, t = 4294967296 * r := ⟨_, rfl⟩
        obtain ⟨s, hs⟩ : ∃ s, s = t + v0 := ⟨_, rfl⟩
        have e11 : 4294967296 * (r : Int) = (t : Int) := by omega
        have e12 : (t : Int) + (v0 : Int) = (s : Int) := by omega
        have htl : t < 18446744073709551616 := by omega
        have hsl : s < 18446744073709551616 := by omega
        by_cases hx : 4294967296 ≤ q ∨ s < m
        · obtain ⟨hq1, hd⟩ := D1.out.next (by rw [← hm, ← ht, ← hs]; exact hx)
          have HD := Lib.hid hd
          have hq2 : q - 1 ≤ 4294967296 := by omega
          clear hd hm D1 ht hs
          by_cases h2 : 4294967296 ≤ r + y1
          · have g2 : decide ((4294967296 : Int) ≤ (r : Int) + (y1 : Int)) = true := by rw [decide_eq_true_iff]; omega
            rcases geq_cases hx with ⟨g1, hx⟩ | ⟨g1, hx⟩
            all_goals
              go_wp2_with fail
              go_meet
              exact ⟨rfl, q - 1, r + y1, by go_num, by go_num, hq2, Lib.hid (HD.out.done (.inl ⟨h2, hq2⟩))⟩
          · have g2 : decide ((4294967296 : Int) ≤ (r : Int) + (y1 : Int)) = false := by rw [decide_eq_false_iff_not]; omega
            rcases geq_cases hx with ⟨g1, hx⟩ | ⟨g1, hx⟩
            all_goals
              go_wp2_with fail
              go_roundg (q - 1)
              case measure => omega
              case rel => exact ⟨rfl, q - 1, r + y1, by go_num, by go_num, rfl, by omega, by omega, HD⟩
        · have hx1 : q < 4294967296 := by omega
          have hx2 : m ≤ s := by omega
          have HD := Lib.hid (D1.out.done (.inr ⟨hx1, by rw [← hm, ← ht, ← hs]; exact hx2⟩))
          have g1 : decide ((4294967296 : Int) ≤ (q : Int)) = false := by rw [decide_eq_false_iff_not]; omega
          clear hm D1 hx ht hs
          go_wp2_with fail
          go_meet
          exact ⟨rfl, q, r, rfl, rfl, by omega, HD⟩
    case rest =>
      clear b3 b4 D1
      obtain ⟨rfl, qb, rb, rfl, rfl, hqbl, HQ2⟩ := hcut
      obtain ⟨u3, hu3⟩ : ∃ u3, u3 = (u2 * 4294967296 + v0) % Y := ⟨_, rfl⟩
      have hu3l : u3 < Y := by rw [hu3]; exact Nat.mod_lt _ (by omega)
      obtain ⟨c1, c2, c3, k1, k2, k3, k4⟩ := wrap_names (q := qb) hu3l b11 (by rw [HY.out]; exact HQ2.out) hu3
      have hz3 : (u3 : Int) / 4 = (z : Int) := by
        rw [HZZ.out, ← HN.last2 (by omega), ← HU.out, ← hu3]; omega
      clear hu3
      go_wp2_with fail
      go_ret2
      exact ⟨⟨_, rfl⟩, rfl⟩

set_option maxRecDepth 100000 in
set_option maxHeartbeats 4000000 in
theorem div3_any (hi lo y z : Nat) (w : World) (hy1 : 1152921504606846976 ≤ y) (hy2 : y < 2305843009213693952) (h : hi < y) (hl : lo < 18446744073709551616) (h0 : 0 < hi) (HZZ : Hid (z = (hi * 18446744073709551616 + lo) % y)) :
    Calls Tryd.prog 114 #[.int .u64 hi, .int .u64 lo, .int .u64 y] w fun e w' => (∃ q : Int, e = .returned (.tuple #[.int .u64 q, .int .u64 z])) ∧ w = w' := by
  have hb := bitlen_of (y := y) (k := 60) hy1 hy2 (by decide)
  have HZ : Hid (Calls Tryd.prog 116 #[.int .u64 y] w fun e w' => e = .returned (.int .i64 3) ∧ w = w') := Lib.hid (by
    refine (Tryd.bits_LeadingZeros64 (y : Int) w (by omega) (by omega)).mono ?_
    rintro e w' ⟨rfl, hw⟩
    refine ⟨?_, hw.symm⟩
    rw [show ((y : Int)).toNat = y from rfl, hb]
    rfl)
  clear hb
  obtain ⟨Y, hY⟩ : ∃ Y, Y = y * 8 := ⟨_, rfl⟩
  obtain ⟨y1, hy1'⟩ : ∃ x, x = Y / 4294967296 := ⟨_, rfl⟩
  obtain ⟨y0, hy0'⟩ : ∃ x, x = Y % 4294967296 := ⟨_, rfl⟩
  obtain ⟨L, hL⟩ : ∃ x, x = lo * 8 % 18446744073709551616 := ⟨_, rfl⟩
  obtain ⟨v1, hv1⟩ : ∃ x, x = L / 4294967296 := ⟨_, rfl⟩
  obtain ⟨v0, hv0⟩ : ∃ x, x = L % 4294967296 := ⟨_, rfl⟩
  obtain ⟨u, hu⟩ : ∃ x, x = hi * 8 + lo / 2305843009213693952 := ⟨_, rfl⟩
  have d1 : G.Dg y1 y0 u v1 (u / y1) (u % y1) := G.Dg.start (by omega) (by omega) (by omega) (by omega) (by omega)
  obtain ⟨q, hq⟩ : ∃ q, q = u / y1 := ⟨_, rfl⟩
  obtain ⟨r, hr⟩ : ∃ r, r = u % y1 := ⟨_, rfl⟩
  rw [← hq, ← hr] at d1
  have e0 : (y : Int) * 8 = (Y : Int) := by omega
  have e1 : (Y : Int) / 4294967296 = (y1 : Int) := by omega
  have e2 : bits .and .u64 (Y : Int) 4294967295 = (y0 : Int) := by rw [maskN _ (by omega), hy0']
  have e3 : bits .or .u64 ((hi : Int) * 8) ((lo : Int) / 2305843009213693952) = (u : Int) := by
    have := orN hi (lo / 2305843009213693952) 3 (by omega) (by omega)
    rw [hu, ← this]
    congr 1
  have e4 : IntKind.u64.wrap ((lo : Int) * 8) = (L : Int) := by rw [IntKind.wrap_u64]; omega
  have e5 : (L : Int) / 4294967296 = (v1 : Int) := by omega
  have e6 : bits .and .u64 (L : Int) 4294967295 = (v0 : Int) := by rw [maskN _ (by omega), hv0]
  have e7 : (u : Int) / (y1 : Int) = (q : Int) := by rw [hq]; exact (Int.natCast_ediv u y1).symm
  have e8 : (u : Int).tdiv (y1 : Int) = (q : Int) := by rw [Int.tdiv_eq_ediv_of_nonneg (by omega), e7]
  obtain ⟨m, hm⟩ : ∃ m, m = q * y1 := ⟨_, rfl⟩
  have e9 : (q : Int) * (y1 : Int) = (m : Int) := by rw [hm]; exact (Int.natCast_mul q y1).symm
  have e10 : (u : Int) - (m : Int) = (r : Int) := by have := d1.eqn; omega
  have hrl : r < y1 := by rw [hr]; exact Nat.mod_lt _ (by omega)
  have b1 : 2147483648 ≤ y1 := by omega
  have b2 : y1 < 4294967296 := by omega
  have b3 : q ≤ 4294967297 := by have := d1.qle; omega
  have b4 : r < 4294967296 := by omega
  have b5 : u < 18446744073709551616 := by omega
  have b6 : m ≤ u := by have := d1.r_le; omega
  have D1 := Lib.hid d1
  have HN : Nm 8 2305843009213693952 hi lo y Y y1 y0 L v1 v0 u := ⟨h, hl, hY, hy1', hy0', hL, hv1, hv0, hu⟩
  have b11 : Y < 18446744073709551616 := by omega
  clear d1 hy1' hy0' hL hv1 hv0 hu hY hq hr hm hrl
  go_enter Tryd.func114, Tryd.ntmps114
  go_upto_block 0 with (go_at_call 116; (with_reducible refine HZ.out.mono ?_); rintro e w' ⟨rfl, rfl⟩)
  have HE := Lib.hid (And.intro e9 e10)
  have HE2 := Lib.hid (And.intro e7 (And.intro e8 (And.intro e3 (And.intro e4 (And.intro e0 e6)))))
  clear e9 e10 e7 e8 e3 e4 e0 e1 e2 e5 e6 b6
  go_cut [15, 16] from 67 to 85 (fun a15 a16 wx => w = wx ∧ ∃ q r : Nat, a15 = .int .u64 q ∧ a16 = .int .u64 r ∧ q ≤ 4294967296 ∧ Hid (q = (u * 4294967296 + v1) / (y1 * 4294967296 + y0)))
  case first =>
    go_wp2_with fail
    go_loopg [15, 16] q (fun g a15 a16 wx => w = wx ∧ ∃ q r : Nat, a15 = .int .u64 q ∧ a16 = .int .u64 r ∧ q = g ∧ q ≤ 4294967297 ∧ r < 4294967296 ∧ Hid (G.Dg y1 y0 u v1 q r))
    case atStart => exact ⟨rfl, q, r, rfl, rfl, rfl, b3, b4, D1⟩
    case round =>
      clear b3 b4 D1
      obtain ⟨rfl, q, r, rfl, rfl, rfl, b3, b4, D1⟩ := hrel
      obtain ⟨m, hm⟩ : ∃ m, m = q * y0 := ⟨_, rfl⟩
      have e9 : (q : Int) * (y0 : Int) = (m : Int) := by rw [hm]; exact (Int.natCast_mul q y0).symm
      have hml : m < 18446744073709551616 := by have := D1.out.r_le.1; omega
      have hv1 : v1 < 4294967296 := D1.out.vlt
      obtain ⟨t, ht⟩ : ∃ t, t = 4294967296 * r := ⟨_, rfl⟩
      obtain ⟨s, hs⟩ : ∃ s, s = t + v1 := ⟨_, rfl⟩
      have e11 : 4294967296 * (r : Int) = (t : Int) := by omega
      have e12 : (t : Int) + (v1 : Int) = (s : Int) := by omega
      have htl : t < 18446744073709551616 := by omega
      have hsl : s < 18446744073709551616 := by omega
      by_cases hx : 4294967296 ≤ q ∨ s < m
      · obtain ⟨hq1, hd⟩ := D1.out.next (by rw [← hm, ← ht, ← hs]; exact hx)
        have HD := Lib.hid hd
        have hq2 : q - 1 ≤ 4294967296 := by omega
        clear hd hm D1 ht hs
        by_cases h2 : 4294967296 ≤ r + y1
        · have g2 : decide ((4294967296 : Int) ≤ (r : Int) + (y1 : Int)) = true := by rw [decide_eq_true_iff]; omega
          rcases geq_cases hx with ⟨g1, hx⟩ | ⟨g1, hx⟩
          all_goals
            go_wp2_with fail
            go_meet
            exact ⟨rfl, q - 1, r + y1, by go_num, by go_num, hq2, Lib.hid (HD.out.done (.inl ⟨h2, hq2⟩))⟩
        · have g2 : decide ((4294967296 : Int) ≤ (r : Int) + (y1 : Int)) = false := by rw [decide_eq_false_iff_not]; omega
          rcases geq_cases hx with ⟨g1, hx⟩ | ⟨g1, hx⟩
          all_goals
            go_wp2_with fail
            go_roundg (q - 1)
            case measure => omega
            case rel => exact ⟨rfl, q - 1, r + y1, by go_num, by go_num, rfl, by omega, by omega, HD⟩
      · have hx1 : q < 4294967296 := by omega
        have hx2 : m ≤ s := by omega
        have HD := Lib.hid (D1.out.done (.inr ⟨hx1, by rw [← hm, ← ht, ← hs]; exact hx2⟩))
        have g1 : decide ((4294967296 : Int) ≤ (q : Int)) = false := by rw [decide_eq_false_iff_not]; omega
        clear hm D1 hx ht hs
        go_wp2_with fail
        go_meet
        exact ⟨rfl, q, r, rfl, rfl, by omega, HD⟩
  case rest =>
    clear b3 b4 D1 HE HE2
    obtain ⟨rfl, qa, ra, rfl, rfl, hql, HQ⟩ := hcut
    obtain ⟨hYe, hv0, hy0l⟩ := HN.parts
    obtain ⟨u2, hu2⟩ : ∃ u2, u2 = (u * 4294967296 + v1) % Y := ⟨_, rfl⟩
    have hu2l : u2 < Y := by rw [hu2]; exact Nat.mod_lt _ (by omega)
    obtain ⟨a1, a2, a3, n1, n2, n3, n4⟩ := wrap_names (q := qa) hu2l b11 (by rw [hYe]; exact HQ.out) hu2
    have d2 : G.Dg y1 y0 u2 v0 (u2 / y1) (u2 % y1) := G.Dg.start b1 b2 hy0l (by rw [← hYe]; exact hu2l) hv0
    obtain ⟨q2, hq2⟩ : ∃ q2, q2 = u2 / y1 := ⟨_, rfl⟩
    obtain ⟨r2, hr2⟩ : ∃ r2, r2 = u2 % y1 := ⟨_, rfl⟩
    rw [← hq2, ← hr2] at d2
    have e7 : (u2 : Int) / (y1 : Int) = (q2 : Int) := by rw [hq2]; exact (Int.natCast_ediv u2 y1).symm
    have e8 : (u2 : Int).tdiv (y1 : Int) = (q2 : Int) := by rw [Int.tdiv_eq_ediv_of_nonneg (by omega), e7]
    obtain ⟨m, hm⟩ : ∃ m, m = q2 * y1 := ⟨_, rfl⟩
    have e9 : (q2 : Int) * (y1 : Int) = (m : Int) := by rw [hm]; exact (Int.natCast_mul q2 y1).symm
    have e10 : (u2 : Int) - (m : Int) = (r2 : Int) := by have := d2.eqn; omega
    have b3 : q2 ≤ 4294967297 := by have := d2.qle; omega
    have b4 : r2 < 4294967296 := by have : r2 < y1 := by { rw [hr2]; exact Nat.mod_lt _ (by omega) }; omega
    have b5' : u2 < 18446744073709551616 := by omega
    have b6 : m ≤ u2 := by have := d2.r_le; omega
    have D1 := Lib.hid d2
    have HU := Lib.hid hu2
    have HY := Lib.hid hYe
    clear d2 hu2 hYe hq2 hr2 hm
    go_upto_block 2 with fail
    clear e7 e8 e9 e10 b6
    go_cut [18, 16] from 102 to 120 (fun a18 a16 wx => w = wx ∧ ∃ q r : Nat, a18 = .int .u64 q ∧ a16 = .int .u64 r ∧ q ≤ 4294967296 ∧ Hid (q = (u2 * 4294967296 + v0) / (y1 * 4294967296 + y0)))
    case first =>
      go_wp2_with fail
      go_loopg [18, 16] q2 (fun g a15 a16 wx => w = wx ∧ ∃ q r : Nat, a15 = .int .u64 q ∧ a16 = .int .u64 r ∧ q = g ∧ q ≤ 4294967297 ∧ r < 4294967296 ∧ Hid (G.Dg y1 y0 u2 v0 q r))
      case atStart => exact ⟨rfl, q2, r2, rfl, rfl, rfl, b3, b4, D1⟩
      case round =>
        clear b3 b4 D1
        obtain ⟨rfl, q, r, rfl, rfl, rfl, b3, b4, D1⟩ := hrel
        obtain ⟨m, hm⟩ : ∃ m, m = q * y0 := ⟨_, rfl⟩
        have e9 : (q : Int) * (y0 : Int) = (m : Int) := by rw [hm]; exact (Int.natCast_mul q y0).symm
        have hml : m < 18446744073709551616 := by have := D1.out.r_le.1; omega
        obtain ⟨t, ht⟩ : ∃ t, t = 4294967296 * r := ⟨_, rfl⟩
        obtain ⟨s, hs⟩ : ∃ s, s = t + v0 := ⟨_, rfl⟩
        have e11 : 4294967296 * (r : Int) = (t : Int) := by omega
        have e12 : (t : Int) + (v0 : Int) = (s : Int) := by omega
        have htl : t < 18446744073709551616 := by omega
        have hsl : s < 18446744073709551616 := by omega
        by_cases hx : 4294967296 ≤ q ∨ s < m
        · obtain ⟨hq1, hd⟩ := D1.out.next (by rw [← hm, ← ht, ← hs]; exact hx)
          have HD := Lib.hid hd
          have hq2 : q - 1 ≤ 4294967296 := by omega
          clear hd hm D1 ht hs
          by_cases h2 : 4294967296 ≤ r + y1
          · have g2 : decide ((4294967296 : Int) ≤ (r : Int) + (y1 : Int)) = true := by rw [decide_eq_true_iff]; omega
            rcases geq_cases hx with ⟨g1, hx⟩ | ⟨g1, hx⟩
            all_goals
              go_wp2_with fail
              go_meet
              exact ⟨rfl, q - 1, r + y1, by go_num, by go_num, hq2, Lib.hid (HD.out.done (.inl ⟨h2, hq2⟩))⟩
          · have g2 : decide ((4294967296 : Int) ≤ (r : Int) + (y1 : Int)) = false := by rw [decide_eq_false_iff_not]; omega
            rcases geq_cases hx with ⟨g1, hx⟩ | ⟨g1, hx⟩
            all_goals
              go_wp2_with fail
              go_roundg (q - 1)
              case measure => omega
              case rel => exact ⟨rfl, q - 1, r + y1, by go_num, by go_num, rfl, by omega, by omega, HD⟩
        · have hx1 : q < 4294967296 := by omega
          have hx2 : m ≤ s := by omega
          have HD := Lib.hid (D1.out.done (.inr ⟨hx1, by rw [← hm, ← ht, ← hs]; exact hx2⟩))
          have g1 : decide ((4294967296 : Int) ≤ (q : Int)) = false := by rw [decide_eq_false_iff_not]; omega
          clear hm D1 hx ht hs
          go_wp2_with fail
          go_meet
          exact ⟨rfl, q, r, rfl, rfl, by omega, HD⟩
    case rest =>
      clear b3 b4 D1
      obtain ⟨rfl, qb, rb, rfl, rfl, hqbl, HQ2⟩ := hcut
      obtain ⟨u3, hu3⟩ : ∃ u3, u3 = (u2 * 4294967296 + v0) % Y := ⟨_, rfl⟩
      have hu3l : u3 < Y := by rw [hu3]; exact Nat.mod_lt _ (by omega)
      obtain ⟨c1, c2, c3, k1, k2, k3, k4⟩ := wrap_names (q := qb) hu3l b11 (by rw [HY.out]; exact HQ2.out) hu3
      have hz3 : (u3 : Int) / 8 = (z : Int) := by
        rw [HZZ.out, ← HN.last3 (by omega), ← HU.out, ← hu3]; omega
      clear hu3
      go_wp2_with fail
      go_ret2
      exact ⟨⟨_, rfl⟩, rfl⟩

set_option maxRecDepth 100000 in
set_option maxHeartbeats 4000000 in
theorem div0_any (lo y z : Nat) (w : World) (hy1 : 0 < y) (hl : lo < 18446744073709551616) (HZZ : Hid (z = lo % y)) :
    Calls Tryd.prog 114 #[.int .u64 0, .int .u64 lo, .int .u64 y] w fun e w' => (∃ q : Int, e = .returned (.tuple #[.int .u64 q, .int .u64 z])) ∧ ∃ n, w' = w.drewN n := by
  have hz3 : (lo : Int) % (y : Int) = (z : Int) := by rw [HZZ.out]; exact (Int.natCast_emod lo y).symm
  have hz4 : (lo : Int).tmod (y : Int) = (z : Int) := by rw [Int.tmod_eq_emod_of_nonneg (by omega), hz3]
  obtain ⟨q, hq⟩ : ∃ q, q = lo / y := ⟨_, rfl⟩
  have hq3 : (lo : Int) / (y : Int) = (q : Int) := by rw [hq]; exact (Int.natCast_ediv lo y).symm
  have hq4 : (lo : Int).tdiv (y : Int) = (q : Int) := by rw [Int.tdiv_eq_ediv_of_nonneg (by omega), hq3]
  have hql : q < 18446744073709551616 := by rw [hq]; exact Nat.lt_of_le_of_lt (Nat.div_le_self _ _) hl
  have hzl : z < 18446744073709551616 := by rw [HZZ.out]; exact Nat.lt_of_le_of_lt (Nat.mod_le _ _) hl
  have hyn : ((y : Int) == 0) = false := by simp; omega
  have hyn2 : ¬ (y : Int) = 0 := by omega
  clear hq HZZ
  go_enter Tryd.func114, Tryd.ntmps114
  go_wp2
  go_quiet (fail)
  go_wp2
  go_ret2
  exact ⟨⟨_, rfl⟩, _, rfl⟩

theorem div_any (hi lo y z : Nat) (w : World) (hy1 : 1152921504606846976 ≤ y) (hy2 : y < 4611686018427387904) (h : hi < y) (hl : lo < 18446744073709551616) (HZZ : Hid (z = (hi * 18446744073709551616 + lo) % y)) :
    Calls Tryd.prog 114 #[.int .u64 hi, .int .u64 lo, .int .u64 y] w fun e w' => (∃ q : Int, e = .returned (.tuple #[.int .u64 q, .int .u64 z])) ∧ ∃ n, w' = w.drewN n := by
  rcases Nat.eq_zero_or_pos hi with h0 | h0
  · subst h0
    exact div0_any lo y z w (by omega) hl (Lib.hid (by rw [HZZ.out, Nat.zero_mul, Nat.zero_add]))
  · rcases Nat.lt_or_ge y 2305843009213693952 with h2 | h2
    · exact (div3_any hi lo y z w hy1 h2 h hl h0 HZZ).mono fun _ _ ⟨a, b⟩ => ⟨a, 0, by rw [← b]; rfl⟩
    · exact (div2_any hi lo y z w h2 hy2 h hl h0 HZZ).mono fun _ _ ⟨a, b⟩ => ⟨a, 0, by rw [← b]; rfl⟩

set_option maxRecDepth 100000 in
set_option maxHeartbeats 4000000 in
theorem rem_any (hi lo y z : Nat) (w : World) (hy1 : 1152921504606846976 ≤ y) (hy2 : y < 4611686018427387904) (h : hi < y) (hl : lo < 18446744073709551616) (HZZ : Hid (z = (hi * 18446744073709551616 + lo) % y)) :
    Calls Tryd.prog 105 #[.int .u64 hi, .int .u64 lo, .int .u64 y] w fun e w' => e = .returned (.int .u64 z) ∧ ∃ n, w' = w.drewN n := by
  have hr3 : (hi : Int) % (y : Int) = (hi : Int) := Int.emod_eq_of_lt (by omega) (by omega)
  have hr4 : (hi : Int).tmod (y : Int) = (hi : Int) := by rw [Int.tmod_eq_emod_of_nonneg (by omega), hr3]
  have hyn : ((y : Int) == 0) = false := by simp; omega
  have hyn2 : ¬ (y : Int) = 0 := by omega
  have HD := Lib.hid (div_any hi lo y z w hy1 hy2 h hl HZZ)
  go_enter Tryd.func105, Tryd.ntmps105
  go_wp2_with (go_at_call 114; (with_reducible refine HD.out.mono ?_); rintro e w' ⟨⟨q, rfl⟩, n, rfl⟩)
  go_ret
  exact ⟨rfl, n, rfl⟩

end Go.Proofs.YtogedlfpgoicfaaDoor
