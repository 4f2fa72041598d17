/- SHA-256 in numbers, and contracts of the reference's ror, word. -/
import Derived.Test.YthamligdmfhmeaaDoorRows
import Derived.WalkKit
import Derived.WalkSpells
import Derived.WalkLawsBesides
import Derived.Laws.EntriesVeiled
import Derived.Laws.BitsAllLaws
import Derived.Deep.QuietTactic
import Derived.Deep.RegionHeld3
import Derived.Deep.RegionLaw
import Derived.BigQuiet
import Derived.Lib.Hide
import Derived.Lib.QuietBelow
import Derived.IntWalk
namespace Go.Proofs.YthamligdmfhmeaaDoor
open Go.RowKit

namespace H
/-- One word, rotated. -/
def ror (v n : Nat) : Nat := v / 2 ^ n ||| v * 2 ^ (32 - n) % 4294967296
theorem ror_lt (v n : Nat) (h : v < 4294967296) : ror v n < 4294967296 :=
  Nat.or_lt_two_pow (n := 32) (Nat.lt_of_le_of_lt (Nat.div_le_self _ _) h) (Nat.mod_lt _ (by decide))
/-- Four bytes. -/
def word (b0 b1 b2 b3 : Nat) : Nat := b0 * 16777216 ||| b1 * 65536 ||| b2 * 256 ||| b3
theorem word_lt {b0 b1 b2 b3 : Nat} (h0 : b0 < 256) (h1 : b1 < 256) (h2 : b2 < 256) (h3 : b3 < 256) : word b0 b1 b2 b3 < 4294967296 :=
  Nat.or_lt_two_pow (n := 32) (Nat.or_lt_two_pow (n := 32) (Nat.or_lt_two_pow (n := 32) (by omega) (by omega)) (by omega)) (by omega)
end H


theorem rot_and {s : Nat} (h1 : 1 ≤ s) (h2 : s ≤ 31) : bits .and .u64 (IntKind.u64.wrap ((s : Int) - 32)) 31 = (s : Int) := by
  have e : IntKind.u64.wrap ((s : Int) - 32) = ((18446744073709551584 + s : Nat) : Int) := by rw [IntKind.wrap_u64]; omega
  rw [e, show (31 : Int) = ((31 : Nat) : Int) from rfl, u64_and_nat _ _ (by omega) (by omega)]
  rw [show (31 : Nat) = 2 ^ 5 - 1 from rfl, Nat.and_two_pow_sub_one_eq_mod]
  omega

/-- bits.RotateLeft32 by a negative number. -/
theorem rotl_any (v s : Nat) (w : World) (h1 : v < 4294967296) (s0 : 1 ≤ s) (s1 : s ≤ 31) (m : Int) (hm : m = (s : Int) - 32) :
    Calls Tryd.prog 47 #[.int .u32 v, .int .i64 m] w fun e w' => e = .returned (.int .u32 (H.ror v (32 - s) : Nat)) ∧ w = w' := by
  subst hm
  have hr : bits .or .u32 ((v : Int) * 2 ^ s % 4294967296) ((v : Int) / 2 ^ (32 - s)) = (H.ror v (32 - s) : Nat) := by
    have e2 : 32 - (32 - s) = s := by omega
    have := u32_or_nat (v * 2 ^ s % 4294967296) (v / 2 ^ (32 - s)) (Nat.mod_lt _ (by decide)) (Nat.lt_of_le_of_lt (Nat.div_le_self _ _) h1)
    rw [H.ror, e2, Nat.or_comm, ← this]
    congr 1 <;> simp
  have HR := Lib.hid hr
  have ha := rot_and s0 s1
  have z0 : (0 : Int) ≤ (v : Int) := by omega
  have z1 : (v : Int) < 4294967296 := by omega
  clear hr h1
  go_enter Tryd.func47, Tryd.ntmps47
  go_wp2
  go_ret
  rw [HR.out]
  exact ⟨rfl, rfl⟩

/-- ror of digest. -/
theorem ror_any (v n : Nat) (w : World) (h1 : v < 4294967296) (n0 : 1 ≤ n) (n1 : n ≤ 31) (m : Int) (hm : m = n) :
    Calls Tryd.prog 41 #[.int .u32 v, .int .i64 m] w fun e w' => e = .returned (.int .u32 (H.ror v n : Nat)) ∧ w = w' := by
  subst hm
  have hk := rotl_any v (32 - n) w h1 (by omega) (by omega) (-(n : Int)) (by omega)
  rw [show 32 - (32 - n) = n from by omega] at hk
  have HK := Lib.hid hk
  clear hk h1
  go_enter Tryd.func41, Tryd.ntmps41
  go_wp2_with (go_at_call 47; refine HK.out.mono ?_; rintro e w' ⟨rfl, rfl⟩)
  go_ret
  exact ⟨rfl, rfl⟩

/-- ror. -/
theorem rror_any (v n : Nat) (w : World) (h1 : v < 4294967296) (n1 : n ≤ 31) (m : Int) (hm : m = n) :
    Calls Tryd.prog 49 #[.int .u32 v, .int .i64 m] w fun e w' => e = .returned (.int .u32 (H.ror v n : Nat)) ∧ w' = w.drew := by
  have e1 : (32 - m).toNat = 32 - n := by omega
  have e2 : m.toNat = n := by omega
  have hr : bits .or .u32 ((v : Int) / 2 ^ n) ((v : Int) * 2 ^ (32 - n) % 4294967296) = (H.ror v n : Nat) := by
    have := u32_or_nat (v / 2 ^ n) (v * 2 ^ (32 - n) % 4294967296) (Nat.lt_of_le_of_lt (Nat.div_le_self _ _) h1) (Nat.mod_lt _ (by decide))
    rw [H.ror, ← this]
    congr 1 <;> simp
  have m0 : 0 ≤ m := by omega
  have m1 : m ≤ 31 := by omega
  have z0 : (0 : Int) ≤ (v : Int) := by omega
  have z1 : (v : Int) < 4294967296 := by omega
  have HR := Lib.hid hr; have E1 := Lib.hid e1; have E2 := Lib.hid e2
  clear hr hm h1 n1 e1 e2
  go_enter Tryd.func49, Tryd.ntmps49
  go_wp2_with fail
  go_region
  go_wp2_with fail
  go_ret
  rw [E1.out, E2.out, HR.out]
  exact ⟨rfl, rfl⟩

theorem word_val {b0 b1 b2 b3 : Nat} (l0 : b0 < 256) (l1 : b1 < 256) (l2 : b2 < 256) (l3 : b3 < 256) :
    bits .or .u32 (bits .or .u32 (bits .or .u32 ((b0 : Int) * 16777216) ((b1 : Int) * 65536)) ((b2 : Int) * 256)) (b3 : Int) = (H.word b0 b1 b2 b3 : Nat) := by
  have h1 : b0 * 16777216 ||| b1 * 65536 < 2 ^ 32 := Nat.or_lt_two_pow (by omega) (by omega)
  have h2 : b0 * 16777216 ||| b1 * 65536 ||| b2 * 256 < 2 ^ 32 := Nat.or_lt_two_pow h1 (by omega)
  have e1 := u32_or_nat (b0 * 16777216) (b1 * 65536) (by omega) (by omega)
  have e2 := u32_or_nat (b0 * 16777216 ||| b1 * 65536) (b2 * 256) h1 (by omega)
  have e3 := u32_or_nat (b0 * 16777216 ||| b1 * 65536 ||| b2 * 256) b3 h2 (by omega)
  simp only [Int.natCast_mul, Int.cast_ofNat_Int] at e1 e2 e3
  rw [e1, e2, e3]; rfl

/-- word. -/
theorem rword_any (b off cap b0 b1 b2 b3 : Nat) (w : World) (_ : 4 ≤ cap) (l0 : b0 < 256) (l1 : b1 < 256) (l2 : b2 < 256) (l3 : b3 < 256)
    (c0 : w.cell? ⟨b, off, none⟩ = some (.int .u8 b0)) (c1 : w.cell? ⟨b, off + 1, none⟩ = some (.int .u8 b1)) (c2 : w.cell? ⟨b, off + 2, none⟩ = some (.int .u8 b2)) (c3 : w.cell? ⟨b, off + 3, none⟩ = some (.int .u8 b3)) :
    Calls Tryd.prog 48 #[.slice (some ⟨b, off, none⟩) 4 cap] w fun e w' => e = .returned (.int .u32 (H.word b0 b1 b2 b3 : Nat)) ∧ w' = w.drew := by
  have HV := Lib.hid (word_val l0 l1 l2 l3)
  go_enter Tryd.func48, Tryd.ntmps48
  go_wp2_with fail
  go_region
  go_wp2_with fail
  go_ret
  refine ⟨?_, rfl⟩
  rw [← HV.out]; rfl

end Go.Proofs.YthamligdmfhmeaaDoor
