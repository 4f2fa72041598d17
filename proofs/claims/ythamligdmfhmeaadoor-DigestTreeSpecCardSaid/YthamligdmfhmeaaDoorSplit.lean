/- Contract of split: the greatest power of 2 below a number. -/
import Derived.Test.YthamligdmfhmeaaDoorPair
import Derived.Test.YthamligdmfhmeaaDoorShelf
import Derived.Lib.ItoaNum
namespace Go.Proofs.YthamligdmfhmeaaDoor
open Go.RowKit

namespace H
/-- The greatest power of 2 below a number. -/
def split (n : Nat) : Nat := 2 ^ (Lib.bitLen (n - 1) - 1)
theorem split_bounds {n : Nat} (h2 : 2 ≤ n) (hn : n ≤ 1099511627776) : 1 ≤ Lib.bitLen (n - 1) ∧ split n ≤ n - 1 ∧ n - 1 < 2 * split n := by
  obtain ⟨h1, h3, h4⟩ := Lib.bitLenAux_bounds 64 (n - 1) (by omega) (by omega)
  refine ⟨h1, h3, ?_⟩
  have : 2 ^ (Lib.bitLenAux 64 (n - 1)) = 2 * 2 ^ (Lib.bitLenAux 64 (n - 1) - 1) := by
    rw [← Nat.pow_succ']; congr 1; omega
  rw [this] at h4
  exact h4
theorem split_pos (n : Nat) : 0 < split n := Nat.two_pow_pos _
end H

theorem split_any (n : Nat) (w : World) (h2 : 2 ≤ n) (hn : n ≤ 1099511627776) :
    Calls Tryd.prog 20 #[.int .i64 n] w fun e w' => e = .returned (.int .i64 (H.split n : Nat)) ∧ w = w' := by
  have hm : IntKind.i64.wrap ((n : Int) - 1) = ((n - 1 : Nat) : Int) := by rw [IntKind.wrap_i64]; omega
  obtain ⟨hb1, hs1, hs2⟩ := H.split_bounds h2 hn
  have hb2 : Lib.bitLen (n - 1) ≤ 41 := by
    rcases Nat.lt_or_ge (Lib.bitLen (n - 1)) 42 with h | h
    · omega
    · have := Nat.pow_le_pow_right (n := 2) (by decide) (show 41 ≤ Lib.bitLen (n - 1) - 1 by omega)
      rw [H.split] at hs1
      have h41 : (2 : Nat) ^ 41 = 2199023255552 := by decide
      omega
  rw [H.split]
  rw [H.split] at hs1
  obtain ⟨b, hb⟩ : ∃ b, Lib.bitLen (n - 1) = b := ⟨_, rfl⟩
  rw [hb] at hb1 hb2 hs1 ⊢
  have HB := Lib.hid hb
  have hwr : wrap64 ((2 : Int) ^ (b - 1)) = ((2 ^ (b - 1) : Nat) : Int) := by
    have e : (2 : Int) ^ (b - 1) = ((2 ^ (b - 1) : Nat) : Int) := by simp
    have hp := Nat.two_pow_pos (b - 1)
    rw [e]; unfold wrap64; omega
  have HWR := Lib.hid hwr
  clear hb hs1 hs2 hwr
  go_enter Tryd.func20, Tryd.ntmps20
  go_wp2_with fail
  refine (Tryd.bits_Len ((n - 1 : Nat) : Int) w (by omega) (by omega)).mono ?_
  rintro e w' ⟨rfl, hw⟩
  rw [show (((n - 1 : Nat) : Int)).toNat = n - 1 from rfl, HB.out]
  subst hw
  rename_i K3 hK3
  refine hK3 _ _ ?_
  clear hK3
  go_wp2_with fail
  go_ret
  rw [HWR.out]
  exact ⟨rfl, rfl⟩

end Go.Proofs.YthamligdmfhmeaaDoor
