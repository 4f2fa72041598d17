/- Contract of the reader's numeral. -/
import Derived.Test.YtmhchpdogjbpmaaReader
namespace Go.Proofs.Ytmhchpdogjbpmaa
open Go.RowKit

/-- What numeral hands back, or how it panics. -/
def NumRes (rb : Nat) (r : Option (Nat × List UInt8)) (w : World) (e : Ending) (w' : World) : Prop :=
  w.grownBy w' (some rb) ∧ match r with
    | some (u, rest) => e = .returned (.int .u64 u) ∧ u < 18446744073709551616 ∧ RS w' rb rest
    | none => Bad e

theorem wrap_dig (k : Nat) (c : UInt8) : IntKind.u64.wrap ((c.toNat : Int) % 128 * 2 ^ (7 * k)) = (M.digAt k c : Int) := by
  rw [IntKind.wrap_u64]; unfold M.digAt; simp

theorem or_dig (u k : Nat) (c : UInt8) (hu : u < 18446744073709551616) : bits .or .u64 (u : Int) (M.digAt k c : Int) = ((u ||| M.digAt k c : Nat) : Int) := u64_or_nat _ _ hu (M.digAt_lt _ _)

/-- Shifts by 64 places or more. -/
theorem shl_far (s : Int) (h : 64 ≤ s) (x : Int) (w : World) : (Op.shift .shl .u64 x .i64 s).run Try.prog w = .ok (.int .u64 0) w := by
  rw [shift_shl_any _ _ _ _ (by omega), Nat.min_eq_right (by simp [IntKind.bits]; omega)]
  simp [IntKind.bits, IntKind.wrap_u64]
theorem shr_far (s : Int) (h : 64 ≤ s) (w : World) : (Op.shift .shr .u64 0 .i64 s).run Try.prog w = .ok (.int .u64 0) w := by
  rw [shift_shr_any _ _ _ _ (by omega)]
  simp

theorem test_dig {k : Nat} {c : UInt8} (h : (M.digAt k c : Int) / 2 ^ (7 * k) = (c.toNat : Int) % 128) : M.digAt k c / 2 ^ (7 * k) = c.toNat % 128 := by
  have : ((M.digAt k c / 2 ^ (7 * k) : Nat) : Int) = ((c.toNat % 128 : Nat) : Int) := by simpa using h
  exact_mod_cast this

set_option maxRecDepth 100000 in
set_option maxHeartbeats 2000000 in
theorem numeral_any (rb : Nat) (bs : List UInt8) (w : World) (h : RS w rb bs) (r : Option (Nat × List UInt8)) (hr : M.rdNum 0 0 bs = r) :
    Calls Try.prog 43 #[.pointer (some ⟨rb, 0, none⟩)] w (NumRes rb r w) := by
  have hlen := h.2.1
  go_enter Try.func43, Try.ntmps43
  go_wp2_with fail
  go_loopw [2, 3] (fun uu ss wr => ∃ (k u : Nat), k ≤ bs.length ∧ ss = .int .i64 ((7 * k : Nat) : Int) ∧ uu = .int .u64 u ∧ u < 18446744073709551616 ∧ M.rdNum k u (bs.drop k) = r ∧ RS wr rb (bs.drop k) ∧ w.grownBy wr (some rb))
    (fun _ ss _ => 7 * bs.length - (intOf ss).toNat)
  case atStart => exact ⟨0, 0, by omega, rfl, rfl, by omega, hr, h, grownBy_refl _ _⟩
  case round =>
    obtain ⟨k, u, hk, rfl, rfl, hu, hrd, hrs, hg⟩ := hrel
    by_cases hlt : k < bs.length
    · have ht := take_ok rb 1 _ wr (by simp; omega) hrs
      have hdrop : bs.drop k = bs[k] :: bs.drop (k + 1) := List.drop_eq_getElem_cons hlt
      have hrd2 := hrd
      rw [hdrop] at hrd2
      generalize hc : bs[k] = c at *
      have HD := Lib.hid hdrop; have HRD := Lib.hid hrd2; have HC := Lib.hid hc
      clear hdrop hrd hrd2 hc
      have hc256 : c.toNat < 256 := UInt8.toNat_lt c
      have hdl := M.digAt_lt k c
      have hcellOf : ∀ (ad : Addr) (w1 : World), wr.grownBy w1 (some rb) → ad.block < rb → wr.cell? (ad.add 0) = some (.int .u8 ((bs.drop k)[0]'(by simp; omega)).toNat) → w1.cell? ad = some (.int .u8 c.toNat) := by
        intro ad w1 hg1 hb1 hcell
        have e0 : (bs.drop k)[0]'(by simp; omega) = c := by simp [HC.out]
        rw [e0] at hcell
        exact hg1.cell (by simpa [Addr.add] using hcell) (by simp; omega)
      have HCO := Lib.hid hcellOf; clear hcellOf
      have HT := Lib.hid ht; clear ht
      by_cases hs64 : k < 10
      · go_wp2_with (go_at_call 41; refine (HT.out).mono ?_; rintro e w1 ⟨a1, rfl, hc1, hr1, hg1⟩; obtain ⟨ad, rfl, hb1, hcell⟩ := hc1 0 (by omega) (by simp; omega); have hcell' := HCO.out ad w1 hg1 hb1 hcell)
        · obtain rfl : r = none := by
            rw [← HRD.out]; exact M.rdNum_bad2 (by assumption) (by have : (0 : Int) < 7 * (k : Int) := by assumption
                                                                   omega)
          exact ⟨rfl, grownBy_trans hg hg1, rfl⟩
        · have h1 : IntKind.u64.wrap ((c.toNat : Int) % 128 * 2 ^ (7 * k)) / 2 ^ (7 * k) = (c.toNat : Int) % 128 := by assumption
          have hc0 : c.toNat = 0 := by assumption
          have hk0 : 7 * (k : Int) ≤ 0 := by assumption
          rw [wrap_dig] at h1
          obtain rfl : r = some (u ||| M.digAt k c, bs.drop (k + 1)) := by
            rw [← HRD.out]; exact M.rdNum_last (test_dig h1) (fun _ => by omega) (by omega)
          go_ret
          have hz : M.digAt k c = 0 := by unfold M.digAt; rw [hc0]; simp
          refine ⟨grownBy_trans hg hg1, ?_, M.or_lt _ _ hu (M.digAt_lt _ _), by simpa using hr1⟩
          rw [hz]; exact ret_int (u64_or_nat u 0 hu (by decide))
        · have h1 : IntKind.u64.wrap ((c.toNat : Int) % 128 * 2 ^ (7 * k)) / 2 ^ (7 * k) = (c.toNat : Int) % 128 := by assumption
          have hc0 : ¬ c.toNat = 0 := by assumption
          have hc1 : (c.toNat : Int) < 128 := by assumption
          rw [wrap_dig] at h1
          obtain rfl : r = some (u ||| M.digAt k c, bs.drop (k + 1)) := by
            rw [← HRD.out]; exact M.rdNum_last (test_dig h1) (fun h => absurd h hc0) (by omega)
          go_ret
          refine ⟨grownBy_trans hg hg1, ?_, M.or_lt _ _ hu (M.digAt_lt _ _), by simpa using hr1⟩
          exact ret_int (by rw [wrap_dig]; exact or_dig u k c hu)
        · have h1 : IntKind.u64.wrap ((c.toNat : Int) % 128 * 2 ^ (7 * k)) / 2 ^ (7 * k) = (c.toNat : Int) % 128 := by assumption
          have hc1 : (128 : Int) ≤ (c.toNat : Int) := by assumption
          rw [wrap_dig] at h1
          go_roundw
          case rel =>
            refine ⟨k + 1, u ||| M.digAt k c, by omega, by go_num, by rw [wrap_dig, or_dig u k c hu], M.or_lt _ _ hu (M.digAt_lt _ _), ?_, by simpa using hr1, grownBy_trans hg hg1⟩
            rw [← M.rdNum_more (test_dig h1) (by omega)]; exact HRD.out
          case measure => simp [intOf]; omega
        · have h1 : ¬ IntKind.u64.wrap ((c.toNat : Int) % 128 * 2 ^ (7 * k)) / 2 ^ (7 * k) = (c.toNat : Int) % 128 := by assumption
          rw [wrap_dig] at h1
          obtain rfl : r = none := by
            rw [← HRD.out]; exact M.rdNum_bad1 (fun h => h1 (by exact_mod_cast h))
          exact ⟨rfl, grownBy_trans hg hg1, rfl⟩
      · obtain ⟨s, hs⟩ : ∃ s : Int, s = ((7 * k : Nat) : Int) := ⟨_, rfl⟩
        rw [← hs]
        have hs1 : 64 ≤ s := by omega
        have hs2 : s ≤ 7 * 1099511627776 := by omega
        have HS := Lib.hid hs; clear hs
        have h1 := shl_far s hs1; have h2 := shr_far s hs1
        rcases (show (c.toNat % 128 ≠ 0) ∨ c.toNat = 0 ∨ c.toNat = 128 from by omega) with hd | hd | hd
        · have t1 : ((0 : Int) != (c.toNat : Int) % 128) = true := by rw [bne_iff_ne]; omega
          have t2 : ((0 : Int) == (c.toNat : Int) % 128) = false := by rw [beq_eq_false_iff_ne]; omega
          have HD2 := Lib.hid hd; clear hd
          go_wp2_with (go_at_call 41; refine (HT.out).mono ?_; rintro e w1 ⟨a1, rfl, hc1, hr1, hg1⟩; obtain ⟨ad, rfl, hb1, hcell⟩ := hc1 0 (by omega) (by simp; omega); have hcell' := HCO.out ad w1 hg1 hb1 hcell)
          obtain rfl : r = none := by
            rw [← HRD.out]; exact M.rdNum_bad1 (by rw [M.digAt_far k _ (by omega), Nat.zero_div]; exact fun h => HD2.out h.symm)
          exact ⟨rfl, grownBy_trans hg hg1, rfl⟩
        · obtain rfl : c = 0 := UInt8.toNat_inj.1 hd
          clear hd
          go_wp2_with (go_at_call 41; refine (HT.out).mono ?_; rintro e w1 ⟨a1, rfl, hc1, hr1, hg1⟩; obtain ⟨ad, rfl, hb1, hcell⟩ := hc1 0 (by omega) (by simp; omega); have hcell' : w1.cell? ad = some (.int .u8 0) := HCO.out ad w1 hg1 hb1 hcell)
          obtain rfl : r = none := by
            rw [← HRD.out]; exact M.rdNum_bad2 (by decide) (by omega)
          exact ⟨rfl, grownBy_trans hg hg1, rfl⟩
        · obtain rfl : c = 128 := UInt8.toNat_inj.1 hd
          clear hd
          go_wp2_with (go_at_call 41; refine (HT.out).mono ?_; rintro e w1 ⟨a1, rfl, hc1, hr1, hg1⟩; obtain ⟨ad, rfl, hb1, hcell⟩ := hc1 0 (by omega) (by simp; omega); have hcell' : w1.cell? ad = some (.int .u8 128) := HCO.out ad w1 hg1 hb1 hcell)
          go_roundw
          case rel =>
            refine ⟨k + 1, u, by omega, by rw [HS.out]; go_num, by rw [show ((0 : Int)) = ((0 : Nat) : Int) from rfl, u64_or_nat u 0 hu (by decide), Nat.or_zero], hu, ?_, by simpa using hr1, grownBy_trans hg hg1⟩
            have h := M.rdNum_more (u := u) (l := bs.drop (k + 1)) (k := k) (c := 128) (by rw [M.digAt_far k _ (by omega)]; simp) (by decide)
            rw [M.digAt_far k _ (by omega), Nat.or_zero] at h
            rw [← h]; exact HRD.out
          case measure => simp [intOf]; have := HS.out; omega
    · have hb := take_bad rb 1 (bs.drop k) wr (by simp; omega) hrs
      have hnil : bs.drop k = [] := by simp; omega
      rw [hnil] at hrd
      have HR := Lib.hid hrd; have HB := Lib.hid hb; clear hrd hb
      go_wp2_with (go_at_call 41; refine (HB.out).mono ?_; rintro e w1 ⟨hbad, rfl⟩; unfold Bad at hbad; subst hbad)
      obtain rfl : r = none := by rw [← HR.out]; rfl
      exact ⟨rfl, hg, rfl⟩

end Go.Proofs.Ytmhchpdogjbpmaa
