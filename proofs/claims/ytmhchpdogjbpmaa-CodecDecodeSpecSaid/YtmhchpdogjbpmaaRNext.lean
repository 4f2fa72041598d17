/- Contracts of the reference's reader: next, number. -/
import Derived.Test.YtmhchpdogjbpmaaRefCheck
import Derived.Test.YtmhchpdogjbpmaaBack
namespace Go.Proofs.Ytmhchpdogjbpmaa
open Go.RowKit

/-- The reference's reader, in block rb: the bytes, how many are read, whether it has failed. -/
def RR (w : World) (rb : Nat) (pa : Option Addr) (raw : List UInt8) (cap at' : Nat) (bad : Bool) : Prop :=
  w.heap[rb]? = some (.cells #[.slice pa raw.length cap, .int .i64 at', .bool bad] 56 (0, 0)) ∧ raw.length ≤ cap ∧ raw.length ≤ 1000000 ∧
    ∀ i (h : i < raw.length), ∃ ad, pa = some ad ∧ ad.block < rb ∧ w.cell? (ad.add i) = some (.int .u8 (raw[i]).toNat)

theorem cells3 {w : World} {B : Nat} {v0 v1 v2 : Value} {t : TypeId} (h : w.heap[B]? = some (.cells #[v0, v1, v2] t (0, 0))) :
    (w.cell? ⟨B, 0, none⟩ = some v0 ∧ w.cell? ⟨B, 1, none⟩ = some v1 ∧ w.cell? ⟨B, 2, none⟩ = some v2) ∧
    (w.frozen? ⟨B, 0, none⟩ = false ∧ w.frozen? ⟨B, 1, none⟩ = false ∧ w.frozen? ⟨B, 2, none⟩ = false) := by
  refine ⟨⟨?_, ?_, ?_⟩, ⟨?_, ?_, ?_⟩⟩
  all_goals first
    | (rw [cell_of_row w B _ _ _ _ h]; rfl)
    | (simp [World.frozen?, h])

theorem RR.lt {w : World} {rb : Nat} {pa : Option Addr} {raw : List UInt8} {cap at' : Nat} {bad : Bool} (h : RR w rb pa raw cap at' bad) : rb < w.heap.size := (Array.getElem?_eq_some_iff.1 h.1).1

theorem RR.kept {w w' : World} {rb : Nat} {pa : Option Addr} {raw : List UInt8} {cap at' : Nat} {bad : Bool} (h : RR w rb pa raw cap at' bad) (hb : Below w.heap.size w w') : RR w' rb pa raw cap at' bad := by
  have hlt := h.lt
  obtain ⟨h1, h2, h3, h4⟩ := h
  refine ⟨(hb.block rb hlt).trans h1, h2, h3, fun i hi => ?_⟩
  obtain ⟨ad, ha, hlt', hc⟩ := h4 i hi
  exact ⟨ad, ha, hlt', (hb.cell (block_lt_of_cell hc)).trans hc⟩

/-- Behind a store into the reader. -/
theorem RR.store {w : World} {rb : Nat} {pa : Option Addr} {raw : List UInt8} {cap at' : Nat} {bad : Bool} (h : RR w rb pa raw cap at' bad) {o : Nat} {u : Value} {at2 : Nat} {bad2 : Bool}
    (hset : (w.setCell ⟨rb, o, none⟩ u).heap[rb]? = some (.cells #[.slice pa raw.length cap, .int .i64 at2, .bool bad2] 56 (0, 0))) : RR (w.setCell ⟨rb, o, none⟩ u) rb pa raw cap at2 bad2 := by
  obtain ⟨h1, h2, h3, h4⟩ := h
  refine ⟨hset, h2, h3, fun i hi => ?_⟩
  obtain ⟨ad, ha, hlt, hc⟩ := h4 i hi
  refine ⟨ad, ha, hlt, ?_⟩
  rw [World.cell?_of_block (w := w) (Below.heap_setCell _ _ _ _ (by rw [add_block]; exact Nat.ne_of_lt hlt))]
  exact hc

theorem set_at {w : World} {rb : Nat} {pa : Option Addr} {raw : List UInt8} {cap at' : Nat} {bad : Bool} (h : RR w rb pa raw cap at' bad) (at2 : Nat) : RR (w.setCell ⟨rb, 1, none⟩ (.int .i64 at2)) rb pa raw cap at2 bad :=
  h.store (by have := h.1; simp [World.setCell, Array.getElem?_modify, this])
theorem set_bad {w : World} {rb : Nat} {pa : Option Addr} {raw : List UInt8} {cap at' : Nat} {bad : Bool} (h : RR w rb pa raw cap at' bad) : RR (w.setCell ⟨rb, 2, none⟩ (.bool true)) rb pa raw cap at' true :=
  h.store (by have := h.1; simp [World.setCell, Array.getElem?_modify, this])
theorem grownBy_set (w : World) (rb o : Nat) (u : Value) : w.grownBy (w.setCell ⟨rb, o, none⟩ u) (some rb) :=
  ⟨rfl, rfl, rfl, by simp [World.setCell], fun k _ hn => Below.heap_setCell _ _ _ _ (by intro e; exact hn (by rw [e]))⟩
theorem below_grownBy {w w' : World} {row : Option Nat} (h : Below w.heap.size w w') : w.grownBy w' row := ⟨h.os, h.tape, h.output, h.size, fun k hk _ => h.block k hk⟩

/-- What the reader's functions leave. -/
def Left (w w' : World) (rb : Nat) (pa : Option Addr) (raw : List UInt8) (cap at' : Nat) (bad : Bool) : Prop := RR w' rb pa raw cap at' bad ∧ w.grownBy w' (some rb)

set_option maxHeartbeats 1000000 in
theorem next_end (w : World) (rb : Nat) (pa : Option Addr) (raw : List UInt8) (cap : Nat) (bad : Bool) (h : RR w rb pa raw cap raw.length bad) :
    Calls Try.prog 45 #[.pointer (some ⟨rb, 0, none⟩)] w fun e w' => e = .returned (.int .u8 0) ∧ Left w w' rb pa raw cap raw.length true := by
  obtain ⟨⟨c0, c1, c2⟩, g0, g1, g2⟩ := cells3 h.1
  have hl := h.2.2.1
  have H := Lib.hid h
  clear h
  go_enter Try.func45, Try.ntmps45
  go_wp2_with fail
  have x0 := cell_regrown c0; have x1 := cell_regrown c1
  refine wp_region_qb (by kernel_rfl) ?_
  repeat (go_big_quiet_step (fail))
  refine wpQuiet_nil ?_
  intro W2 hb2
  have H2 := Lib.hid (H.out.kept hb2)
  clear x0 x1 c0 c1 c2 g0 g1 g2
  obtain ⟨⟨c0, c1, c2⟩, g0, g1, g2⟩ := cells3 H2.out.1
  go_wp2_with fail
  go_ret
  exact ⟨rfl, set_bad H2.out, grownBy_trans (below_grownBy hb2) (grownBy_set _ _ _ _)⟩

set_option maxHeartbeats 1000000 in
theorem next_ok (w : World) (rb : Nat) (pa : Option Addr) (raw : List UInt8) (cap i : Nat) (bad : Bool) (h : RR w rb pa raw cap i bad) (hi : i < raw.length) :
    Calls Try.prog 45 #[.pointer (some ⟨rb, 0, none⟩)] w fun e w' => e = .returned (.int .u8 (raw[i]).toNat) ∧ Left w w' rb pa raw cap (i + 1) bad := by
  obtain ⟨⟨c0, c1, c2⟩, g0, g1, g2⟩ := cells3 h.1
  have hl := h.2.2.1
  have hcap := h.2.1
  obtain ⟨ad, rfl, hbk, hcell⟩ := h.2.2.2 i hi
  have H := Lib.hid h
  have hck : (raw[i]).toNat < 256 := UInt8.toNat_lt _
  generalize hcv : (raw[i]).toNat = cv at *
  clear h hcv
  go_enter Try.func45, Try.ntmps45
  go_wp2_with fail
  have x0 := cell_regrown c0; have x1 := cell_regrown c1
  refine wp_region_qb (by kernel_rfl) ?_
  repeat (go_big_quiet_step (fail))
  refine wpQuiet_nil ?_
  intro W2 hb2
  have H2 := Lib.hid (H.out.kept hb2)
  have hcell2 := (hb2.cell (block_lt_of_cell hcell)).trans hcell
  clear x0 x1 c0 c1 c2 g0 g1 g2 hcell
  obtain ⟨⟨c0, c1, c2⟩, g0, g1, g2⟩ := cells3 H2.out.1
  go_wp2_with fail
  have e1 : ((i + 1 : Nat) : Int) = (i : Int) + 1 := by omega
  have h3 := set_at H2.out (i + 1)
  have hg3 := grownBy_trans (below_grownBy hb2) (grownBy_set W2 rb 1 (.int .i64 (i + 1 : Nat)))
  have hcell3 : (W2.setCell ⟨rb, 1, none⟩ (.int .i64 (i + 1 : Nat))).cell? (ad.add i) = some (.int .u8 cv) := by
    rw [World.cell?_of_block (w := W2) (Below.heap_setCell _ _ _ _ (by rw [add_block]; exact Nat.ne_of_lt hbk))]; exact hcell2
  rw [e1] at h3 hg3 hcell3
  have H3 := Lib.hid h3
  clear h3 e1 c0 c1 c2 g0 g1 g2 hcell2
  generalize W2.setCell ⟨rb, 1, none⟩ (.int .i64 ((i : Int) + 1)) = W3 at *
  obtain ⟨⟨c0, c1, c2⟩, g0, g1, g2⟩ := cells3 H3.out.1
  have c1' : W3.cell? ⟨rb, 1, none⟩ = some (.int .i64 ((i : Int) + 1)) := c1
  have x0 := cell_regrown c0; have x1 := cell_regrown c1'; have x2 := cell_regrown hcell3
  clear c0 c1 c2 g0 g1 g2 c1' hcell3
  have q1 : (0 : Int) ≤ (i : Int) + 1 - 1 := by omega
  have q2 : ((i : Int) + 1 - 1).toNat = i := by omega
  have q3 : (i : Int) + 1 - 1 = i := by omega
  refine wp_region_qb (by kernel_rfl) ?_
  repeat (go_big_quiet_step (fail))
  refine wpQuiet_nil ?_
  intro W4 hb4
  clear x0 x1 x2
  go_wp2_with fail
  go_ret
  exact ⟨rfl, H3.out.kept hb4, grownBy_trans hg3 (below_grownBy hb4)⟩

theorem M.rdNum_far : ∀ (l : List UInt8) (k u : Nat), 10 ≤ k → M.rdNum k u l = none
  | [], _, _, _ => rfl
  | c :: l, k, u, hk => by
    rw [M.rdNum]
    split
    · rfl
    · rename_i hno
      rw [M.digAt_far k c hk]
      have h1 : c.toNat % 128 = 0 := by
        rcases Decidable.em (M.digAt k c / 2 ^ (7 * k) = c.toNat % 128) with h | h
        · rw [M.digAt_far k c hk, Nat.zero_div] at h; exact h.symm
        · exact absurd (.inl h) hno
      have h2 : c.toNat ≠ 0 := fun h0 => hno (.inr ⟨h0, by omega⟩)
      split
      · omega
      · exact M.rdNum_far l (k + 1) _ (by omega)

/-- The tenth digit is 0 or 1, and the last. -/
theorem M.rdNum_nine (u : Nat) (c : UInt8) (l : List UInt8) (h : 1 < c.toNat) : M.rdNum 9 u (c :: l) = none := by
  rw [M.rdNum]
  split
  · rfl
  · rename_i hno
    split
    · rename_i hs
      exfalso
      apply hno
      left
      have hm : c.toNat % 128 = c.toNat := Nat.mod_eq_of_lt hs
      unfold M.digAt
      rw [hm]
      intro h2
      have : c.toNat * 2 ^ (7 * 9) % 18446744073709551616 / 2 ^ (7 * 9) < 2 := by
        rw [Nat.div_lt_iff_lt_mul (by decide)]
        exact Nat.lt_of_lt_of_le (Nat.mod_lt _ (by decide)) (by decide)
      omega
    · exact M.rdNum_far l 10 _ (by omega)

theorem M.digit_fits (k : Nat) (c : UInt8) (hk : k ≤ 9) (h9 : k = 9 → c.toNat ≤ 1) : c.toNat % 128 * 2 ^ (7 * k) < 18446744073709551616 := by
  rcases Nat.lt_or_ge k 9 with h | h
  · have h1 : 2 ^ (7 * k) ≤ 2 ^ 56 := Nat.pow_le_pow_right (by decide) (by omega)
    have h2 : c.toNat % 128 * 2 ^ (7 * k) ≤ 127 * 2 ^ 56 := Nat.mul_le_mul (by omega) h1
    exact Nat.lt_of_le_of_lt h2 (by decide)
  · have hk9 : k = 9 := by omega
    have := h9 hk9
    subst hk9
    have h2 : c.toNat % 128 * 2 ^ (7 * 9) ≤ 1 * 2 ^ (7 * 9) := Nat.mul_le_mul_right _ (by omega)
    exact Nat.lt_of_le_of_lt h2 (by decide)

theorem M.digit_test (k : Nat) (c : UInt8) (hf : c.toNat % 128 * 2 ^ (7 * k) < 18446744073709551616) : M.digAt k c / 2 ^ (7 * k) = c.toNat % 128 := by
  rw [M.digAt_eq k c hf, Nat.mul_div_cancel _ (Nat.pow_pos (by decide))]

/-- What number hands back. -/
def RNum (r : Option (Nat × List UInt8)) (w : World) (rb : Nat) (pa : Option Addr) (raw : List UInt8) (cap : Nat) (e : Ending) (w' : World) : Prop :=
  match r with
  | some (u, rest) => e = .returned (.int .u64 u) ∧ u < 18446744073709551616 ∧ ∃ at', at' ≤ raw.length ∧ rest = raw.drop at' ∧ Left w w' rb pa raw cap at' false
  | none => ∃ (q : Nat) (at' : Nat), e = .returned (.int .u64 q) ∧ q < 18446744073709551616 ∧ at' ≤ raw.length ∧ Left w w' rb pa raw cap at' true

set_option maxRecDepth 100000 in
set_option maxHeartbeats 4000000 in
theorem number_any (w : World) (rb : Nat) (pa : Option Addr) (raw : List UInt8) (cap i : Nat) (hi : i ≤ raw.length) (h : RR w rb pa raw cap i false) (r : Option (Nat × List UInt8)) (hr : M.rdNum 0 0 (raw.drop i) = r) :
    Calls Try.prog 46 #[.pointer (some ⟨rb, 0, none⟩)] w (RNum r w rb pa raw cap) := by
  have H := Lib.hid h; have HR := Lib.hid hr
  have hl := h.2.2.1
  clear h hr
  go_enter Try.func46, Try.ntmps46
  go_wp2_with fail
  go_loopw [3, 4] (fun nn ii wr => ∃ k u : Nat, k ≤ 9 ∧ i + k ≤ raw.length ∧ nn = .int .u64 u ∧ ii = .int .i64 k ∧ u < 18446744073709551616 ∧ Hid (u < 2 ^ (7 * k)) ∧ Hid (M.rdNum k u (raw.drop (i + k)) = r) ∧ Hid (RR wr rb pa raw cap (i + k) false) ∧ w.grownBy wr (some rb))
    (fun _ ii _ => 10 - (intOf ii).toNat)
  case atStart => exact ⟨0, 0, by omega, by omega, rfl, rfl, by omega, Lib.hid (by simp), HR, H, grownBy_refl _ _⟩
  case round =>
    obtain ⟨k, u, hk, hik, rfl, rfl, hu, HU, HC, HW, hg⟩ := hrel
    obtain ⟨⟨c0, c1, c2⟩, g0, g1, g2⟩ := cells3 HW.out.1
    go_wp2_with fail
    by_cases hlt : i + k < raw.length
    · have hdrop : raw.drop (i + k) = raw[i + k] :: raw.drop (i + k + 1) := List.drop_eq_getElem_cons hlt
      have hc := HC.out
      rw [hdrop] at hc
      have hnx := next_ok wr rb pa raw cap (i + k) false HW.out hlt
      generalize raw[i + k] = c at *
      have hc256 : c.toNat < 256 := UInt8.toNat_lt c
      have HCC := Lib.hid hc
      have HNX := Lib.hid hnx
      clear hc hnx HC hdrop HW c0 c1 c2 g0 g1 g2
      refine HNX.out.mono ?_
      rintro e w1 ⟨rfl, hL, hg1⟩
      have HL := Lib.hid hL
      have hg2 := grownBy_trans hg hg1
      clear hL hg1 HNX hg
      obtain ⟨⟨c0, c1, c2⟩, g0, g1, g2⟩ := cells3 HL.out.1
      have hsb := Lib.hid (set_bad HL.out)
      have hgb := grownBy_trans hg2 (grownBy_set w1 rb 2 (.bool true))
      by_cases hbad : (k = 9 ∧ 1 < c.toNat) ∨ (0 < k ∧ c.toNat = 0)
      · have hrn : r = none := by
          rw [← HCC.out]
          rcases hbad with ⟨rfl, h1⟩ | ⟨h1, h2⟩
          · exact M.rdNum_nine u c _ h1
          · exact M.rdNum_bad2 h2 h1
        subst hrn
        clear HCC HR
        rcases hbad with ⟨hk9, h1⟩ | ⟨h1, h2⟩
        · have t1 : ((k : Int) == 9) = true := by rw [beq_iff_eq]; omega
          clear hk9
          go_wp2_with fail
          go_ret
          exact ⟨0, i + k + 1, rfl, by decide, by omega, hsb.out, hgb⟩
        · have t2 : ((c.toNat : Int) == 0) = true := by rw [beq_iff_eq]; omega
          have t3 : (0 : Int) < k := by omega
          have t4 : (c.toNat : Int) < 1 := by omega
          clear h2
          go_wp2_with fail
          all_goals
            go_ret
            exact ⟨0, i + k + 1, rfl, by decide, by omega, hsb.out, hgb⟩
      · have h9 : k = 9 → c.toNat ≤ 1 := by omega
        have hz : 0 < k → c.toNat ≠ 0 := by omega
        have hfit := M.digit_fits k c hk h9
        have htest := M.digit_test k c hfit
        have hor : u ||| M.digAt k c = u + M.digAt k c := by rw [M.digAt_eq k c hfit]; exact M.or_add u _ k HU.out
        have hsum : u + M.digAt k c < 18446744073709551616 := by rw [← hor]; exact M.or_lt _ _ hu (M.digAt_lt k c)
        have hval : IntKind.u64.wrap ((u : Int) + IntKind.u64.wrap ((c.toNat : Int) % 128 * 2 ^ (7 * k))) = ((u + M.digAt k c : Nat) : Int) := by
          rw [wrap_dig, IntKind.wrap_u64]; omega
        have hnext : u + M.digAt k c < 2 ^ (7 * (k + 1)) := by
          have h1 := HU.out
          have h2 := M.digAt_eq k c hfit
          have h3 : c.toNat % 128 * 2 ^ (7 * k) ≤ 127 * 2 ^ (7 * k) := Nat.mul_le_mul_right _ (by omega)
          rw [M.pow_step]; omega
        have HT := Lib.hid htest; have HO := Lib.hid hor; have HV := Lib.hid hval; have HNX := Lib.hid hnext
        clear htest hor hval hnext hfit hbad
        rcases (show (k = 9 ∧ c.toNat = 1) ∨ (k ≠ 9 ∧ 0 < k ∧ c.toNat ≠ 0) ∨ k = 0 from by omega) with ⟨hk9, hc1⟩ | ⟨hk9, hk0, hc0⟩ | hk0
        · have t1 : ((k : Int) == 9) = true := by rw [beq_iff_eq]; omega
          have t2 : ((c.toNat : Int) == 0) = false := by rw [beq_eq_false_iff_ne]; omega
          have t3 : (c.toNat : Int) ≤ 1 := by omega
          have t4 : (0 : Int) < k := by omega
          have HK := Lib.hid hk9; have HC1 := Lib.hid hc1
          clear hk9 hc1 h9 hz
          have hc128 : c.toNat < 128 := by have := HC1.out; omega
          obtain rfl : r = some (u + M.digAt k c, raw.drop (i + k + 1)) := by
            rw [← HCC.out, M.rdNum_last HT.out (fun h => by have := HC1.out; omega) hc128, HO.out]
          clear HCC HR
          go_wp2_with fail
          go_ret
          exact ⟨ret_int HV.out, hsum, i + k + 1, by omega, rfl, HL.out, hg2⟩
        · have t1 : ((k : Int) == 9) = false := by rw [beq_eq_false_iff_ne]; omega
          have t2 : ((c.toNat : Int) == 0) = false := by rw [beq_eq_false_iff_ne]; omega
          have t4 : (0 : Int) < k := by omega
          have hk8 : k ≤ 8 := by omega
          have HC0 := Lib.hid hc0
          clear hk9 hc0 h9 hz
          by_cases hc128 : c.toNat < 128
          · obtain rfl : r = some (u + M.digAt k c, raw.drop (i + k + 1)) := by
              rw [← HCC.out, M.rdNum_last HT.out (fun h => absurd h HC0.out) hc128, HO.out]
            clear HCC HR
            go_wp2_with fail
            go_ret
            exact ⟨ret_int HV.out, hsum, i + k + 1, by omega, rfl, HL.out, hg2⟩
          · have hmore : M.rdNum (k + 1) (u + M.digAt k c) (raw.drop (i + k + 1)) = r := by
              rw [← HCC.out, M.rdNum_more HT.out hc128, HO.out]
            have HM := Lib.hid hmore
            have t8 : (128 : Int) ≤ c.toNat := by omega
            clear HCC hmore
            go_wp2_with fail
            go_roundw
            case rel => exact ⟨k + 1, u + M.digAt k c, by omega, by omega, by rw [HV.out], by go_num, hsum, HNX, HM, HL, hg2⟩
            case measure => simp [intOf]; omega
        · have t1 : ((k : Int) == 9) = false := by rw [beq_eq_false_iff_ne]; omega
          have t4 : (k : Int) ≤ 0 := by omega
          have HK0 := Lib.hid hk0
          have hk8 : k ≤ 8 := by omega
          clear hk0 h9 hz
          by_cases hc128 : c.toNat < 128
          · obtain rfl : r = some (u + M.digAt k c, raw.drop (i + k + 1)) := by
              rw [← HCC.out, M.rdNum_last HT.out (fun _ => HK0.out) hc128, HO.out]
            clear HCC HR
            go_wp2_with fail
            go_ret
            exact ⟨ret_int HV.out, hsum, i + k + 1, by omega, rfl, HL.out, hg2⟩
          · have hmore : M.rdNum (k + 1) (u + M.digAt k c) (raw.drop (i + k + 1)) = r := by
              rw [← HCC.out, M.rdNum_more HT.out hc128, HO.out]
            have HM := Lib.hid hmore
            have t8 : (128 : Int) ≤ c.toNat := by omega
            clear HCC hmore
            go_wp2_with fail
            go_roundw
            case rel => exact ⟨k + 1, u + M.digAt k c, by omega, by omega, by rw [HV.out], by go_num, hsum, HNX, HM, HL, hg2⟩
            case measure => simp [intOf]; omega
    · have hik2 : i + k = raw.length := by omega
      have hnil : raw.drop (i + k) = [] := List.drop_of_length_le (by omega)
      have hw := HW.out
      rw [hik2] at hw
      have hc := HC.out
      rw [hnil] at hc
      have hrn : r = none := by rw [← hc]; rfl
      subst hrn
      clear hc hnil HC hik2
      refine (next_end wr rb pa raw cap false hw).mono ?_
      rintro e w1 ⟨rfl, hL, hg1⟩
      have HL := Lib.hid hL
      have hg2 := grownBy_trans hg hg1
      have hsb := Lib.hid (set_bad HL.out)
      have hgb := grownBy_trans hg2 (grownBy_set w1 rb 2 (.bool true))
      clear hw c0 c1 c2 g0 g1 g2 hL hg1 hg HW
      obtain ⟨⟨c0, c1, c2⟩, g0, g1, g2⟩ := cells3 HL.out.1
      by_cases hk0 : k = 0
      · subst hk0
        obtain rfl : u = 0 := by have := HU.out; simpa using this
        clear HU
        go_wp2_with fail
        go_ret
        exact ⟨0, raw.length, rfl, by decide, Nat.le_refl _, HL.out, hg2⟩
      · have hk0' : 0 < k := by omega
        go_wp2_with fail
        all_goals
          go_ret
          exact ⟨0, raw.length, rfl, by decide, Nat.le_refl _, hsb.out, hgb⟩

end Go.Proofs.Ytmhchpdogjbpmaa
