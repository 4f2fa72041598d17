/- Contracts of the laws' own functions. -/
import Derived.Test.YtogedlfpgoicfaaDoorSSign
namespace Go.Proofs.YtogedlfpgoicfaaDoor
open Go.RowKit

set_option maxRecDepth 100000 in
set_option maxHeartbeats 1000000 in
theorem lnumber_any (n : Int) (w : World) :
    Calls Tryd.prog 55 #[.int .i64 n] w (Made (G.num8 n) w) := by
  have H0 : Hid (w.ownsRow w.heap.size 5 1 (.slice none 0 0) (G.numk n 0).length (bytes (G.numk n 0)) ∧ Keeps w.heap.size w w) := Lib.hid ⟨⟨rfl, .inl ⟨rfl, rfl⟩⟩, Keeps.refl _ _⟩
  go_enter Tryd.func55, Tryd.ntmps55
  go_wp2_with fail
  go_loopw [3, 4] (fun vv ii wr => ∃ j : Nat, j ≤ 8 ∧ ii = .int .i64 ((j : Int) - 1) ∧ Hid (wr.ownsRow w.heap.size 5 1 vv (G.numk n (8 - j)).length (bytes (G.numk n (8 - j))) ∧ Keeps w.heap.size w wr))
    (fun _ ii _ => (intOf ii + 1).toNat)
  case atStart => exact ⟨8, Nat.le_refl _, rfl, H0⟩
  case round =>
    obtain ⟨j, hj, rfl, HW⟩ := hrel
    clear H0
    cases j with
    | zero =>
      have HZ : Hid (wr.ownsRow w.heap.size 5 1 u3 (G.num8 n).length (bytes (G.num8 n)) ∧ Below w.heap.size w wr) := Lib.hid ⟨by have h := HW.out.1; rw [Nat.sub_zero, G.numk_8] at h; exact h, HW.out.2.below (Nat.le_refl _)⟩
      go_wp2_with fail
      go_ret
      exact ⟨_, rfl, HZ.out⟩
    | succ j =>
      have e1 : ((j + 1 : Nat) : Int) - 1 = (j : Int) := by omega
      rw [e1]
      obtain ⟨m, hm⟩ : ∃ m, (G.numk n (8 - (j + 1))).length = m := ⟨_, rfl⟩
      have hml : m ≤ 8 := by rw [← hm, G.numk_len _ _ (by omega)]; omega
      have HM := Lib.hid hm
      clear hm
      go_wp2_with (at_builtin; refine wpl_push rfl _ _ rfl w.heap.size _ _ _ rfl HW.out.1 _ rfl (Int.emod_nonneg _ (by decide)) (Int.emod_lt_of_pos _ (by decide)) (by have := HM.out; omega) HW.out.2.size ?_; intro v' w' h1' h2')
      have HN : Hid (w'.ownsRow w.heap.size 5 1 v' (G.numk n (8 - j)).length (bytes (G.numk n (8 - j))) ∧ Keeps w.heap.size w w') := Lib.hid ⟨by
        have e : (IntKind.u64.wrap n / 2 ^ (8 * j) % 256).toNat = G.num8b n (8 - (j + 1)) := by
          have hw : IntKind.u64.wrap n = ((n % 18446744073709551616).toNat : Int) := by
            have h : IntKind.u64.wrap n = n % 18446744073709551616 := by rw [IntKind.wrap_u64]
            rw [h]; omega
          have h2 : ((n % 18446744073709551616).toNat : Int) / 2 ^ (8 * j) % 256 = (((n % 18446744073709551616).toNat / 2 ^ (8 * j) % 256 : Nat) : Int) := by simp
          rw [hw, h2, Int.toNat_natCast, G.num8b, show 7 - (8 - (j + 1)) = j by omega]
        rw [e, ← G.numk_succ n _ (by omega), show 8 - (j + 1) + 1 = 8 - j by omega] at h1'
        rw [G.numk_len _ _ (by omega)] at h1' ⊢
        rw [show 8 - (j + 1) + 1 = 8 - j by omega] at h1'
        exact h1', HW.out.2.trans h2'⟩
      refine ⟨⟨j, by omega, rfl, HN⟩, ?_⟩
      simp [intOf]

set_option maxRecDepth 100000 in
set_option maxHeartbeats 1000000 in
theorem minus_any (a b z : Nat) (w : World) (ha : a < 2305843009213688669) (hb : b < 2305843009213688669) (HZ : Hid (z = G.mi a b)) :
    Calls Tryd.prog 53 #[.int .i64 a, .int .i64 b] w fun e w' => e = .returned (.tuple #[.int .i64 z, .int .i64 0]) ∧ Below w.heap.size w w' := by
  obtain ⟨n, hn⟩ : ∃ n, n = G.ml 2305843009213688668 b := ⟨_, rfl⟩
  have hnl : n < 2305843009213688669 := by rw [hn]; exact G.ml_lt _ _
  have P1 : Hid (∀ W : World, Calls Tryd.prog 34 #[.int .i64 2305843009213688668, .int .i64 b] W fun e w' => e = .returned (.tuple #[.int .i64 n, .int .i64 0]) ∧ Below W.heap.size W w') := Lib.hid fun W => prod_ok 2305843009213688668 b n W (by decide) hb (Lib.hid hn)
  have P2 : Hid (∀ W : World, Calls Tryd.prog 32 #[.int .i64 a, .int .i64 n] W fun e w' => e = .returned (.tuple #[.int .i64 z, .int .i64 0]) ∧ Below W.heap.size W w') := Lib.hid fun W => sum_ok a n z W ha hnl (Lib.hid (by rw [HZ.out, hn]; rfl))
  clear hn hnl ha hb HZ
  go_enter Tryd.func53, Tryd.ntmps53
  go_wp2_with fail
  refine (P1.out _).mono ?_
  rintro e w1 ⟨rfl, hb1⟩
  have HW := Lib.hid hb1
  clear hb1
  go_wp2_with (go_at_call 32; (with_reducible refine (P2.out _).mono ?_); rintro e w2 ⟨rfl, hb2⟩; have HW2 := step_below HW hb2; clear hb2)
  go_ret2
  exact ⟨rfl, HW2.out⟩

theorem skey_low (x : Int) : ∃ n : Nat, n < 4611686018427387904 ∧ bits .and .i64 x 4611686018427387903 = (n : Int) := by
  have hle : (BitVec.ofInt 64 x &&& BitVec.ofInt 64 4611686018427387903).toNat ≤ 4611686018427387903 := by
    rw [BitVec.toNat_and]
    exact Nat.and_le_right
  refine ⟨_, Nat.lt_succ_of_le hle, ?_⟩
  show IntKind.i64.wrap ((BitVec.ofInt 64 x &&& BitVec.ofInt 64 4611686018427387903).toNat : Int) = _
  rw [IntKind.wrap_i64]
  omega

set_option maxRecDepth 100000 in
set_option maxHeartbeats 1000000 in
theorem key_any (n : Int) (w : World) :
    Calls Tryd.prog 39 #[.int .i64 n] w fun e w' => (∃ x : Nat, 1 ≤ x ∧ x < 2305843009213688669 ∧ e = .returned (.int .i64 x)) ∧ w = w' := by
  obtain ⟨m, hm, he⟩ := skey_low n
  obtain ⟨k, hk⟩ : ∃ k, k = m % 2305843009213688668 := ⟨_, rfl⟩
  have e2 : (m : Int).tmod 2305843009213688668 = (k : Int) := by rw [Int.tmod_eq_emod_of_nonneg (by omega)]; omega
  have hkl : k < 2305843009213688668 := by omega
  clear hk
  go_enter Tryd.func39, Tryd.ntmps39
  go_wp2_with fail
  go_ret
  refine ⟨⟨1 + k, by omega, by omega, ?_⟩, rfl⟩
  first
    | rfl
    | (rw [Int.natCast_add]; rfl)
    | (simp; done)

set_option maxRecDepth 100000 in
set_option maxHeartbeats 2000000 in
theorem lchallenge_any (pub r : Int) (a : Option Addr) (n cap : Nat) (bs : List UInt8) (w : World) (hK : KT w) (hn : bs.length = n) (hl : n ≤ 100000) (hb : BytesAt w a bs) :
    Calls Tryd.prog 51 #[.int .i64 pub, .int .i64 r, .slice a n cap] w fun e w' => e = .returned (.int .i64 (G.chal pub r bs : Nat)) ∧ Below w.heap.size w w' := by
  have HK := Lib.hid hK; have HB := Lib.hid hb; have HN := Lib.hid hn
  clear hK hb hn
  go_enter Tryd.func51, Tryd.ntmps51
  go_wp2_with fail
  refine (lnumber_any r _).mono ?_
  rintro e w1 ⟨v1, rfl, ho1, hb1⟩
  have HO1 := Lib.hid ho1
  have HW1 : Hid (Below w.heap.size w w1) := Lib.hid hb1
  clear ho1 hb1
  go_wp2_with fail
  refine (lnumber_any pub _).mono ?_
  rintro e w2 ⟨v2, rfl, ho2, hb2⟩
  have HO3 : Hid (w2.ownsRow w.heap.size 5 1 v1 (G.num8 r).length (bytes (G.num8 r))) := Lib.hid (owns_kept HO1.out hb2)
  have HW2 : Hid (Below w.heap.size w w2) := step_below HW1 hb2
  obtain ⟨A2, c2, rfl, _, _, hby2⟩ := owns_bytesAt ho2
  have HY := Lib.hid hby2
  have HS : Hid (∀ V v, Below w.heap.size w V → V.ownsRow w.heap.size 5 1 v (8 + 8 + n) (bytes ((G.num8 r ++ G.num8 pub) ++ bs)) → Calls Tryd.prog 36 #[.string ⟨#[115, 105, 103, 110]⟩, v] V fun e w' => e = .returned (.int .i64 (G.chal pub r bs : Nat)) ∧ Hid (Below w.heap.size w w')) := Lib.hid (fun V v hV ho => by
    obtain ⟨A, c, rfl, hc, _, hby⟩ := owns_bytesAt ho
    refine (scalar_any ⟨#[115, 105, 103, 110]⟩ A (8 + 8 + n) c (G.chal pub r bs) ((G.num8 r ++ G.num8 pub) ++ bs) V (HK.out.kept hV HK.out.pos) (by decide) (by rw [List.length_append, List.length_append, G.num8_len, G.num8_len, HN.out]) (by omega) hby (Lib.hid (by rw [List.append_assoc]; rfl))).mono ?_
    rintro e w' ⟨rfl, hb⟩
    exact ⟨rfl, Lib.hid (hV.trans (hb.mono hV.size))⟩)
  clear ho2 hb2 hby2 HO1 HW1
  go_wp2_with (first
    | (at_builtin; refine wpl_cat rfl _ _ rfl w.heap.size _ 8 (G.num8 r) rfl HO3.out A2 8 c2 (G.num8 pub) rfl (G.num8_len pub) HY.out (by decide) HW2.out.size ?_; intro v3 w3 h1 h2; have HC := Lib.hid (And.intro h1 (HW2.out.trans (h2.below HW2.out.size))); clear h1 h2)
    | (at_builtin; refine wpl_cat rfl _ _ rfl w.heap.size _ (8 + 8) (G.num8 r ++ G.num8 pub) rfl HC.out.1 a n cap bs rfl HN.out (HB.out.kept HC.out.2) (by omega) HC.out.2.size ?_; intro v4 w4 h1 h2; have HE := Lib.hid (And.intro h1 (HC.out.2.trans (h2.below HC.out.2.size))); clear h1 h2)
    | (go_at_call 36; (with_reducible refine (HS.out _ _ HE.out.2 HE.out.1).mono ?_); rintro e w5 ⟨rfl, HX⟩))
  go_ret
  exact ⟨rfl, HX.out⟩

end Go.Proofs.YtogedlfpgoicfaaDoor
