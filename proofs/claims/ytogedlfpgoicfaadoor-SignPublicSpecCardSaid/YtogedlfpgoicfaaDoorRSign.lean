/- Contracts of the reference's functions of layer 4. -/
import Derived.Test.YtogedlfpgoicfaaDoorRScal
import Derived.Test.YtogedlfpgoicfaaDoorSSane
namespace Go.Proofs.YtogedlfpgoicfaaDoor
open Go.RowKit

set_option maxRecDepth 100000 in
set_option maxHeartbeats 1000000 in
theorem rbytes_any (n : Int) (w : World) :
    Calls Tryd.prog 88 #[.int .i64 n] w (Made (G.num8 n) w) := by
  have H0 : Hid ((w.alloc (.cells #[] 5 (0, 0))).ownsRow w.heap.size 5 1 (.slice (some ⟨w.heap.size, 0, none⟩) 0 0) (G.numk n 0).length (bytes (G.numk n 0)) ∧ Keeps w.heap.size w (w.alloc (.cells #[] 5 (0, 0)))) := Lib.hid ⟨owns_none w.heap.size w (Nat.le_refl _), (Keeps.refl _ _).alloc _⟩
  go_enter Tryd.func88, Tryd.ntmps88
  go_wp2_with fail
  go_loopw [3, 4] (fun vv ii wr => ∃ j : Nat, j ≤ 8 ∧ ii = .int .i64 ((j : Int) - 1) ∧ Hid (wr.ownsRow w.heap.size 5 1 vv (G.numk n (8 - j)).length (bytes (G.numk n (8 - j))) ∧ Keeps w.heap.size w wr))
    (fun _ ii _ => (intOf ii + 1).toNat)
  case atStart => exact ⟨8, Nat.le_refl _, rfl, H0⟩
  case round =>
    obtain ⟨j, hj, rfl, HW⟩ := hrel
    clear H0
    cases j with
    | zero =>
      have HZ : Hid (wr.ownsRow w.heap.size 5 1 u3 (G.num8 n).length (bytes (G.num8 n)) ∧ Below w.heap.size w wr) := Lib.hid ⟨by have h := HW.out.1; rw [Nat.sub_zero, G.numk_8] at h; exact h, HW.out.2.below (Nat.le_refl _)⟩
      go_wp2_with fail
      go_ret
      exact ⟨_, rfl, HZ.out⟩
    | succ j =>
      have e1 : ((j + 1 : Nat) : Int) - 1 = (j : Int) := by omega
      rw [e1]
      obtain ⟨m, hm⟩ : ∃ m, (G.numk n (8 - (j + 1))).length = m := ⟨_, rfl⟩
      have hml : m ≤ 8 := by rw [← hm, G.numk_len _ _ (by omega)]; omega
      have HM := Lib.hid hm
      clear hm
      go_wp2_with (at_builtin; refine wpl_push rfl _ _ rfl w.heap.size _ _ _ rfl HW.out.1 _ rfl (Int.emod_nonneg _ (by decide)) (Int.emod_lt_of_pos _ (by decide)) (by have := HM.out; omega) HW.out.2.size ?_; intro v' w' h1' h2')
      have HN : Hid (w'.ownsRow w.heap.size 5 1 v' (G.numk n (8 - j)).length (bytes (G.numk n (8 - j))) ∧ Keeps w.heap.size w w') := Lib.hid ⟨by
        have e : (IntKind.u64.wrap n / 2 ^ (8 * j) % 256).toNat = G.num8b n (8 - (j + 1)) := by
          have hw : IntKind.u64.wrap n = ((n % 18446744073709551616).toNat : Int) := by
            have h : IntKind.u64.wrap n = n % 18446744073709551616 := by rw [IntKind.wrap_u64]
            rw [h]; omega
          have h2 : ((n % 18446744073709551616).toNat : Int) / 2 ^ (8 * j) % 256 = (((n % 18446744073709551616).toNat / 2 ^ (8 * j) % 256 : Nat) : Int) := by simp
          rw [hw, h2, Int.toNat_natCast, G.num8b, show 7 - (8 - (j + 1)) = j by omega]
        rw [e, ← G.numk_succ n _ (by omega), show 8 - (j + 1) + 1 = 8 - j by omega] at h1'
        rw [G.numk_len _ _ (by omega)] at h1' ⊢
        rw [show 8 - (j + 1) + 1 = 8 - j by omega] at h1'
        exact h1', HW.out.2.trans h2'⟩
      refine ⟨⟨j, by omega, rfl, HN⟩, ?_⟩
      simp [intOf]

set_option maxRecDepth 100000 in
set_option maxHeartbeats 2000000 in
theorem rprivate_any (d : List UInt8) (label : ByteArray) (n : Int) (w : World) (hd : d.length = 32) (hl : label.size ≤ 100000) :
    Calls Tryd.prog 45 #[.agg (byts d), .string label, .int .i64 n] w fun e w' => e = .returned (.int .i64 (G.scal G.tagPrivate (d ++ (G.num8 n ++ label.data.toList)) : Nat)) ∧ Below w.heap.size w w' := by
  have HD := Lib.hid hd
  clear hd
  have hcv := fun W => string_conv W label
  have HW0 : Hid (Below w.heap.size w (w.alloc (.cells (byts d) 26)) ∧ Dig (w.alloc (.cells (byts d) 26)) w.heap.size d) := Lib.hid ⟨(Below.refl _ _).alloc (Nat.le_refl _) _, Dig.new w HD.out⟩
  go_enter Tryd.func45, Tryd.ntmps45
  go_upto_region 1 with (fail)
  generalize w.alloc (.cells (byts d) 26) = W at HW0 ⊢
  go_wp2_with (at_builtin; refine wpl_cat rfl _ _ rfl w.heap.size _ 0 [] rfl (owns_none w.heap.size W HW0.out.1.size) (some ⟨w.heap.size, 0, none⟩) 32 32 d rfl HD.out ((HW0.out.2.alloc _).bytes) (by decide) (by have := HW0.out.1.size; simp; omega) ?_; intro v1 w1 h1 h2; have HC := Lib.hid (And.intro h1 ((HW0.out.1.alloc HW0.out.1.size _).trans (h2.below (by have := HW0.out.1.size; simp; omega)))); clear h1 h2)
  refine (rbytes_any n _).mono ?_
  rintro e w2 ⟨v2, rfl, ho2, hb2⟩
  obtain ⟨A2, c2, rfl, _, _, hby2⟩ := owns_bytesAt ho2
  have HO : Hid (w2.ownsRow w.heap.size 5 1 v1 (0 + 32) (bytes ([] ++ d))) := Lib.hid (owns_kept HC.out.1 hb2)
  have HW2 : Hid (Below w.heap.size w w2) := Lib.hid (HC.out.2.trans (hb2.mono HC.out.2.size))
  have HY := Lib.hid hby2
  clear ho2 hb2 hby2 HC HW0
  rw [G.num8_len]
  have HS : Hid (∀ V v, Below w.heap.size w V → V.ownsRow w.heap.size 5 1 v (0 + 32 + 8 + label.size) (bytes ((([] ++ d) ++ G.num8 n) ++ label.data.toList)) → Calls Tryd.prog 37 #[.string ⟨#[112, 114, 105, 118, 97, 116, 101]⟩, v] V fun e w' => e = .returned (.int .i64 (G.scal G.tagPrivate (d ++ (G.num8 n ++ label.data.toList)) : Nat)) ∧ Hid (Below w.heap.size w w')) := Lib.hid (fun V v hV ho => by
    obtain ⟨A, c, rfl, hc, _, hby⟩ := owns_bytesAt ho
    refine (rscalar_any ⟨#[112, 114, 105, 118, 97, 116, 101]⟩ A (0 + 32 + 8 + label.size) c ((([] ++ d) ++ G.num8 n) ++ label.data.toList) V (by decide) (by simp [HD.out, G.num8_len]; omega) (by omega) hby).mono ?_
    rintro e w' ⟨rfl, hb⟩
    exact ⟨by rw [List.nil_append, List.append_assoc]; rfl, Lib.hid (hV.trans (hb.mono hV.size))⟩)
  go_wp2_with (first
    | (at_builtin; refine wpl_cat rfl _ _ rfl w.heap.size _ (0 + 32) ([] ++ d) rfl HO.out A2 8 c2 (G.num8 n) rfl (G.num8_len n) HY.out (by decide) HW2.out.size ?_; intro v3 w3 h1 h2; have HE := Lib.hid (And.intro h1 (HW2.out.trans (h2.below HW2.out.size))); clear h1 h2)
    | (at_builtin; refine wpl_cat rfl _ _ rfl w.heap.size _ (0 + 32 + 8) (([] ++ d) ++ G.num8 n) rfl (owns_kept HE.out.1 ((Below.refl _ _).drew.alloc (Nat.le_refl _) _)) (some ⟨w3.heap.size, 0, none⟩) label.size _ label.data.toList rfl (str_len label) (string_row w3.drew label _ _) (by omega) (by have := HE.out.2.size; simp; omega) ?_; intro v4 w4 h1 h2; have HF := Lib.hid (And.intro h1 (((HE.out.2.drew.alloc HE.out.2.size _)).trans (h2.below (by have := HE.out.2.size; simp; omega)))); clear h1 h2)
    | (go_at_call 37; (with_reducible refine (HS.out _ _ HF.out.2 HF.out.1).mono ?_); rintro e w5 ⟨rfl, HX⟩))
  go_ret
  exact ⟨rfl, HX.out⟩

end Go.Proofs.YtogedlfpgoicfaaDoor
