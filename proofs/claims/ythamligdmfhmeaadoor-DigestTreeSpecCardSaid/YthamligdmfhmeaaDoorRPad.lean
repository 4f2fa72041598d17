/- Contract of the reference's padded. -/
import Derived.Test.YthamligdmfhmeaaDoorPad
namespace Go.Proofs.YthamligdmfhmeaaDoor
open Go.RowKit

/-- The length of a slice. -/
def lenOf : Value → Nat
  | .slice _ l _ => l
  | _ => 0
theorem H.padn_zero (n : Nat) : H.padn n 0 = 128 :: List.replicate (63 - (n + 8) % 64) 0 := rfl

set_option maxRecDepth 100000 in
set_option maxHeartbeats 4000000 in
theorem rpadded_any (a : Option Addr) (n cap : Nat) (bs : List UInt8) (w : World) (hn : bs.length = n) (hl : n ≤ 549755813888) (hb : BytesAt w a bs) :
    Calls Tryd.prog 45 #[.slice a n cap] w (Made (bs ++ H.pad n) w) := by
  have HE : Hid ((w.alloc (.cells #[] 5)).ownsRow w.heap.size 5 1 (.slice (some ⟨w.heap.size, 0, none⟩) 0 0) 0 (bytes [])) :=
    Lib.hid ⟨rfl, .inr ⟨w.heap.size, 0, #[], rfl, Nat.le_refl _, heap_alloc_new w _, Nat.le_refl _, by decide, rfl, rfl⟩⟩
  have HB : Hid (BytesAt (w.alloc (.cells #[] 5)) a bs) := Lib.hid (hb.kept ((Below.refl _ _).alloc (Nat.le_refl _) _))
  have HN := Lib.hid hn
  clear hb hn
  go_enter Tryd.func45, Tryd.ntmps45
  go_wp2_with (at_builtin; first
    | (refine wpl_cat rfl _ _ rfl w.heap.size _ 0 [] rfl HE.out a n cap bs rfl HN.out HB.out (by omega) (by simp) ?_; intro v1 w1 ho1 hk1; rw [List.nil_append, Nat.zero_add] at ho1; have HP := Lib.hid (And.intro ho1 (((Keeps.refl w.heap.size w).alloc _).trans hk1)); clear ho1 hk1)
    | (refine wpl_push rfl _ _ rfl w.heap.size _ _ _ rfl HP.out.1 128 rfl (by decide) (by decide) (by omega) HP.out.2.size ?_; intro v2 w2 ho2 hk2; have HQ := Lib.hid (And.intro ho2 (HP.out.2.trans hk2)); clear ho2 hk2 HP))
  obtain ⟨Z, hZ⟩ : ∃ Z, 63 - (n + 8) % 64 = Z := ⟨_, rfl⟩
  have HZ := Lib.hid hZ
  go_loopw [3] (fun vv wr => ∃ z : Nat, z ≤ Z ∧ Hid (wr.ownsRow w.heap.size 5 1 vv (n + 1 + z) (bytes (bs ++ 128 :: List.replicate z 0)) ∧ Keeps w.heap.size w wr))
    (fun vv _ => n + 64 - lenOf vv)
  case atStart => exact ⟨0, Nat.zero_le _, HQ⟩
  case round =>
    obtain ⟨z, hz, HW⟩ := hrel
    obtain ⟨a', c', rfl, hc', hl', _⟩ := owns_bytesAt HW.out.1
    clear hl'
    by_cases hlt : z < Z
    · have ht : (((n + 1 + z : Nat) : Int) % 64 == 56) = false := by
        rw [beq_eq_false_iff_ne]; omega
      have hm : n + 1 + z ≤ n + 63 := by omega
      have hzz : Hid (z < Z) := Lib.hid hlt
      have hmu : Hid (n + 1 + (z + 1) = n + 1 + z + 1) := Lib.hid rfl
      obtain ⟨m, hmm⟩ : ∃ m, n + 1 + z = m := ⟨_, rfl⟩
      rw [hmm] at HW ht hm hmu hc'
      rw [hmm]
      have HM := Lib.hid hmm
      clear hmm hz hlt hZ
      go_wp2_with (at_builtin; refine wpl_push rfl _ _ rfl w.heap.size _ _ _ rfl HW.out.1 0 rfl (by decide) (by decide) (by omega) HW.out.2.size ?_; intro v' w' h1' h2'; have HN2 := Lib.hid (And.intro h1' (HW.out.2.trans h2')); clear h1' h2')
      obtain ⟨a2, c2, rfl, _, _, _⟩ := owns_bytesAt HN2.out.1
      go_roundw
      case rel =>
        refine ⟨z + 1, hzz.out, ?_⟩
        rw [hmu.out]
        have h := HN2.out
        refine Lib.hid ⟨?_, h.2⟩
        have e : bs ++ 128 :: List.replicate (z + 1) 0 = bs ++ 128 :: List.replicate z 0 ++ [UInt8.ofNat (Int.toNat 0)] := by
          rw [List.append_assoc, List.cons_append, List.replicate_succ']; rfl
        rw [e]
        exact h.1
      case measure => simp [lenOf]; omega
    · have hzZ : z = Z := by omega
      have ht : (((n + 1 + z : Nat) : Int) % 64 == 56) = true := by
        rw [beq_iff_eq]; omega
      have H0 : Hid (wr.ownsRow w.heap.size 5 1 (.slice a' (n + 1 + z) c') (n + (H.padn n 0).length) (bytes (bs ++ H.padn n 0)) ∧ Keeps w.heap.size w wr) := Lib.hid (by
        have h := HW.out
        rw [hzZ] at h ⊢
        rw [H.padn_zero, HZ.out]
        refine ⟨?_, h.2⟩
        have e : n + (128 :: List.replicate Z (0 : UInt8)).length = n + 1 + Z := by simp; omega
        rw [e]; exact h.1)
      clear HW hzZ hlt hz hZ HE HB HQ
      obtain ⟨m, hmm⟩ : ∃ m, n + 1 + z = m := ⟨_, rfl⟩
      rw [hmm] at H0 ht hc'
      rw [hmm]
      clear hmm
      go_wp2_with fail
      clear ht
      generalize (((m : Nat) : Int) % 64 != 56) = bb
      go_loopw [3, 5] (fun vv ii wr => ∃ k : Nat, k ≤ 8 ∧ ii = .int .i64 (7 - (k : Int)) ∧ Hid (wr.ownsRow w.heap.size 5 1 vv (n + (H.padn n k).length) (bytes (bs ++ H.padn n k)) ∧ Keeps w.heap.size w wr))
        (fun _ ii _ => (intOf ii + 1).toNat)
      case atStart => exact ⟨0, Nat.zero_le _, rfl, H0⟩
      case round =>
        obtain ⟨k, hk, rfl, HW⟩ := hrel
        clear H0
        by_cases hlt : k < 8
        · have hl := H.padn_len n k
          have HM : Hid (∀ (v' : Value) (w' : World), w'.ownsRow w.heap.size 5 1 v' (n + (H.padn n k).length + 1) (bytes (bs ++ H.padn n k ++ [UInt8.ofNat ((n : Int) * 8 / 2 ^ (8 * (7 - k)) % 256).toNat])) → w'.ownsRow w.heap.size 5 1 v' (n + (H.padn n (k + 1)).length) (bytes (bs ++ H.padn n (k + 1)))) := Lib.hid (fun v' w' h => by
            have e : ((n : Int) * 8 / 2 ^ (8 * (7 - k)) % 256).toNat = n * 8 / 2 ^ (8 * (7 - k)) % 256 := by
              have : ((n : Int) * 8 / 2 ^ (8 * (7 - k)) % 256) = ((n * 8 / 2 ^ (8 * (7 - k)) % 256 : Nat) : Int) := by simp
              rw [this]; rfl
            rw [e] at h
            rw [H.padn, List.length_append, ← List.append_assoc]; exact h)
          have hml : n + (H.padn n k).length ≤ 1099511627776 := by omega
          have HL := Lib.hid hml
          clear hl hml
          go_wp2_with (at_builtin; refine wpl_push rfl _ _ rfl w.heap.size _ _ _ rfl HW.out.1 _ rfl (Int.emod_nonneg _ (by decide)) (Int.emod_lt_of_pos _ (by decide)) (by have := HL.out; omega) HW.out.2.size ?_; intro v' w' h1' h2'; have HN2 := Lib.hid (And.intro (HM.out v' w' h1') (HW.out.2.trans h2')); clear h1' h2')
          go_roundw
          case rel => exact ⟨k + 1, by omega, by go_num, HN2⟩
          case measure => simp [intOf]; omega
        · have hk8 : k = 8 := by omega
          rw [hk8] at HW ⊢
          clear hk8
          go_wp2_with fail
          go_ret
          refine ⟨_, rfl, ?_, HW.out.2.below (Nat.le_refl _)⟩
          have h := HW.out.1
          rw [List.length_append, HN.out]
          exact h

end Go.Proofs.YthamligdmfhmeaaDoor
