/- Contracts of the reference's Rest, Scalar, Sum and Product. -/
import Derived.Test.YtogedlfpgoicfaaDoorSMath
import Derived.Test.YtogedlfpgoicfaaDoorGRef
import Derived.Test.YtogedlfpgoicfaaDoorRTagged
namespace Go.Proofs.YtogedlfpgoicfaaDoor
open Go.RowKit

theorem RS.sc_nat {k : Int} (h : G.sc k = true) : ∃ n : Nat, k = n ∧ n < 2305843009213688669 := by
  unfold G.sc at h
  rw [decide_eq_true_iff] at h
  exact ⟨k.toNat, by omega, by omega⟩

set_option maxRecDepth 100000 in
set_option maxHeartbeats 2000000 in
theorem rrest_any (d : List UInt8) (m z : Nat) (w : World) (hd : d.length = 32) (hm1 : 1000 ≤ m) (hm2 : m < 4611686018427387904) (HZ : Hid (z = G.rest m d)) :
    Calls Tryd.prog 82 #[.agg (byts d), .int .i64 m] w fun e w' => e = .returned (.int .i64 z) ∧ Below w.heap.size w w' := by
  have HD := Lib.hid hd
  clear hd
  go_enter Tryd.func82, Tryd.ntmps82
  go_wp2_with fail
  have HW : Hid (Dig (w.alloc (.cells (byts d) 26)) w.heap.size d ∧ Below w.heap.size w (w.alloc (.cells (byts d) 26))) := Lib.hid ⟨Dig.new w HD.out, (Below.refl _ _).alloc (Nat.le_refl _) _⟩
  generalize w.alloc (.cells (byts d) 26) = W at HW ⊢
  go_loopw [5, 6] (fun nn ii wr => ∃ i : Nat, i ≤ 32 ∧ ii = .int .i64 i ∧ nn = .int .i64 (G.rest m (d.take i) : Nat) ∧ Hid (Below W.heap.size W wr)) (fun _ ii _ => 32 - (intOf ii).toNat)
  case atStart => exact ⟨0, Nat.zero_le _, rfl, rfl, Lib.hid (Below.refl _ _)⟩
  case round =>
    obtain ⟨i, hi, rfl, rfl, HR⟩ := hrel
    by_cases hlt : i < 32
    · have q1 : decide ((i : Int) < 32) = true := by rw [decide_eq_true_iff]; omega
      obtain ⟨cx, fx⟩ := byts_cell (HW.out.1.kept HR.out HW.out.1.lt).1 (i := i) (by rw [HD.out]; exact hlt)
      have hxl := H.byte_lt d i
      obtain ⟨x, hx⟩ : ∃ x, x = H.byte d i := ⟨_, rfl⟩
      rw [← hx] at cx hxl
      have hsn : G.rest m (d.take (i + 1)) = (256 * G.rest m (d.take i) % m + x) % m := by
        rw [List.take_succ_eq_append_getElem (by rw [HD.out]; exact hlt), G.rest_snoc, hx, H.byte, Nat.mul_comm 256]
        simp [HD.out, hlt]
      have hrl := G.rest_lt m (by omega) (d.take i)
      obtain ⟨r, hr⟩ : ∃ r, r = G.rest m (d.take i) := ⟨_, rfl⟩
      rw [← hr] at hsn hrl
      rw [← hr]
      obtain ⟨p, hp⟩ : ∃ p, p = 256 * r % m := ⟨_, rfl⟩
      have hpl : p < m := by rw [hp]; exact Nat.mod_lt _ (by omega)
      rw [← hp] at hsn
      have HM : Hid (∀ W : World, Calls Tryd.prog 80 #[.int .i64 256, .int .i64 r, .int .i64 m] W fun e w' => e = .returned (.int .i64 p) ∧ W = w') := Lib.hid fun W => modular_any 256 r m p W (by omega) (by omega) hm2 (Lib.hid hp)
      obtain ⟨s, hs⟩ : ∃ s, s = p + x := ⟨_, rfl⟩
      obtain ⟨y, hy⟩ : ∃ y, y = G.rest m (d.take (i + 1)) := ⟨_, rfl⟩
      have e1 : (p : Int) + (x : Int) = (s : Int) := by omega
      have e2 : (s : Int) % (m : Int) = (y : Int) := by rw [hy, hsn, ← hs]; exact (Int.natCast_emod s m).symm
      have e3 : (s : Int).tmod (m : Int) = (y : Int) := by rw [Int.tmod_eq_emod_of_nonneg (by omega), e2]
      have hm0 : ((m : Int) == 0) = false := by simp; omega
      have v4 : IntKind.i64.wrap (s : Int) = (s : Int) := by rw [IntKind.wrap_i64]; omega
      have v5 : IntKind.i64.wrap (x : Int) = (x : Int) := by rw [IntKind.wrap_i64]; omega
      have v6 : IntKind.i64.wrap ((p : Int) + (x : Int)) = (s : Int) := by rw [IntKind.wrap_i64]; omega
      have HY := Lib.hid hy
      have b0 : (0 : Int) ≤ (i : Int) := by omega
      have b1 : (i : Int) < 32 := by omega
      have b2 : ¬ (m : Int) = 0 := by omega
      have b3 : ¬ m = 0 := by omega
      clear hx hsn hr hp hs hy hrl hpl
      go_wp2_with fail
      go_region_held3 (fun w' => w'.cell? ⟨w.heap.size, i, none⟩ = some (.int .u8 x)) (exact cx)
        (first
          | (go_at_call 80; refine (HM.out _).mono ?_; rintro e w' ⟨rfl, rfl⟩))
      all_goals
        go_wp2_with fail
        refine ⟨⟨i + 1, by omega, by go_num, by rw [HY.out], Lib.hid HR.out.drew⟩, ?_⟩
        simp [intOf]; omega
    · obtain rfl : i = 32 := by omega
      have hz : z = G.rest m (d.take 32) := by rw [HZ.out, List.take_of_length_le (by rw [HD.out]; exact Nat.le_refl _)]
      rw [← hz]
      clear hz hlt hi
      go_wp2_with fail
      go_ret
      exact ⟨rfl, HW.out.2.trans (HR.out.mono HW.out.2.size)⟩

set_option maxRecDepth 100000 in
set_option maxHeartbeats 1000000 in
theorem rscalar_any (tag : ByteArray) (a : Option Addr) (n cap : Nat) (bs : List UInt8) (w : World) (ht : tag.size ≤ 274877906944) (hn : bs.length = n) (hl : n ≤ 274877906944) (hb : BytesAt w a bs) :
    Calls Tryd.prog 37 #[.string tag, .slice a n cap] w fun e w' => e = .returned (.int .i64 (G.scal tag.data.toList bs : Nat)) ∧ Below w.heap.size w w' := by
  have HT := Lib.hid (rtagged_any tag a n cap bs w ht hn hl hb)
  have hlen := H.tagged_len tag.data.toList bs
  obtain ⟨z, hz⟩ : ∃ z, z = G.scal tag.data.toList bs := ⟨_, rfl⟩
  have hz2 : z = 1 + G.rest 2305843009213688668 (H.tagged tag.data.toList bs) := hz
  rw [← hz]
  obtain ⟨d, hd⟩ : ∃ d, d = H.tagged tag.data.toList bs := ⟨_, rfl⟩
  rw [← hd] at hlen HT hz2
  have hrl := G.rest_lt 2305843009213688668 (by decide) d
  obtain ⟨r, hr⟩ : ∃ r, r = G.rest 2305843009213688668 d := ⟨_, rfl⟩
  have HR : Hid (∀ W : World, Calls Tryd.prog 82 #[.agg (byts d), .int .i64 2305843009213688668] W fun e w' => e = .returned (.int .i64 r) ∧ Below W.heap.size W w') := Lib.hid fun W => rrest_any d 2305843009213688668 r W hlen (by decide) (by decide) (Lib.hid hr)
  rw [← hr] at hrl hz2
  have e1 : 1 + (r : Int) = (z : Int) := by omega
  clear hd hlen hr hz hz2 ht hn hl hb
  go_enter Tryd.func37, Tryd.ntmps37
  go_wp2_with fail
  refine HT.out.mono ?_
  rintro e w1 ⟨rfl, hb1⟩
  have HB := Lib.hid hb1
  clear hb1
  go_wp2_with (go_at_call 82; (with_reducible refine (HR.out _).mono ?_); rintro e w2 ⟨rfl, hb2⟩; have HB2 := Lib.hid (HB.out.trans (hb2.mono HB.out.size)); clear hb2)
  go_ret
  exact ⟨rfl, HB2.out⟩

set_option maxRecDepth 100000 in
set_option maxHeartbeats 1000000 in
theorem risc_any (k : Int) (w : World) :
    Calls Tryd.prog 77 #[.int .i64 k] w fun e w' => e = .returned (.bool (G.sc k)) ∧ w = w' := by
  by_cases h1 : 0 ≤ k
  · have q1 : decide (0 ≤ k) = true := decide_eq_true h1
    by_cases h2 : k < 2305843009213688669
    · have q2 : decide (k < 2305843009213688669) = true := decide_eq_true h2
      have HS : Hid (G.sc k = true) := Lib.hid (by unfold G.sc; simp; omega)
      rw [HS.out]
      clear h1 h2
      go_enter Tryd.func77, Tryd.ntmps77
      go_wp2
      go_ret
      exact ⟨rfl, rfl⟩
    · have q2 : decide (k < 2305843009213688669) = false := decide_eq_false h2
      have HS : Hid (G.sc k = false) := Lib.hid (by unfold G.sc; simp; omega)
      rw [HS.out]
      clear h1 h2
      go_enter Tryd.func77, Tryd.ntmps77
      go_wp2
      go_ret
      exact ⟨rfl, rfl⟩
  · have q1 : decide (0 ≤ k) = false := decide_eq_false h1
    have HS : Hid (G.sc k = false) := Lib.hid (by unfold G.sc; simp; omega)
    rw [HS.out]
    clear h1
    go_enter Tryd.func77, Tryd.ntmps77
    go_wp2
    go_ret
    exact ⟨rfl, rfl⟩

set_option maxRecDepth 100000 in
set_option maxHeartbeats 1000000 in
theorem rsum_gen (a b : Int) : ∃ z e : Int, (∀ W : World, Calls Tryd.prog 33 #[.int .i64 a, .int .i64 b] W fun x w' => x = .returned (.tuple #[.int .i64 z, .int .i64 e]) ∧ W = w') ∧
    (∀ W : World, Calls Tryd.prog 32 #[.int .i64 a, .int .i64 b] W fun x w' => x = .returned (.tuple #[.int .i64 z, .int .i64 e]) ∧ Below W.heap.size W w') := by
  cases ha : G.sc a with
  | false =>
    refine ⟨0, 1, fun W => ?_, fun W => sum_no a b W (Lib.hid (by rw [ha]; rfl))⟩
    have HA : Hid (∀ W : World, Calls Tryd.prog 77 #[.int .i64 a] W fun e w' => e = .returned (.bool false) ∧ W = w') := Lib.hid fun W => by rw [← ha]; exact risc_any a W
    go_enter Tryd.func33, Tryd.ntmps33
    go_wp2_with (go_at_call 77; (with_reducible refine (HA.out _).mono ?_); rintro e w' ⟨rfl, rfl⟩)
    go_ret2
    exact ⟨rfl, rfl⟩
  | true =>
    have HA : Hid (∀ W : World, Calls Tryd.prog 77 #[.int .i64 a] W fun e w' => e = .returned (.bool true) ∧ W = w') := Lib.hid fun W => by rw [← ha]; exact risc_any a W
    cases hb : G.sc b with
    | false =>
      refine ⟨0, 1, fun W => ?_, fun W => sum_no a b W (Lib.hid (by rw [hb, Bool.and_false]))⟩
      have HB : Hid (∀ W : World, Calls Tryd.prog 77 #[.int .i64 b] W fun e w' => e = .returned (.bool false) ∧ W = w') := Lib.hid fun W => by rw [← hb]; exact risc_any b W
      clear ha hb
      go_enter Tryd.func33, Tryd.ntmps33
      go_wp2_with (first | (go_at_call 77; (with_reducible refine (HA.out _).mono ?_); rintro e w' ⟨rfl, rfl⟩) | (go_at_call 77; (with_reducible refine (HB.out _).mono ?_); rintro e w' ⟨rfl, rfl⟩))
      go_ret2
      exact ⟨rfl, rfl⟩
    | true =>
      obtain ⟨n, rfl, hn⟩ := RS.sc_nat ha
      obtain ⟨m, rfl, hm⟩ := RS.sc_nat hb
      refine ⟨_, 0, fun W => ?_, fun W => sum_ok n m _ W hn hm (Lib.hid rfl)⟩
      have HB : Hid (∀ W : World, Calls Tryd.prog 77 #[.int .i64 m] W fun e w' => e = .returned (.bool true) ∧ W = w') := Lib.hid fun W => by rw [← hb]; exact risc_any m W
      have HS : Hid (∀ W : World, Calls Tryd.prog 78 #[.int .i64 n, .int .i64 m, .int .i64 2305843009213688669] W fun e w' => e = .returned (.int .i64 ((n + m) % 2305843009213688669 : Nat)) ∧ W = w') := Lib.hid fun W => rsum_any n m 2305843009213688669 _ W hn hm (by decide) (Lib.hid rfl)
      obtain ⟨z, hz⟩ : ∃ z, z = (n + m) % 2305843009213688669 := ⟨_, rfl⟩
      rw [← hz] at HS
      rw [← hz]
      clear ha hb hz hn hm
      go_enter Tryd.func33, Tryd.ntmps33
      go_wp2_with (first | (go_at_call 77; (with_reducible refine (HA.out _).mono ?_); rintro e w' ⟨rfl, rfl⟩) | (go_at_call 77; (with_reducible refine (HB.out _).mono ?_); rintro e w' ⟨rfl, rfl⟩) | (go_at_call 78; (with_reducible refine (HS.out _).mono ?_); rintro e w' ⟨rfl, rfl⟩))
      go_ret2
      exact ⟨rfl, rfl⟩

set_option maxRecDepth 100000 in
set_option maxHeartbeats 1000000 in
theorem rprod_gen (a b : Int) : ∃ z e : Int, (∀ W : World, Calls Tryd.prog 35 #[.int .i64 a, .int .i64 b] W fun x w' => x = .returned (.tuple #[.int .i64 z, .int .i64 e]) ∧ W = w') ∧
    (∀ W : World, Calls Tryd.prog 34 #[.int .i64 a, .int .i64 b] W fun x w' => x = .returned (.tuple #[.int .i64 z, .int .i64 e]) ∧ Below W.heap.size W w') := by
  cases ha : G.sc a with
  | false =>
    refine ⟨0, 1, fun W => ?_, fun W => prod_no a b W (Lib.hid (by rw [ha]; rfl))⟩
    have HA : Hid (∀ W : World, Calls Tryd.prog 77 #[.int .i64 a] W fun e w' => e = .returned (.bool false) ∧ W = w') := Lib.hid fun W => by rw [← ha]; exact risc_any a W
    go_enter Tryd.func35, Tryd.ntmps35
    go_wp2_with (go_at_call 77; (with_reducible refine (HA.out _).mono ?_); rintro e w' ⟨rfl, rfl⟩)
    go_ret2
    exact ⟨rfl, rfl⟩
  | true =>
    have HA : Hid (∀ W : World, Calls Tryd.prog 77 #[.int .i64 a] W fun e w' => e = .returned (.bool true) ∧ W = w') := Lib.hid fun W => by rw [← ha]; exact risc_any a W
    cases hb : G.sc b with
    | false =>
      refine ⟨0, 1, fun W => ?_, fun W => prod_no a b W (Lib.hid (by rw [hb, Bool.and_false]))⟩
      have HB : Hid (∀ W : World, Calls Tryd.prog 77 #[.int .i64 b] W fun e w' => e = .returned (.bool false) ∧ W = w') := Lib.hid fun W => by rw [← hb]; exact risc_any b W
      clear ha hb
      go_enter Tryd.func35, Tryd.ntmps35
      go_wp2_with (first | (go_at_call 77; (with_reducible refine (HA.out _).mono ?_); rintro e w' ⟨rfl, rfl⟩) | (go_at_call 77; (with_reducible refine (HB.out _).mono ?_); rintro e w' ⟨rfl, rfl⟩))
      go_ret2
      exact ⟨rfl, rfl⟩
    | true =>
      obtain ⟨n, rfl, hn⟩ := RS.sc_nat ha
      obtain ⟨m, rfl, hm⟩ := RS.sc_nat hb
      refine ⟨_, 0, fun W => ?_, fun W => prod_ok n m _ W hn hm (Lib.hid rfl)⟩
      have HB : Hid (∀ W : World, Calls Tryd.prog 77 #[.int .i64 m] W fun e w' => e = .returned (.bool true) ∧ W = w') := Lib.hid fun W => by rw [← hb]; exact risc_any m W
      have HS : Hid (∀ W : World, Calls Tryd.prog 80 #[.int .i64 n, .int .i64 m, .int .i64 2305843009213688669] W fun e w' => e = .returned (.int .i64 (n * m % 2305843009213688669 : Nat)) ∧ W = w') := Lib.hid fun W => modular_any n m 2305843009213688669 _ W hn (by omega) (by decide) (Lib.hid rfl)
      obtain ⟨z, hz⟩ : ∃ z, z = n * m % 2305843009213688669 := ⟨_, rfl⟩
      rw [← hz] at HS
      rw [← hz]
      clear ha hb hz hn hm
      go_enter Tryd.func35, Tryd.ntmps35
      go_wp2_with (first | (go_at_call 77; (with_reducible refine (HA.out _).mono ?_); rintro e w' ⟨rfl, rfl⟩) | (go_at_call 77; (with_reducible refine (HB.out _).mono ?_); rintro e w' ⟨rfl, rfl⟩) | (go_at_call 80; (with_reducible refine (HS.out _).mono ?_); rintro e w' ⟨rfl, rfl⟩))
      go_ret2
      exact ⟨rfl, rfl⟩

end Go.Proofs.YtogedlfpgoicfaaDoor
