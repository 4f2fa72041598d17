/- The law GroupDetermined: the walk. -/
import Derived.Test.YtaamifgneopocaaDoorGScalar
import Derived.Test.YtaamifgneopocaaDoorGSane
namespace Go.Proofs.YtaamifgneopocaaDoor
open Go.RowKit

namespace G
theorem gnot_one {p q a k : Nat} (h2 : 2 ≤ p) (hq : Prime q) (h : a ^ q % p = 1) (h1 : a % p ≠ 1) (hk1 : 1 ≤ k) (hk2 : k < q) : a ^ k % p ≠ 1 := fun e => by
  have hg := pow_gcd h2 q k h e
  rw [hq.coprime (not_dvd_small (by omega) hk2), Nat.pow_one] at hg
  exact h1 hg
theorem base_ne (k : Nat) (h1 : 1 ≤ k) (h2 : k < 2305843009213688669) : pw 4 k ≠ 1 := gnot_one (p := 4611686018427377339) (by decide) primeQ el4.2.2 (by decide) h1 h2
end G

set_option maxRecDepth 100000 in
set_option maxHeartbeats 4000000 in
theorem determined_walk (tag other : ByteArray) (a : Option Addr) (n cap : Nat) (bs : List UInt8) (b : Option Addr) (m cap2 : Nat) (cs : List UInt8) (w : World) (hK : KT w) (hn : bs.length = n) (_ : n ≤ cap) (hb : BytesAt w a bs) (hm : cs.length = m) (_ : m ≤ cap2) (hc : BytesAt w b cs)
    (ht : tag.size ≤ 140737488351232) (ho : other.size ≤ 140737488351232) (hnl : n ≤ 140737488351232) (hml : m ≤ 140737488351232) :
    Calls Tryd.prog 10 #[.string tag, .string other, .slice a n cap, .slice b m cap2] w fun e w' => e = .returned (.bool true) ∧ Below w.heap.size w w' := by
  have HK := Lib.hid hK; have HB := Lib.hid hb; have HC := Lib.hid hc; have HN := Lib.hid hn; have HM := Lib.hid hm
  clear hK hb hc hn hm
  have HS := Lib.hid (gsane_any w)
  by_cases g1 : 300 < tag.size + other.size
  · have q1 : decide ((300 : Int) < (tag.size : Int) + (other.size : Int)) = true := by rw [decide_eq_true_iff]; omega
    go_enter Tryd.func10, Tryd.ntmps10
    go_wp2_with fail
    refine HS.out.mono ?_
    rintro e w1 ⟨rfl, hb1⟩
    have HW := Lib.hid hb1
    clear hb1
    go_wp2_with fail
    go_ret
    exact ⟨rfl, HW.out⟩
  have q1 : decide ((300 : Int) < (tag.size : Int) + (other.size : Int)) = false := by rw [decide_eq_false_iff_not]; omega
  by_cases g2 : 1000 < n + m
  · have q2 : decide ((1000 : Int) < (n : Int) + (m : Int)) = true := by rw [decide_eq_true_iff]; omega
    go_enter Tryd.func10, Tryd.ntmps10
    go_wp2_with fail
    refine HS.out.mono ?_
    rintro e w1 ⟨rfl, hb1⟩
    have HW := Lib.hid hb1
    clear hb1
    go_wp2_with fail
    go_ret
    exact ⟨rfl, HW.out⟩
  have q2 : decide ((1000 : Int) < (n : Int) + (m : Int)) = false := by rw [decide_eq_false_iff_not]; omega
  obtain ⟨d1, hd1⟩ : ∃ d, d = H.tagged tag.data.toList bs := ⟨_, rfl⟩
  obtain ⟨d2, hd2⟩ : ∃ d, d = H.tagged other.data.toList cs := ⟨_, rfl⟩
  have hl1 : d1.length = 32 := by rw [hd1]; exact H.tagged_len _ _
  have hl2 : d2.length = 32 := by rw [hd2]; exact H.tagged_len _ _
  obtain ⟨k, hk⟩ : ∃ k, k = 1 + G.rest 2305843009213688668 d1 := ⟨_, rfl⟩
  obtain ⟨k2, hk2⟩ : ∃ k, k = 1 + G.rest 2305843009213688668 d2 := ⟨_, rfl⟩
  have hr1 := G.rest_lt 2305843009213688668 (by decide) d1
  have hk1l : 1 ≤ k := by omega
  have hkl : k < 2305843009213688669 := by omega
  have S1 : Hid (∀ W, Below w.heap.size w W → Calls Tryd.prog 32 #[.string tag, .slice a n cap] W fun e w' => e = .returned (.int .i64 k) ∧ Below W.heap.size W w') := Lib.hid fun W hW =>
    scalar_any tag a n cap k bs W (HK.out.kept hW HK.out.pos) (by omega) HN.out (by omega) (HB.out.kept hW) (Lib.hid (by rw [hk, hd1]))
  have S2 : Hid (∀ W, Below w.heap.size w W → Calls Tryd.prog 32 #[.string other, .slice b m cap2] W fun e w' => e = .returned (.int .i64 k2) ∧ Below W.heap.size W w') := Lib.hid fun W hW =>
    scalar_any other b m cap2 k2 cs W (HK.out.kept hW HK.out.pos) (by omega) HM.out (by omega) (HC.out.kept hW) (Lib.hid (by rw [hk2, hd2]))
  have T1 : Hid (∀ W, Below w.heap.size w W → Calls Tryd.prog 14 #[.string tag, .slice a n cap] W fun e w' => e = .returned (.agg (byts d1)) ∧ Below W.heap.size W w') := Lib.hid fun W hW => by
    rw [hd1]; exact tagged_any tag a n cap bs W (HK.out.kept hW HK.out.pos) (by omega) HN.out (by omega) (HB.out.kept hW)
  have T2 : Hid (∀ W, Below w.heap.size w W → Calls Tryd.prog 14 #[.string other, .slice b m cap2] W fun e w' => e = .returned (.agg (byts d2)) ∧ Below W.heap.size W w') := Lib.hid fun W hW => by
    rw [hd2]; exact tagged_any other b m cap2 cs W (HK.out.kept hW HK.out.pos) (by omega) HM.out (by omega) (HC.out.kept hW)
  obtain ⟨y, hy⟩ : ∃ y, y = G.pw 4 k := ⟨_, rfl⟩
  have hye : G.El y := by rw [hy]; exact G.el4.pw k
  have hyn : y ≠ 1 := by rw [hy]; exact G.base_ne k hk1l hkl
  have B1 : Hid (∀ W : World, Calls Tryd.prog 34 #[.int .i64 k] W fun e w' => e = .returned (.tuple #[.int .i64 y, .int .i64 0]) ∧ Below W.heap.size W w') := Lib.hid fun W => base_ok k y W hkl (Lib.hid hy)
  have C1 : Hid (∀ W : World, Calls Tryd.prog 35 #[.int .i64 y] W fun e w' => e = .returned (.int .i64 0) ∧ Below W.heap.size W w') := Lib.hid fun W => check_ok y W hye
  have q3 : decide ((k : Int) < 1) = false := by rw [decide_eq_false_iff_not]; omega
  have q4 : decide ((2305843009213688669 : Int) ≤ (k : Int)) = false := by rw [decide_eq_false_iff_not]; omega
  have q5 : ((y : Int) == 1) = false := by simp; omega
  have heg : Tryd.prog.eqGuardType Tryd.prog.depth 26 = false := by kernel_rfl
  by_cases hdd : d1 = d2
  · have hkk : k2 = k := by rw [hk2, hk, hdd]
    subst hdd
    subst hkk
    have hq : ∀ V, (Op.equalIn 10000 26 (.agg (byts d1)) (.agg (byts d1))).run Tryd.prog V = .ok true V := fun V => run_eq_same d1 hl1 V
    clear hd1 hd2 hk hk2 hr1 hk1l hkl hy hye hyn hl1 hl2 HB HC HN HM
    go_enter Tryd.func10, Tryd.ntmps10
    go_wp2_with fail
    refine HS.out.mono ?_
    rintro e w1 ⟨rfl, hb1⟩
    have HW := Lib.hid hb1
    clear hb1
    go_wp2_with (first
      | (go_at_call_of 32 (Value.string tag); (with_reducible refine (S1.out _ HW.out).mono ?_); rintro e wc ⟨rfl, hb⟩; replace HW := below_step HW hb; clear hb)
      | (go_at_call_of 32 (Value.string other); (with_reducible refine (S2.out _ HW.out).mono ?_); rintro e wc ⟨rfl, hb⟩; replace HW := below_step HW hb; clear hb)
      | (go_at_call 34; (with_reducible refine (B1.out _).mono ?_); rintro e wc ⟨rfl, hb⟩; replace HW := below_step HW hb; clear hb)
      | (go_at_call 35; (with_reducible refine (C1.out _).mono ?_); rintro e wc ⟨rfl, hb⟩; replace HW := below_step HW hb; clear hb)
      | (go_at_call_of 14 (Value.string tag); (with_reducible refine (T1.out _ HW.out).mono ?_); rintro e wc ⟨rfl, hb⟩; replace HW := below_step HW hb; clear hb)
      | (go_at_call_of 14 (Value.string other); (with_reducible refine (T2.out _ HW.out).mono ?_); rintro e wc ⟨rfl, hb⟩; replace HW := below_step HW hb; clear hb))
    go_ret
    exact ⟨by simp, HW.out⟩
  · have hq : ∀ V, (Op.equalIn 10000 26 (.agg (byts d1)) (.agg (byts d2))).run Tryd.prog V = .ok false V := fun V => by
      rw [run_eq32 d1 d2 hl1 hl2 V, decide_eq_false hdd]
    clear hd1 hd2 hk hk2 hr1 hk1l hkl hy hye hyn hl1 hl2 HB HC HN HM hdd
    go_enter Tryd.func10, Tryd.ntmps10
    go_wp2_with fail
    refine HS.out.mono ?_
    rintro e w1 ⟨rfl, hb1⟩
    have HW := Lib.hid hb1
    clear hb1
    go_wp2_with (first
      | (go_at_call_of 32 (Value.string tag); (with_reducible refine (S1.out _ HW.out).mono ?_); rintro e wc ⟨rfl, hb⟩; replace HW := below_step HW hb; clear hb)
      | (go_at_call 34; (with_reducible refine (B1.out _).mono ?_); rintro e wc ⟨rfl, hb⟩; replace HW := below_step HW hb; clear hb)
      | (go_at_call 35; (with_reducible refine (C1.out _).mono ?_); rintro e wc ⟨rfl, hb⟩; replace HW := below_step HW hb; clear hb)
      | (go_at_call_of 14 (Value.string tag); (with_reducible refine (T1.out _ HW.out).mono ?_); rintro e wc ⟨rfl, hb⟩; replace HW := below_step HW hb; clear hb)
      | (go_at_call_of 14 (Value.string other); (with_reducible refine (T2.out _ HW.out).mono ?_); rintro e wc ⟨rfl, hb⟩; replace HW := below_step HW hb; clear hb))
    go_ret
    exact ⟨by simp, HW.out⟩

end Go.Proofs.YtaamifgneopocaaDoor
