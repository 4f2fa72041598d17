/- Contracts of sign's functions. -/
import Derived.Test.YtogedlfpgoicfaaDoorSOps
import Derived.Test.YtogedlfpgoicfaaDoorSKey
namespace Go.Proofs.YtogedlfpgoicfaaDoor
open Go.RowKit

set_option maxRecDepth 100000 in
set_option maxHeartbeats 1000000 in
theorem nonce_any (x : Int) (a : Option Addr) (n cap : Nat) (bs : List UInt8) (w : World) (hK : KT w) (hn : bs.length = n) (hl : n ≤ 100000) (hb : BytesAt w a bs) :
    Calls Tryd.prog 86 #[.int .i64 x, .slice a n cap] w fun e w' => e = .returned (.int .i64 (G.nonc x bs : Nat)) ∧ Below w.heap.size w w' := by
  have HK := Lib.hid hK; have HB := Lib.hid hb; have HN := Lib.hid hn
  clear hK hb hn
  go_enter Tryd.func86, Tryd.ntmps86
  go_wp2_with fail
  refine (number_any x _).mono ?_
  rintro e w1 ⟨rfl, hby, hb1⟩
  have HW : Hid (Below w.heap.size w w1) := Lib.hid hb1
  have HC : Hid (∀ A C : Option Addr, BytesAt w1 A (G.num8 x) → BytesAt w1 C bs → Calls Tryd.prog 90 #[.string ⟨#[110, 111, 110, 99, 101]⟩, .slice (some ⟨w1.heap.size, 0, none⟩) 2 2] (w1.alloc (.cells #[.slice A 8 8, .slice C n cap] 22)) fun e w' => e = .returned (.int .i64 (G.nonc x bs : Nat)) ∧ Below w1.heap.size w1 w') := Lib.hid fun A C h1 h2 => by
    have hk1 := HK.out.kept HW.out HK.out.pos
    refine (sscalar_any ⟨#[110, 111, 110, 99, 101]⟩ _ (8 + n) (G.num8 x ++ bs) _ w1 (by decide) (by rw [List.length_append, G.num8_len, HN.out]) (by omega) (Lib.hid (concat2_any A C 8 n 8 cap (G.num8 x) bs w1 h1 h2 (G.num8_len x) HN.out (by omega))) hk1).mono ?_
    rintro e w' ⟨rfl, hb⟩
    exact ⟨rfl, hb⟩
  have HS := Lib.hid (HC.out _ _ hby (HB.out.kept HW.out))
  clear hby hb1 HC HB HK
  go_wp2_with (go_at_call 90; (with_reducible refine HS.out.mono ?_); rintro e w2 ⟨rfl, hb2⟩; have HZ := Lib.hid (HW.out.trans (hb2.mono HW.out.size)); clear hb2)
  go_ret
  exact ⟨rfl, HZ.out⟩

set_option maxRecDepth 100000 in
set_option maxHeartbeats 1000000 in
theorem challenge_any (pub r : Int) (a : Option Addr) (n cap : Nat) (bs : List UInt8) (w : World) (hK : KT w) (hn : bs.length = n) (hl : n ≤ 100000) (hb : BytesAt w a bs) :
    Calls Tryd.prog 87 #[.int .i64 pub, .int .i64 r, .slice a n cap] w fun e w' => e = .returned (.int .i64 (G.chal pub r bs : Nat)) ∧ Below w.heap.size w w' := by
  have HK := Lib.hid hK; have HB := Lib.hid hb; have HN := Lib.hid hn
  clear hK hb hn
  go_enter Tryd.func87, Tryd.ntmps87
  go_wp2_with fail
  refine (number_any r _).mono ?_
  rintro e w1 ⟨rfl, hby1, hb1⟩
  have HW1 : Hid (Below w.heap.size w w1) := Lib.hid hb1
  have HY1 := Lib.hid hby1
  clear hby1 hb1
  go_wp2_with fail
  refine (number_any pub _).mono ?_
  rintro e w2 ⟨rfl, hby2, hb2⟩
  have HW : Hid (Below w.heap.size w w2) := Lib.hid (HW1.out.trans (hb2.mono HW1.out.size))
  have HC : Hid (∀ A B C : Option Addr, BytesAt w2 A (G.num8 r) → BytesAt w2 B (G.num8 pub) → BytesAt w2 C bs → Calls Tryd.prog 90 #[.string ⟨#[115, 105, 103, 110]⟩, .slice (some ⟨w2.heap.size, 0, none⟩) 3 3] (w2.alloc (.cells #[.slice A 8 8, .slice B 8 8, .slice C n cap] 22)) fun e w' => e = .returned (.int .i64 (G.chal pub r bs : Nat)) ∧ Below w2.heap.size w2 w') := Lib.hid fun A B C h1 h2 h3 => by
    have hk1 := HK.out.kept HW.out HK.out.pos
    refine (sscalar_any ⟨#[115, 105, 103, 110]⟩ _ (8 + 8 + n) (G.num8 r ++ (G.num8 pub ++ bs)) _ w2 (by decide) (by rw [List.length_append, List.length_append, G.num8_len, G.num8_len, HN.out]; omega) (by omega) (Lib.hid (concat3_any A B C 8 8 n 8 8 cap (G.num8 r) (G.num8 pub) bs w2 h1 h2 h3 (G.num8_len r) (G.num8_len pub) HN.out (by omega))) hk1).mono ?_
    rintro e w' ⟨rfl, hb⟩
    exact ⟨rfl, hb⟩
  have HS := Lib.hid (HC.out _ _ _ (HY1.out.kept hb2) hby2 (HB.out.kept HW.out))
  clear hby2 hb2 HC HB HK HY1
  go_wp2_with (go_at_call 90; (with_reducible refine HS.out.mono ?_); rintro e w3 ⟨rfl, hb3⟩; have HZ := Lib.hid (HW.out.trans (hb3.mono HW.out.size)); clear hb3)
  go_ret
  exact ⟨rfl, HZ.out⟩

set_option maxRecDepth 100000 in
set_option maxHeartbeats 1000000 in
theorem public_ok (x z : Nat) (w : World) (h1 : 1 ≤ x) (h2 : x < 2305843009213688669) (HZ : Hid (z = G.pw 4 x)) :
    Calls Tryd.prog 40 #[.int .i64 x] w fun e w' => e = .returned (.tuple #[.int .i64 z, .int .i64 0]) ∧ Below w.heap.size w w' := by
  have HV : Hid (∀ W : World, Calls Tryd.prog 83 #[.int .i64 x] W fun e w' => e = .returned (.bool true) ∧ Below W.heap.size W w') := Lib.hid fun W => by
    have h := valid_any x W
    rw [show (decide ((1 : Int) ≤ x) && decide ((x : Int) < 2305843009213688669)) = true by rw [Bool.and_eq_true, decide_eq_true_iff, decide_eq_true_iff]; omega] at h
    exact h
  have HB : Hid (∀ W : World, Calls Tryd.prog 49 #[.int .i64 x] W fun e w' => e = .returned (.tuple #[.int .i64 z, .int .i64 0]) ∧ Below W.heap.size W w') := Lib.hid fun W => base_ok x z W h2 HZ
  clear h1 h2
  go_enter Tryd.func40, Tryd.ntmps40
  go_wp2_with fail
  refine (HV.out _).mono ?_
  rintro e w1 ⟨rfl, hb1⟩
  have HW := Lib.hid hb1
  clear hb1
  go_wp2_with (go_at_call 49; (with_reducible refine (HB.out _).mono ?_); rintro e w2 ⟨rfl, hb2⟩; have HW2 := Lib.hid (HW.out.trans (hb2.mono HW.out.size)); clear hb2)
  go_ret2
  exact ⟨rfl, HW2.out⟩

set_option maxRecDepth 100000 in
set_option maxHeartbeats 1000000 in
theorem public_no (x : Int) (w : World) (h : (decide (1 ≤ x) && decide (x < 2305843009213688669)) = false) :
    Calls Tryd.prog 40 #[.int .i64 x] w fun e w' => e = .returned (.tuple #[.int .i64 0, .int .i64 40]) ∧ Below w.heap.size w w' := by
  have HV : Hid (∀ W : World, Calls Tryd.prog 83 #[.int .i64 x] W fun e w' => e = .returned (.bool false) ∧ Below W.heap.size W w') := Lib.hid fun W => by
    have h' := valid_any x W
    rw [h] at h'
    exact h'
  clear h
  go_enter Tryd.func40, Tryd.ntmps40
  go_wp2_with fail
  refine (HV.out _).mono ?_
  rintro e w1 ⟨rfl, hb1⟩
  have HW := Lib.hid hb1
  clear hb1
  go_wp2_with fail
  go_ret2
  exact ⟨rfl, HW.out⟩

end Go.Proofs.YtogedlfpgoicfaaDoor
