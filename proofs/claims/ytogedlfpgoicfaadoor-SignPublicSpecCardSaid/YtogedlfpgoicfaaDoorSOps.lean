/- What group's functions refuse; pieces of bytes under a tag. -/
import Derived.Test.YtogedlfpgoicfaaDoorSNum
namespace Go.Proofs.YtogedlfpgoicfaaDoor
open Go.RowKit

namespace G
theorem el_nat {a : Int} (h : el a = true) : ∃ n : Nat, a = n ∧ El n := by
  have h' := h
  unfold el at h'
  rw [Bool.and_eq_true, decide_eq_true_iff] at h'
  obtain ⟨n, rfl⟩ : ∃ n : Nat, a = n := ⟨a.toNat, by omega⟩
  exact ⟨n, rfl, el_iff.1 h⟩
theorem sc_nat' {k : Int} (h : sc k = true) : ∃ n : Nat, k = n ∧ n < 2305843009213688669 := by
  unfold sc at h
  rw [decide_eq_true_iff] at h
  exact ⟨k.toNat, by omega, by omega⟩
theorem el_zero : el 0 = false := by
  have h : decide ((1 : Int) ≤ 0 ∧ (0 : Int) < 4611686018427377339) = false := by decide
  unfold el; rw [h, Bool.false_and]
end G

set_option maxRecDepth 100000 in
set_option maxHeartbeats 1000000 in
theorem exp_not (a k : Int) (w : World) (ha : G.el a = false) :
    Calls Tryd.prog 50 #[.int .i64 a, .int .i64 k] w fun e w' => e = .returned (.tuple #[.int .i64 0, .int .i64 30]) ∧ Below w.heap.size w w' := by
  have HC : Hid (∀ W : World, Calls Tryd.prog 48 #[.int .i64 a] W fun e w' => e = .returned (.int .i64 30) ∧ Below W.heap.size W w') := Lib.hid fun W => check_no a W ha
  clear ha
  go_enter Tryd.func50, Tryd.ntmps50
  go_wp2_with fail
  refine (HC.out _).mono ?_
  rintro e w1 ⟨rfl, hb1⟩
  have HB1 := Lib.hid hb1
  clear hb1
  go_wp2_with fail
  go_ret2
  exact ⟨rfl, HB1.out⟩

set_option maxRecDepth 100000 in
set_option maxHeartbeats 1000000 in
theorem mul_not1 (a b : Int) (w : World) (ha : G.el a = false) :
    Calls Tryd.prog 52 #[.int .i64 a, .int .i64 b] w fun e w' => e = .returned (.tuple #[.int .i64 0, .int .i64 30]) ∧ Below w.heap.size w w' := by
  have HC : Hid (∀ W : World, Calls Tryd.prog 48 #[.int .i64 a] W fun e w' => e = .returned (.int .i64 30) ∧ Below W.heap.size W w') := Lib.hid fun W => check_no a W ha
  clear ha
  go_enter Tryd.func52, Tryd.ntmps52
  go_wp2_with fail
  refine (HC.out _).mono ?_
  rintro e w1 ⟨rfl, hb1⟩
  have HB1 := Lib.hid hb1
  clear hb1
  go_wp2_with fail
  go_ret2
  exact ⟨rfl, HB1.out⟩

set_option maxRecDepth 100000 in
set_option maxHeartbeats 1000000 in
theorem mul_not2 (a : Nat) (b : Int) (w : World) (ha : G.El a) (hb : G.el b = false) :
    Calls Tryd.prog 52 #[.int .i64 a, .int .i64 b] w fun e w' => e = .returned (.tuple #[.int .i64 0, .int .i64 30]) ∧ Below w.heap.size w w' := by
  have HC : Hid (∀ W : World, Calls Tryd.prog 48 #[.int .i64 a] W fun e w' => e = .returned (.int .i64 0) ∧ Below W.heap.size W w') := Lib.hid fun W => check_ok a W ha
  have HD : Hid (∀ W : World, Calls Tryd.prog 48 #[.int .i64 b] W fun e w' => e = .returned (.int .i64 30) ∧ Below W.heap.size W w') := Lib.hid fun W => check_no b W hb
  clear ha hb
  go_enter Tryd.func52, Tryd.ntmps52
  go_wp2_with fail
  refine (HC.out _).mono ?_
  rintro e w1 ⟨rfl, hb1⟩
  have HB1 := Lib.hid hb1
  clear hb1
  go_wp2_with fail
  refine (HD.out _).mono ?_
  rintro e w2 ⟨rfl, hb2⟩
  have HB2 := Lib.hid (HB1.out.trans (hb2.mono HB1.out.size))
  clear hb2
  go_wp2_with fail
  go_ret2
  exact ⟨rfl, HB2.out⟩

/-- What group's three calls answer, whatever their arguments. -/
theorem base_gen (k : Int) : ∃ l e : Int, (∀ W : World, Calls Tryd.prog 49 #[.int .i64 k] W fun x w' => x = .returned (.tuple #[.int .i64 l, .int .i64 e]) ∧ Below W.heap.size W w') ∧
    ((G.sc k = true ∧ l = (G.pw 4 k.toNat : Nat) ∧ e = 0) ∨ (G.sc k = false ∧ e = 1 ∧ l = 0)) := by
  cases h : G.sc k with
  | true =>
    obtain ⟨n, rfl, hn⟩ := G.sc_nat' h
    exact ⟨_, 0, fun W => base_ok n _ W hn (Lib.hid rfl), .inl ⟨rfl, by rw [Int.toNat_natCast]; rfl, rfl⟩⟩
  | false =>
    refine ⟨0, 1, fun W => ?_, .inr ⟨rfl, rfl, rfl⟩⟩
    have HE : Hid (Calls Tryd.prog 50 #[.int .i64 4, .int .i64 k] W fun e w' => e = .returned (.tuple #[.int .i64 0, .int .i64 1]) ∧ Below W.heap.size W w') := Lib.hid (exp_no 4 k W G.el4 h)
    go_enter Tryd.func49, Tryd.ntmps49
    go_wp2_with (go_at_call 50; (with_reducible refine HE.out.mono ?_); rintro e w' ⟨rfl, hb⟩)
    go_ret2
    exact ⟨rfl, hb⟩
theorem exp_gen (a : Int) (k : Nat) (hk : k < 2305843009213688669) : ∃ p e : Int, (∀ W : World, Calls Tryd.prog 50 #[.int .i64 a, .int .i64 k] W fun x w' => x = .returned (.tuple #[.int .i64 p, .int .i64 e]) ∧ Below W.heap.size W w') ∧
    ((G.el a = true ∧ p = (G.pw a.toNat k : Nat) ∧ e = 0) ∨ (G.el a = false ∧ p = 0 ∧ e = 30)) := by
  cases h : G.el a with
  | true =>
    obtain ⟨n, rfl, hn⟩ := G.el_nat h
    exact ⟨_, 0, fun W => exp_ok n k _ W hn hk (Lib.hid rfl), .inl ⟨rfl, by rw [Int.toNat_natCast]; rfl, rfl⟩⟩
  | false => exact ⟨0, 30, fun W => exp_not a k W h, .inr ⟨rfl, rfl, rfl⟩⟩
theorem mul_gen (a b : Int) : ∃ p e : Int, (∀ W : World, Calls Tryd.prog 52 #[.int .i64 a, .int .i64 b] W fun x w' => x = .returned (.tuple #[.int .i64 p, .int .i64 e]) ∧ Below W.heap.size W w') ∧
    ((G.el a = true ∧ G.el b = true ∧ p = (G.mp a.toNat b.toNat : Nat) ∧ e = 0) ∨ ((G.el a && G.el b) = false ∧ p = 0 ∧ e = 30)) := by
  cases h : G.el a with
  | false => exact ⟨0, 30, fun W => mul_not1 a b W h, .inr ⟨rfl, rfl, rfl⟩⟩
  | true =>
    obtain ⟨n, rfl, hn⟩ := G.el_nat h
    cases h2 : G.el b with
    | false => exact ⟨0, 30, fun W => mul_not2 n b W hn h2, .inr ⟨rfl, rfl, rfl⟩⟩
    | true =>
      obtain ⟨m, rfl, hm⟩ := G.el_nat h2
      exact ⟨_, 0, fun W => mul_ok n m _ W hn hm (Lib.hid rfl), .inl ⟨rfl, rfl, by rw [Int.toNat_natCast, Int.toNat_natCast]; rfl, rfl⟩⟩

/-- slices.Concat of three slices of bytes. -/
theorem concat3_any (A B C : Option Addr) (nx ny nz cx cy cz : Nat) (xs ys zs : List UInt8) (w : World) (hx : BytesAt w A xs) (hy : BytesAt w B ys) (hz : BytesAt w C zs) (hnx : xs.length = nx) (hny : ys.length = ny) (hnz : zs.length = nz) (hl : nx + ny + nz ≤ 1099511627776) :
    Calls Tryd.prog 59 #[.slice (some ⟨w.heap.size, 0, none⟩) 3 3] (w.alloc (.cells #[.slice A nx cx, .slice B ny cy, .slice C nz cz] 22)) fun e w' =>
      ∃ A' c', e = .returned (.slice A' (nx + ny + nz) c') ∧ nx + ny + nz ≤ c' ∧ BytesAt w' A' (xs ++ (ys ++ zs)) ∧ Below w.heap.size w w' := by
  subst hnx hny hnz
  have hb : Below w.heap.size w (w.alloc (.cells #[.slice A xs.length cx, .slice B ys.length cy, .slice C zs.length cz] 22)) := (Below.refl _ _).alloc (Nat.le_refl _) _
  have hrow := heap_alloc_new w (.cells #[.slice A xs.length cx, .slice B ys.length cy, .slice C zs.length cz] 22)
  have hcat : H.cat (fun j => if j = 0 then xs else if j = 1 then ys else zs) 3 = xs ++ (ys ++ zs) := by simp [H.cat]
  have h := concat_any w.heap.size 0 3 3 (fun j => if j = 0 then xs else if j = 1 then ys else zs) (fun j => if j = 0 then A else if j = 1 then B else C) (fun j => if j = 0 then cx else if j = 1 then cy else cz) (w.alloc (.cells #[.slice A xs.length cx, .slice B ys.length cy, .slice C zs.length cz] 22)) (by decide) (by simp)
    (fun j hj => by
      rw [cell_of_row _ w.heap.size _ _ _ _ hrow]
      have e : j = 0 ∨ j = 1 ∨ j = 2 := by omega
      rcases e with rfl | rfl | rfl
      · exact ⟨rfl, hx.kept hb⟩
      · exact ⟨rfl, hy.kept hb⟩
      · exact ⟨rfl, hz.kept hb⟩)
    (by rw [hcat, List.length_append, List.length_append]; omega)
  rw [hcat] at h
  refine h.mono ?_
  rintro e w' ⟨v, rfl, ho, hbw⟩
  obtain ⟨A', c', rfl, hc, _, hby⟩ := owns_bytesAt ho
  rw [List.length_append, List.length_append, ← Nat.add_assoc] at hc ⊢
  exact ⟨A', c', rfl, hc, hby, hb.trans (hbw.mono (by simp))⟩

set_option maxRecDepth 100000 in
set_option maxHeartbeats 1000000 in
/-- sign's scalar, over what its concatenation gives. -/
theorem sscalar_any (tag : ByteArray) (v : Value) (m : Nat) (xs : List UInt8) (w W0 : World) (ht : tag.size ≤ 274877906944) (hm : xs.length = m) (hml : m ≤ 274877906944)
    (HC : Hid (Calls Tryd.prog 59 #[v] w fun e w' => ∃ A' c', e = .returned (.slice A' m c') ∧ m ≤ c' ∧ BytesAt w' A' xs ∧ Below W0.heap.size W0 w')) (hK0 : KT W0) :
    Calls Tryd.prog 90 #[.string tag, v] w fun e w' => e = .returned (.int .i64 (G.scal tag.data.toList xs : Nat)) ∧ Below W0.heap.size W0 w' := by
  have HK := Lib.hid hK0
  clear hK0
  go_enter Tryd.func90, Tryd.ntmps90
  go_wp2_with fail
  refine HC.out.mono ?_
  rintro e w1 ⟨A', c', rfl, hc, hby, hb⟩
  have HS := Lib.hid (scalar_any tag A' m c' (G.scal tag.data.toList xs) xs w1 (HK.out.kept hb HK.out.pos) ht hm hml hby (Lib.hid rfl))
  have HB := Lib.hid hb
  clear hc hby hb HC
  go_wp2_with (go_at_call 36; (with_reducible refine HS.out.mono ?_); rintro e w2 ⟨rfl, hb2⟩; have HB2 := Lib.hid (HB.out.trans (hb2.mono HB.out.size)); clear hb2)
  go_ret
  exact ⟨rfl, HB2.out⟩

end Go.Proofs.YtogedlfpgoicfaaDoor
