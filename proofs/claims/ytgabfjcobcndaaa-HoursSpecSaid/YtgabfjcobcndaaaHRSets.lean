/- Contracts of the reference's Union, Meet, Minus. -/
import Derived.Test.YtgabfjcobcndaaaHRSpans
namespace Go.Proofs.Ytgabfjcobcndaaa
open Go.RowKit

/-- What the reference's two arrays hold. -/
structure Ru (A B : Nat) (w wr : World) (fx fy : Nat → Bool) : Prop where
  x : wr.heap[A]? = some (.cells (bools fx) 4 (0, 0))
  y : wr.heap[B]? = some (.cells (bools fy) 4 (0, 0))
  below : Below w.heap.size w wr
  le : w.heap.size ≤ A
  ne : B ≠ A
theorem Ru.drew {A B : Nat} {w wr : World} {fx fy : Nat → Bool} (h : Ru A B w wr fx fy) : Ru A B w wr.drew fx fy := ⟨h.x, h.y, h.below.drew, h.le, h.ne⟩
theorem Ru.mark {A B : Nat} {w wr : World} {fx fy : Nat → Bool} (h : Ru A B w wr fx fy) (i : Nat) (b : Bool) : Ru A B w (wr.setCell ⟨A, i, none⟩ (.bool b)) (fun k => if k = i then b else fx k) fy :=
  ⟨bools_store h.x i b, (heap_set_off h.ne).trans h.y, h.below.setCell (p := ⟨A, i, none⟩) h.le _, h.le, h.ne⟩
theorem Ru.ext {A B : Nat} {w wr : World} {fx fy gx : Nat → Bool} (h : Ru A B w wr fx fy) (h1 : ∀ k, k < 1440 → fx k = gx k) : Ru A B w wr gx fy := ⟨bools_ext h1 ▸ h.x, h.y, h.below, h.le, h.ne⟩
theorem upto_step {op : Nat → Bool} {f : Nat → Bool} {j k : Nat} {z : Bool} (h : op j = z) : (if k = j then z else if k < j then op k else f k) = if k < j + 1 then op k else f k := by
  by_cases h1 : k = j
  · subst h1; simp [h]
  · rw [if_neg h1]
    by_cases h2 : k < j
    · rw [if_pos h2, if_pos (by omega)]
    · rw [if_neg h2, if_neg (by omega)]

set_option maxRecDepth 100000 in
set_option maxHeartbeats 4000000 in
theorem runion_any {la lb : List M.Sp} {va vb : Value} {w : World} (ha : SL w va la) (hb : SL w vb lb) :
    Calls Try.prog 17 #[va, vb] w (Hands w (M.U la lb)) := by
  have HM : Hid (Calls Try.prog 29 #[va] w fun e w1 => e = .returned (.slice (some ⟨w.heap.size, 0, none⟩) 1440 1440) ∧ Hid (Calls Try.prog 29 #[vb] w1 fun e w2 => ∃ B, e = .returned (.slice (some ⟨B, 0, none⟩) 1440 1440) ∧ Hid (Ru w.heap.size B w w2 (M.mn la) (M.mn lb)))) := Lib.hid (by
    refine (rminutes_any ha).mono ?_
    rintro e w1 ⟨rfl, hr⟩
    refine ⟨rfl, Lib.hid ?_⟩
    refine (rminutes_any (hb.kept hr.below)).mono ?_
    rintro e w2 ⟨rfl, hr2⟩
    have h1 := (Array.getElem?_eq_some_iff.1 hr.m).1
    exact ⟨_, rfl, Lib.hid ⟨(hr2.below.block _ h1).trans hr.m, hr2.m, hr.below.trans (hr2.below.mono hr.below.size), Nat.le_refl _, by omega⟩⟩)
  clear ha hb
  go_enter Try.func17, Try.ntmps17
  generalize w.heap.size = A at *
  go_wp2_with (first
    | (go_at_call 29; (with_reducible refine HM.out.mono ?_); rintro e w1 ⟨rfl, HL⟩)
    | (go_at_call 29; (with_reducible refine HL.out.mono ?_); rintro e w2 ⟨B, rfl, HU⟩))
  have HU0 : Hid (Ru A B w w2 (fun k => if k < 0 then (M.mn la k || M.mn lb k) else M.mn la k) (M.mn lb)) := Lib.hid (HU.out.ext (fun k _ => by simp))
  clear HM HL HU
  go_loopw [7] (fun ii wr => ∃ j : Nat, j ≤ 1440 ∧ ii = .int .i64 j ∧ Hid (Ru A B w wr (fun k => if k < j then (M.mn la k || M.mn lb k) else M.mn la k) (M.mn lb)))
    (fun ii _ => 1440 - (intOf ii).toNat)
  case atStart => exact ⟨0, Nat.zero_le _, rfl, HU0⟩
  case round =>
    obtain ⟨j, hj, rfl, HR⟩ := hrel
    clear HU0
    by_cases hlt : j < 1440
    · obtain ⟨cx, fx⟩ := bools_cell HR.out.x (i := j) hlt
      obtain ⟨cy, _⟩ := bools_cell HR.out.y (i := j) hlt
      simp only [Nat.lt_irrefl, if_false] at cx
      have HN := fun z (hz : (fun k => (M.mn la k || M.mn lb k)) j = z) => Lib.hid (((HR.out.mark j z).ext (fun k _ => upto_step (op := fun k => (M.mn la k || M.mn lb k)) (f := M.mn la) hz)))
      simp only at HN
      cases hx : M.mn la j with
      | true =>
        cases hy : M.mn lb j with
        | true =>
          rw [hx] at cx; rw [hy] at cy
          have HX := HN true (by rw [hx, hy]; rfl)
          clear HN hx hy
          go_wp2_with fail
          go_roundw
          case rel => exact ⟨j + 1, by omega, by go_num, HX⟩
          case measure => simp [intOf]; omega
        | false =>
          rw [hx] at cx; rw [hy] at cy
          have HX := HN true (by rw [hx, hy]; rfl)
          clear HN hx hy
          go_wp2_with fail
          go_roundw
          case rel => exact ⟨j + 1, by omega, by go_num, HX⟩
          case measure => simp [intOf]; omega
      | false =>
        cases hy : M.mn lb j with
        | true =>
          rw [hx] at cx; rw [hy] at cy
          have HX := HN true (by rw [hx, hy]; rfl)
          clear HN hx hy
          go_wp2_with fail
          go_roundw
          case rel => exact ⟨j + 1, by omega, by go_num, HX⟩
          case measure => simp [intOf]; omega
        | false =>
          rw [hx] at cx; rw [hy] at cy
          have HX := HN false (by rw [hx, hy]; rfl)
          clear HN hx hy
          go_wp2_with fail
          go_roundw
          case rel => exact ⟨j + 1, by omega, by go_num, HX⟩
          case measure => simp [intOf]; omega
    · have HC := Lib.hid ((HR.out.ext (gx := fun k => (M.mn la k || M.mn lb k)) (fun k hk => by rw [if_pos (by omega)])))
      have HS : Hid (Calls Try.prog 28 #[.slice (some ⟨A, 0, none⟩) 1440 1440] wr (Hands w (M.U la lb))) := Lib.hid (by
        refine (rspans_any A _ wr HC.out.x).mono ?_
        rintro e w' ⟨v, rfl, h1, h2⟩
        exact ⟨v, rfl, h1, HC.out.below.trans (h2.mono HC.out.below.size)⟩)
      go_wp2_with (go_at_call 28; (with_reducible refine HS.out.mono ?_); rintro e w3 ⟨v3, rfl, hs3, hb3⟩)
      go_ret
      exact ⟨_, rfl, hs3, hb3⟩

set_option maxRecDepth 100000 in
set_option maxHeartbeats 4000000 in
theorem rmeet_any {la lb : List M.Sp} {va vb : Value} {w : World} (ha : SL w va la) (hb : SL w vb lb) :
    Calls Try.prog 19 #[va, vb] w (Hands w (M.I la lb)) := by
  have HM : Hid (Calls Try.prog 29 #[va] w fun e w1 => e = .returned (.slice (some ⟨w.heap.size, 0, none⟩) 1440 1440) ∧ Hid (Calls Try.prog 29 #[vb] w1 fun e w2 => ∃ B, e = .returned (.slice (some ⟨B, 0, none⟩) 1440 1440) ∧ Hid (Ru w.heap.size B w w2 (M.mn la) (M.mn lb)))) := Lib.hid (by
    refine (rminutes_any ha).mono ?_
    rintro e w1 ⟨rfl, hr⟩
    refine ⟨rfl, Lib.hid ?_⟩
    refine (rminutes_any (hb.kept hr.below)).mono ?_
    rintro e w2 ⟨rfl, hr2⟩
    have h1 := (Array.getElem?_eq_some_iff.1 hr.m).1
    exact ⟨_, rfl, Lib.hid ⟨(hr2.below.block _ h1).trans hr.m, hr2.m, hr.below.trans (hr2.below.mono hr.below.size), Nat.le_refl _, by omega⟩⟩)
  clear ha hb
  go_enter Try.func19, Try.ntmps19
  generalize w.heap.size = A at *
  go_wp2_with (first
    | (go_at_call 29; (with_reducible refine HM.out.mono ?_); rintro e w1 ⟨rfl, HL⟩)
    | (go_at_call 29; (with_reducible refine HL.out.mono ?_); rintro e w2 ⟨B, rfl, HU⟩))
  have HU0 : Hid (Ru A B w w2 (fun k => if k < 0 then (M.mn la k && M.mn lb k) else M.mn la k) (M.mn lb)) := Lib.hid (HU.out.ext (fun k _ => by simp))
  clear HM HL HU
  go_loopw [7] (fun ii wr => ∃ j : Nat, j ≤ 1440 ∧ ii = .int .i64 j ∧ Hid (Ru A B w wr (fun k => if k < j then (M.mn la k && M.mn lb k) else M.mn la k) (M.mn lb)))
    (fun ii _ => 1440 - (intOf ii).toNat)
  case atStart => exact ⟨0, Nat.zero_le _, rfl, HU0⟩
  case round =>
    obtain ⟨j, hj, rfl, HR⟩ := hrel
    clear HU0
    by_cases hlt : j < 1440
    · obtain ⟨cx, fx⟩ := bools_cell HR.out.x (i := j) hlt
      obtain ⟨cy, _⟩ := bools_cell HR.out.y (i := j) hlt
      simp only [Nat.lt_irrefl, if_false] at cx
      have HN := fun z (hz : (fun k => (M.mn la k && M.mn lb k)) j = z) => Lib.hid (((HR.out.mark j z).ext (fun k _ => upto_step (op := fun k => (M.mn la k && M.mn lb k)) (f := M.mn la) hz)))
      simp only at HN
      cases hx : M.mn la j with
      | true =>
        cases hy : M.mn lb j with
        | true =>
          rw [hx] at cx; rw [hy] at cy
          have HX := HN true (by rw [hx, hy]; rfl)
          clear HN hx hy
          go_wp2_with fail
          go_roundw
          case rel => exact ⟨j + 1, by omega, by go_num, HX⟩
          case measure => simp [intOf]; omega
        | false =>
          rw [hx] at cx; rw [hy] at cy
          have HX := HN false (by rw [hx, hy]; rfl)
          clear HN hx hy
          go_wp2_with fail
          go_roundw
          case rel => exact ⟨j + 1, by omega, by go_num, HX⟩
          case measure => simp [intOf]; omega
      | false =>
        cases hy : M.mn lb j with
        | true =>
          rw [hx] at cx; rw [hy] at cy
          have HX := HN false (by rw [hx, hy]; rfl)
          clear HN hx hy
          go_wp2_with fail
          go_roundw
          case rel => exact ⟨j + 1, by omega, by go_num, HX⟩
          case measure => simp [intOf]; omega
        | false =>
          rw [hx] at cx; rw [hy] at cy
          have HX := HN false (by rw [hx, hy]; rfl)
          clear HN hx hy
          go_wp2_with fail
          go_roundw
          case rel => exact ⟨j + 1, by omega, by go_num, HX⟩
          case measure => simp [intOf]; omega
    · have HC := Lib.hid ((HR.out.ext (gx := fun k => (M.mn la k && M.mn lb k)) (fun k hk => by rw [if_pos (by omega)])))
      have HS : Hid (Calls Try.prog 28 #[.slice (some ⟨A, 0, none⟩) 1440 1440] wr (Hands w (M.I la lb))) := Lib.hid (by
        refine (rspans_any A _ wr HC.out.x).mono ?_
        rintro e w' ⟨v, rfl, h1, h2⟩
        exact ⟨v, rfl, h1, HC.out.below.trans (h2.mono HC.out.below.size)⟩)
      go_wp2_with (go_at_call 28; (with_reducible refine HS.out.mono ?_); rintro e w3 ⟨v3, rfl, hs3, hb3⟩)
      go_ret
      exact ⟨_, rfl, hs3, hb3⟩

set_option maxRecDepth 100000 in
set_option maxHeartbeats 4000000 in
theorem rminus_any {la lb : List M.Sp} {va vb : Value} {w : World} (ha : SL w va la) (hb : SL w vb lb) :
    Calls Try.prog 21 #[va, vb] w (Hands w (M.D la lb)) := by
  have HM : Hid (Calls Try.prog 29 #[va] w fun e w1 => e = .returned (.slice (some ⟨w.heap.size, 0, none⟩) 1440 1440) ∧ Hid (Calls Try.prog 29 #[vb] w1 fun e w2 => ∃ B, e = .returned (.slice (some ⟨B, 0, none⟩) 1440 1440) ∧ Hid (Ru w.heap.size B w w2 (M.mn la) (M.mn lb)))) := Lib.hid (by
    refine (rminutes_any ha).mono ?_
    rintro e w1 ⟨rfl, hr⟩
    refine ⟨rfl, Lib.hid ?_⟩
    refine (rminutes_any (hb.kept hr.below)).mono ?_
    rintro e w2 ⟨rfl, hr2⟩
    have h1 := (Array.getElem?_eq_some_iff.1 hr.m).1
    exact ⟨_, rfl, Lib.hid ⟨(hr2.below.block _ h1).trans hr.m, hr2.m, hr.below.trans (hr2.below.mono hr.below.size), Nat.le_refl _, by omega⟩⟩)
  clear ha hb
  go_enter Try.func21, Try.ntmps21
  generalize w.heap.size = A at *
  go_wp2_with (first
    | (go_at_call 29; (with_reducible refine HM.out.mono ?_); rintro e w1 ⟨rfl, HL⟩)
    | (go_at_call 29; (with_reducible refine HL.out.mono ?_); rintro e w2 ⟨B, rfl, HU⟩))
  have HU0 : Hid (Ru A B w w2 (fun k => if k < 0 then (M.mn la k && !M.mn lb k) else M.mn la k) (M.mn lb)) := Lib.hid (HU.out.ext (fun k _ => by simp))
  clear HM HL HU
  go_loopw [7] (fun ii wr => ∃ j : Nat, j ≤ 1440 ∧ ii = .int .i64 j ∧ Hid (Ru A B w wr (fun k => if k < j then (M.mn la k && !M.mn lb k) else M.mn la k) (M.mn lb)))
    (fun ii _ => 1440 - (intOf ii).toNat)
  case atStart => exact ⟨0, Nat.zero_le _, rfl, HU0⟩
  case round =>
    obtain ⟨j, hj, rfl, HR⟩ := hrel
    clear HU0
    by_cases hlt : j < 1440
    · obtain ⟨cx, fx⟩ := bools_cell HR.out.x (i := j) hlt
      obtain ⟨cy, _⟩ := bools_cell HR.out.y (i := j) hlt
      simp only [Nat.lt_irrefl, if_false] at cx
      have HN := fun z (hz : (fun k => (M.mn la k && !M.mn lb k)) j = z) => Lib.hid (((HR.out.mark j z).ext (fun k _ => upto_step (op := fun k => (M.mn la k && !M.mn lb k)) (f := M.mn la) hz)))
      simp only at HN
      cases hx : M.mn la j with
      | true =>
        cases hy : M.mn lb j with
        | true =>
          rw [hx] at cx; rw [hy] at cy
          have HX := HN false (by rw [hx, hy]; rfl)
          clear HN hx hy
          go_wp2_with fail
          go_roundw
          case rel => exact ⟨j + 1, by omega, by go_num, HX⟩
          case measure => simp [intOf]; omega
        | false =>
          rw [hx] at cx; rw [hy] at cy
          have HX := HN true (by rw [hx, hy]; rfl)
          clear HN hx hy
          go_wp2_with fail
          go_roundw
          case rel => exact ⟨j + 1, by omega, by go_num, HX⟩
          case measure => simp [intOf]; omega
      | false =>
        cases hy : M.mn lb j with
        | true =>
          rw [hx] at cx; rw [hy] at cy
          have HX := HN false (by rw [hx, hy]; rfl)
          clear HN hx hy
          go_wp2_with fail
          go_roundw
          case rel => exact ⟨j + 1, by omega, by go_num, HX⟩
          case measure => simp [intOf]; omega
        | false =>
          rw [hx] at cx; rw [hy] at cy
          have HX := HN false (by rw [hx, hy]; rfl)
          clear HN hx hy
          go_wp2_with fail
          go_roundw
          case rel => exact ⟨j + 1, by omega, by go_num, HX⟩
          case measure => simp [intOf]; omega
    · have HC := Lib.hid ((HR.out.ext (gx := fun k => (M.mn la k && !M.mn lb k)) (fun k hk => by rw [if_pos (by omega)])))
      have HS : Hid (Calls Try.prog 28 #[.slice (some ⟨A, 0, none⟩) 1440 1440] wr (Hands w (M.D la lb))) := Lib.hid (by
        refine (rspans_any A _ wr HC.out.x).mono ?_
        rintro e w' ⟨v, rfl, h1, h2⟩
        exact ⟨v, rfl, h1, HC.out.below.trans (h2.mono HC.out.below.size)⟩)
      go_wp2_with (go_at_call 28; (with_reducible refine HS.out.mono ?_); rintro e w3 ⟨v3, rfl, hs3, hb3⟩)
      go_ret
      exact ⟨_, rfl, hs3, hb3⟩

end Go.Proofs.Ytgabfjcobcndaaa
