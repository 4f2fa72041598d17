/- Contracts of the small functions over lists of spans. -/
import Derived.Test.YtgabfjcobcndaaaHBase
import Derived.WalkSpells
import Derived.WalkLawsBesides
namespace Go.Proofs.Ytgabfjcobcndaaa
open Go.RowKit

/-- A contract that ends in 'Below', met in whatever world a region that draws has come to. -/
theorem regrown_call {f : FuncId} {args : Array Value} {w : World} {v : Value} (h : ∀ W, Below w.heap.size w W → Calls Try.prog f args W fun e w' => e = .returned v ∧ Below W.heap.size W w') (d : Nat) (os : Array Obj) :
    Calls Try.prog f args (Sort.grow (redrawn w d) os) fun e w'' => e = .returned v ∧ ∃ p : Regrown, w'' = Sort.grow (redrawn w p.d) p.os := Calls.regrown_of (h _ (below_regrown w d os))

theorem wpQuiet_mono {P : Program} {ops : Array Oper} {C : World → Prop} {Q Q' : Act → Prop} (h : ∀ a, Q a → Q' a) : ∀ (l : List Oper) (a : Act), wpQuiet P ops C Q l a → wpQuiet P ops C Q' l a
  | [], a, hh => h a hh
  | o :: rest, a, hh => by
    unfold wpQuiet at *
    split
    · rename_i hw; rw [if_pos hw] at hh; exact Oper.quiet_mono (wpQuiet_mono h rest) hh
    · rename_i hw; rw [if_neg hw] at hh; exact wpQuiet_mono h rest _ hh

theorem wp_region_qb {id : Nat} {Q : Exit → Act → World → Prop} {a : Act} {w : World} {l : List Oper} (hB : Region.lexB .any l.toArray = true)
    (h : wpQuiet Try.prog l.toArray (fun w' => ∃ p : Regrown, w' = Sort.grow (redrawn w p.d) p.os) (fun a' => ∀ w', Below w.heap.size w w' → Q .normal a' w') l a) : (Code.region id l.toArray true).wp Try.prog Q a w := by
  refine wp_region_quiet_below (by kernel_rfl) hB ?_
  refine wpQuiet_mono ?_ _ _ h
  rintro a' h w' ⟨p, rfl⟩
  exact h _ (below_regrown _ _ _)

theorem ret_int {k : IntKind} {a b : Int} (h : a = b) : Ending.returned (.int k a) = .returned (.int k b) := by rw [h]
theorem M.err_ok {l : List M.Sp} (h : M.chk l = true) : M.err l = 0 := by unfold M.err; rw [if_pos h]
theorem M.err_no {l : List M.Sp} (h : M.chk l = false) : M.err l = 50 := by unfold M.err; rw [h]; rfl

set_option maxHeartbeats 1000000 in
/-- The reference's Same. -/
theorem same_any {la lb : List M.Sp} {va vb : Value} {w : World} (ha : SL w va la) (hb : SL w vb lb) :
    Calls Try.prog 13 #[va, vb] w fun e w' => e = .returned (.bool (decide (la = lb))) ∧ Below w.heap.size w w' := by
  obtain ⟨a, ca, rfl, hsa, hla⟩ := ha
  obtain ⟨b, cb, rfl, hsb, hlb⟩ := hb
  have HA := Lib.hid hsa; have HB := Lib.hid hsb
  clear hsa hsb
  by_cases hl : la.length = lb.length
  · rw [← hl]
    have HL := Lib.hid hl
    have h0 : ((la.length : Int) != (la.length : Int)) = false := by simp
    have h1 : ((la.length : Int) == (la.length : Int)) = true := by simp
    clear hl
    go_enter Try.func13, Try.ntmps13
    go_wp2
    go_loopw [5] (fun ii wr => ∃ j : Nat, j ≤ la.length ∧ ii = .int .i64 j ∧ Hid (la.take j = lb.take j) ∧ Hid (Below w.heap.size w wr))
      (fun ii _ => la.length - (intOf ii).toNat)
    case atStart => exact ⟨0, Nat.zero_le _, rfl, Lib.hid (by simp), Lib.hid (Below.refl _ _)⟩
    case round =>
      obtain ⟨j, hj, rfl, HP, HW⟩ := hrel
      by_cases hlt : j < la.length
      · have hlt' : j < lb.length := by rw [← HL.out]; exact hlt
        obtain ⟨b1, o1, rfl, x0, x1⟩ := (HA.out.kept HW.out).at j hlt
        obtain ⟨b2, o2, rfl, y0, y1⟩ := (HB.out.kept HW.out).at j hlt'
        obtain ⟨p1, hp1⟩ : ∃ p, la[j].1 = p := ⟨_, rfl⟩
        obtain ⟨q1, hq1⟩ : ∃ p, la[j].2 = p := ⟨_, rfl⟩
        obtain ⟨p2, hp2⟩ : ∃ p, lb[j].1 = p := ⟨_, rfl⟩
        obtain ⟨q2, hq2⟩ : ∃ p, lb[j].2 = p := ⟨_, rfl⟩
        rw [hp1] at x0; rw [hq1] at x1; rw [hp2] at y0; rw [hq2] at y1
        have HE : Hid (p1 = p2 → q1 = q2 → la.take (j + 1) = lb.take (j + 1)) := Lib.hid (fun e1 e2 => by
          rw [List.take_succ_eq_append_getElem hlt, List.take_succ_eq_append_getElem hlt', HP.out]
          have : la[j] = lb[j] := Prod.ext (by rw [hp1, hp2, e1]) (by rw [hq1, hq2, e2])
          rw [this])
        have HN : Hid (¬ (p1 = p2 ∧ q1 = q2) → ¬ la = lb) := Lib.hid (fun hn e => hn (by
          subst e
          rw [← hp1, ← hq1, ← hp2, ← hq2]; exact ⟨rfl, rfl⟩))
        clear hp1 hq1 hp2 hq2
        have k0 := cell_regrown x0; have k1 := cell_regrown x1; have m0 := cell_regrown y0; have m1 := cell_regrown y1
        clear x0 x1 y0 y1
        by_cases e : p1 = p2 ∧ q1 = q2
        · obtain ⟨rfl, rfl⟩ := e
          have HE2 := Lib.hid (HE.out rfl rfl)
          clear HE HN
          go_wp2_with fail
          refine wp_region_qb (by kernel_rfl) ?_
          repeat (go_big_quiet_step (fail))
          refine wpQuiet_nil ?_
          intro W2 hb2
          have HB2 := Lib.hid (HW.out.trans (hb2.mono HW.out.size))
          clear k0 k1 m0 m1 hb2
          go_wp2_with fail
          go_roundw
          case rel => exact ⟨j + 1, by omega, by go_num, HE2, HB2⟩
          case measure => simp [intOf]; omega
        · have HN2 := Lib.hid (HN.out e)
          by_cases e1 : p1 = p2
          · have hq1 : (p1 == p2) = true := by simpa using e1
            have hq2 : (q1 == q2) = false := by rw [Bool.eq_false_iff]; intro h; simp at h; exact e ⟨e1, h⟩
            clear e e1 HE HN
            go_wp2_with fail
            refine wp_region_qb (by kernel_rfl) ?_
            repeat (go_big_quiet_step (fail))
            refine wpQuiet_nil ?_
            intro W2 hb2
            have HB2 := Lib.hid (HW.out.trans (hb2.mono HW.out.size))
            clear k0 k1 m0 m1 hb2
            go_wp2_with fail
            go_ret
            refine ⟨?_, HB2.out⟩
            rw [decide_eq_false HN2.out]; rfl
          · have hq1 : (p1 == p2) = false := by rw [Bool.eq_false_iff]; intro h; simp at h; exact e1 h
            clear e e1 HE HN
            go_wp2_with fail
            refine wp_region_qb (by kernel_rfl) ?_
            repeat (go_big_quiet_step (fail))
            refine wpQuiet_nil ?_
            intro W2 hb2
            have HB2 := Lib.hid (HW.out.trans (hb2.mono HW.out.size))
            clear k0 k1 m0 m1 hb2
            go_wp2_with fail
            go_ret
            refine ⟨?_, HB2.out⟩
            rw [decide_eq_false HN2.out]; rfl
      · have hjl : j = la.length := by omega
        go_wp2_with fail
        go_ret
        refine ⟨?_, HW.out⟩
        have he : la = lb := by
          have h := HP.out
          rw [hjl, List.take_length, HL.out, List.take_length] at h
          exact h
        rw [decide_eq_true he]; rfl
  · have h0 : ((la.length : Int) != (lb.length : Int)) = true := by simp; omega
    have h1 : ((la.length : Int) == (lb.length : Int)) = false := by simp; omega
    have HN := Lib.hid (show ¬ la = lb from fun e => hl (by rw [e]))
    clear hl
    go_enter Try.func13, Try.ntmps13
    go_wp2
    go_ret
    refine ⟨?_, Below.refl _ _⟩
    rw [decide_eq_false HN.out]; rfl

set_option maxHeartbeats 1000000 in
/-- 'hours.Check'. -/
theorem check_any {l : List M.Sp} {v : Value} {w : World} (h : SL w v l) :
    Calls Try.prog 11 #[v] w fun e w' => e = .returned (.int .i64 (M.err l)) ∧ Below w.heap.size w w' := by
  obtain ⟨a, ca, rfl, hsa, hla⟩ := h
  have HA := Lib.hid hsa
  clear hsa
  go_enter Try.func11, Try.ntmps11
  go_wp2
  go_loopw [7] (fun ii wr => ∃ j : Nat, j ≤ l.length ∧ ii = .int .i64 j ∧ Hid (M.chk (l.take j) = true) ∧ Hid (Below w.heap.size w wr))
    (fun ii _ => l.length - (intOf ii).toNat)
  case atStart => exact ⟨0, Nat.zero_le _, rfl, Lib.hid (by simp [M.chk]), Lib.hid (Below.refl _ _)⟩
  case round =>
    obtain ⟨j, hj, rfl, HP, HW⟩ := hrel
    by_cases hlt : j < l.length
    · obtain ⟨b1, o1, rfl, x0, x1⟩ := (HA.out.kept HW.out).at j hlt
      obtain ⟨p, hp⟩ : ∃ p, l[j].1 = p := ⟨_, rfl⟩
      obtain ⟨q, hq⟩ : ∃ p, l[j].2 = p := ⟨_, rfl⟩
      rw [hp] at x0; rw [hq] at x1
      have HB2 := fun o => Lib.hid (HW.out.alloc HW.out.size o)
      have HE : Hid (0 ≤ p → p < q → q ≤ 1440 → M.chk (l.take (j + 1)) = true) := Lib.hid (fun e1 e2 e3 => by
        rw [List.take_succ_eq_append_getElem hlt]
        have := HP.out
        unfold M.chk at *
        rw [List.all_append, this, List.all_cons, hp, hq]
        simp [e1, e2, e3])
      have HN : Hid (¬ (0 ≤ p ∧ p < q ∧ q ≤ 1440) → M.chk l = false) := Lib.hid (fun hn => by
        rw [Bool.eq_false_iff]
        intro hc
        unfold M.chk at hc
        have := List.all_eq_true.1 hc l[j] (List.getElem_mem hlt)
        rw [hp, hq] at this
        simp at this
        exact hn ⟨this.1, this.2.1, this.2.2⟩)
      clear hp hq
      by_cases e1 : p < 0
      · have HN2 := Lib.hid (HN.out (by omega))
        have d1 : decide (p < 0) = true := by simpa using e1
        clear e1
        go_wp2
        go_ret
        exact ⟨by rw [M.err_no HN2.out]; rfl, (HB2 _).out⟩
      · by_cases e2 : p ≥ q
        · have HN2 := Lib.hid (HN.out (by omega))
          have d1 : decide (p < 0) = false := by simpa using e1
          have d2 : decide (p ≥ q) = true := by simpa using e2
          have d2 : decide (q ≤ p) = true := by simpa using e2
          clear e1 e2
          go_wp2
          go_ret
          exact ⟨by rw [M.err_no HN2.out]; rfl, (HB2 _).out⟩
        · have d1 : decide (p < 0) = false := by simpa using e1
          have d2 : decide (p ≥ q) = false := by simpa using e2
          have d2 : decide (q ≤ p) = false := by simpa using e2
          by_cases e3 : q > 1440
          · have HN2 := Lib.hid (HN.out (by omega))
            have d3 : decide (q > 1440) = true := by simpa using e3
            have d3 : decide (1440 < q) = true := by simpa using e3
            clear e1 e2 e3
            go_wp2
            go_ret
            exact ⟨by rw [M.err_no HN2.out]; rfl, (HB2 _).out⟩
          · have HE2 := Lib.hid (HE.out (by omega) (by omega) (by omega))
            have d3 : decide (q > 1440) = false := by simpa using e3
            have d3 : decide (1440 < q) = false := by simpa using e3
            clear e1 e2 e3
            go_wp2
            go_roundw
            case rel => exact ⟨j + 1, by omega, by go_num, HE2, HB2 _⟩
            case measure => simp [intOf]; omega
    · have hjl : j = l.length := by omega
      go_wp2
      go_ret
      refine ⟨?_, HW.out⟩
      have := HP.out
      rw [hjl, List.take_length] at this
      rw [M.err_ok this]; rfl

theorem inDay_any (x : Int) (w : World) : Calls Try.prog 38 #[.int .i64 x] w fun e w' => e = .returned (.int .i64 (M.cl x)) ∧ w = w' := by
  have hm : ((M.cl x : Nat) : Int) = min (max x 0) 1440 := by unfold M.cl; omega
  rw [hm]
  go_enter Try.func38, Try.ntmps38
  go_wp2
  all_goals
    go_ret
    refine ⟨ret_int ?_, rfl⟩
    omega

end Go.Proofs.Ytgabfjcobcndaaa
