/- Contracts of the reference's functions. -/
import Derived.Test.YtgabfjcobcndaaaHAlg
import Derived.Laws.MakeOwn
namespace Go.Proofs.Ytgabfjcobcndaaa
open Go.RowKit

set_option maxHeartbeats 1000000 in
/-- The reference's Check. -/
theorem rcheck_any {l : List M.Sp} {v : Value} {w : World} (h : SL w v l) :
    Calls Try.prog 12 #[v] w fun e w' => e = .returned (.int .i64 (M.err l)) ∧ Below w.heap.size w w' := by
  obtain ⟨a, ca, rfl, hsa, hla⟩ := h
  have HA := Lib.hid hsa
  clear hsa
  go_enter Try.func12, Try.ntmps12
  go_wp2
  go_loopw [3] (fun ii wr => ∃ j : Nat, j ≤ l.length ∧ ii = .int .i64 j ∧ Hid (M.chk (l.take j) = true) ∧ Hid (Below w.heap.size w wr))
    (fun ii _ => l.length - (intOf ii).toNat)
  case atStart => exact ⟨0, Nat.zero_le _, rfl, Lib.hid (by simp [M.chk]), Lib.hid (Below.refl _ _)⟩
  case round =>
    obtain ⟨j, hj, rfl, HP, HW⟩ := hrel
    by_cases hlt : j < l.length
    · obtain ⟨b1, o1, rfl, x0, x1⟩ := (HA.out.kept HW.out).at j hlt
      obtain ⟨p, hp⟩ : ∃ p, l[j].1 = p := ⟨_, rfl⟩
      obtain ⟨q, hq⟩ : ∃ p, l[j].2 = p := ⟨_, rfl⟩
      rw [hp] at x0; rw [hq] at x1
      have HE : Hid (0 ≤ p → p < q → q ≤ 1440 → M.chk (l.take (j + 1)) = true) := Lib.hid (fun e1 e2 e3 => by
        rw [List.take_succ_eq_append_getElem hlt]
        have := HP.out
        unfold M.chk at *
        rw [List.all_append, this, List.all_cons, hp, hq]
        simp [e1, e2, e3])
      have HN : Hid (¬ (0 ≤ p ∧ p < q ∧ q ≤ 1440) → M.chk l = false) := Lib.hid (fun hn => by
        rw [Bool.eq_false_iff]
        intro hc
        unfold M.chk at hc
        have := List.all_eq_true.1 hc l[j] (List.getElem_mem hlt)
        rw [hp, hq] at this
        simp at this
        exact hn ⟨this.1, this.2.1, this.2.2⟩)
      have k0 := cell_regrown x0; have k1 := cell_regrown x1
      clear hp hq x0 x1
      by_cases e1 : p < 0
      · have HN2 := Lib.hid (HN.out (by omega))
        have d1 : decide (p < 0) = true := by simpa using e1
        clear e1 HN HE
        go_wp2_with fail
        refine wp_region_qb (by kernel_rfl) ?_
        repeat (go_big_quiet_step (fail))
        refine wpQuiet_nil ?_
        intro W2 hb2
        have HB2 := Lib.hid (HW.out.trans (hb2.mono HW.out.size))
        clear k0 k1 hb2
        go_wp2_with fail
        go_ret
        exact ⟨by rw [M.err_no HN2.out]; rfl, HB2.out⟩
      · have d1 : decide (p < 0) = false := by simpa using e1
        by_cases e2 : p ≥ q
        · have HN2 := Lib.hid (HN.out (by omega))
          have d2 : decide (q ≤ p) = true := by simpa using e2
          clear e1 e2 HN HE
          go_wp2_with fail
          refine wp_region_qb (by kernel_rfl) ?_
          repeat (go_big_quiet_step (fail))
          refine wpQuiet_nil ?_
          intro W2 hb2
          have HB2 := Lib.hid (HW.out.trans (hb2.mono HW.out.size))
          clear k0 k1 hb2
          go_wp2_with fail
          go_ret
          exact ⟨by rw [M.err_no HN2.out]; rfl, HB2.out⟩
        · have d2 : decide (q ≤ p) = false := by simpa using e2
          by_cases e3 : q > 1440
          · have HN2 := Lib.hid (HN.out (by omega))
            have d3 : decide (1440 < q) = true := by simpa using e3
            clear e1 e2 e3 HN HE
            go_wp2_with fail
            refine wp_region_qb (by kernel_rfl) ?_
            repeat (go_big_quiet_step (fail))
            refine wpQuiet_nil ?_
            intro W2 hb2
            have HB2 := Lib.hid (HW.out.trans (hb2.mono HW.out.size))
            clear k0 k1 hb2
            go_wp2_with fail
            go_ret
            exact ⟨by rw [M.err_no HN2.out]; rfl, HB2.out⟩
          · have HE2 := Lib.hid (HE.out (by omega) (by omega) (by omega))
            have d3 : decide (1440 < q) = false := by simpa using e3
            clear e1 e2 e3 HN HE
            go_wp2_with fail
            refine wp_region_qb (by kernel_rfl) ?_
            repeat (go_big_quiet_step (fail))
            refine wpQuiet_nil ?_
            intro W2 hb2
            have HB2 := Lib.hid (HW.out.trans (hb2.mono HW.out.size))
            clear k0 k1 hb2
            go_wp2_with fail
            go_roundw
            case rel => exact ⟨j + 1, by omega, by go_num, HE2, HB2⟩
            case measure => simp [intOf]; omega
    · have hjl : j = l.length := by omega
      go_wp2_with fail
      go_ret
      refine ⟨?_, HW.out⟩
      have := HP.out
      rw [hjl, List.take_length] at this
      rw [M.err_ok this]; rfl

/-- The reference's minutes. -/
structure Rm (w wr : World) (f : Nat → Bool) : Prop where
  m : wr.heap[w.heap.size]? = some (.cells (bools f) 4 (0, 0))
  below : Below w.heap.size w wr
theorem Rm.mark {w wr : World} {f : Nat → Bool} (h : Rm w wr f) (i : Nat) : Rm w (wr.setCell ⟨w.heap.size, i, none⟩ (.bool true)) (fun k => if k = i then true else f k) :=
  ⟨bools_store h.m i true, h.below.setCell (p := ⟨w.heap.size, i, none⟩) (by simp) _⟩
theorem Rm.ext {w wr : World} {f g : Nat → Bool} (h : Rm w wr f) (h1 : ∀ k, k < 1440 → f k = g k) : Rm w wr g := ⟨bools_ext h1 ▸ h.m, h.below⟩
theorem Try.infoBool : (Try.prog.info? 4).map (fun i => (i.zero, i.size, i.bytes)) = some (some (.bool false), 1, 1) := by kernel_rfl
theorem made_bools : madeCells #[.bool false] 1440 = bools fun _ => false := by
  apply Array.ext
  · rw [bools_size]; simp [madeCells]
  · intro i h1 h2
    rw [bools_size] at h2
    have h3 := bools_at (f := fun _ => false) h2
    rw [Array.getElem?_eq_getElem (by rw [bools_size]; exact h2)] at h3
    simp only [Option.some.injEq] at h3
    rw [h3]
    simp [madeCells, Nat.mod_one]
theorem make_bools (W : World) : (Instr.makeSlice 49 (.int .i64 1440) (.int .i64 1440)).run Try.prog W = .ok (.slice (some ⟨W.heap.size, 0, none⟩) 1440 1440) (W.alloc (.cells (bools fun _ => false) 4)) := by
  obtain ⟨i0, hi, hz0, hz1, hz2⟩ := info_parts Try.infoBool
  rw [run_makeSlice (P := Try.prog) W 49 4 i0 _ Try.underlying49 hi hz0 .i64 .i64 1440 1440 (by omega) (Int.le_refl _) (by rw [hz1]; simp) (by rw [hz2]; omega) (by omega), hz1]
  rw [show (Value.bool false).cells = #[.bool false] from rfl, show (1440 : Int).toNat * 1 = 1440 from rfl, made_bools]
  rfl

set_option maxRecDepth 100000 in
set_option maxHeartbeats 4000000 in
theorem rminutes_any {l : List M.Sp} {v : Value} {w : World} (h : SL w v l) :
    Calls Try.prog 29 #[v] w fun e w' => e = .returned (.slice (some ⟨w.heap.size, 0, none⟩) 1440 1440) ∧ Rm w w' (M.mn l) := by
  obtain ⟨a, ca, rfl, hsa, hla⟩ := h
  have HA := Lib.hid hsa
  clear hsa
  have hmk := make_bools
  have HB : Hid (Rm w (w.alloc (.cells (bools fun _ => false) 4)) (M.mn (l.take 0))) := Lib.hid ⟨heap_alloc_new w _, (Below.refl _ _).alloc (Nat.le_refl _) _⟩
  go_enter Try.func29, Try.ntmps29
  generalize bools (fun _ => false) = r0 at *
  go_upto_region 2 with (fail)
  obtain ⟨W0, hW0⟩ : ∃ W0, w.alloc (.cells r0 4) = W0 := ⟨_, rfl⟩
  rw [hW0] at HB ⊢
  clear hmk hW0
  go_wp2_with fail
  go_loopw [4] (fun ii wr => ∃ j : Nat, j ≤ l.length ∧ ii = .int .i64 j ∧ Hid (Rm w wr (M.mn (l.take j))))
    (fun ii _ => l.length - (intOf ii).toNat)
  case atStart => exact ⟨0, Nat.zero_le _, rfl, HB⟩
  case round =>
    obtain ⟨j, hj, rfl, HR⟩ := hrel
    clear HB
    by_cases hlt : j < l.length
    · obtain ⟨b1, o1, rfl, x0, x1⟩ := (HA.out.kept HR.out.below).at j hlt
      have HS := Lib.hid (fun k => M.mn_take_succ hlt k)
      obtain ⟨p, hp⟩ : ∃ p, l[j].1 = p := ⟨_, rfl⟩
      obtain ⟨q, hq⟩ : ∃ p, l[j].2 = p := ⟨_, rfl⟩
      rw [hp] at x0; rw [hq] at x1
      rw [hp, hq] at HS
      have HQ : Hid (∀ W, Below w.heap.size w W → W.cell? ⟨b1, o1 + j * 2 + 1, none⟩ = some (.int .i64 q)) := Lib.hid (fun W hW => by
        obtain ⟨b2, o2, he, _, y1⟩ := (HA.out.kept hW).at j hlt
        simp at he
        obtain ⟨rfl, rfl⟩ := he
        rw [hq] at y1
        exact y1)
      clear hp hq
      obtain ⟨lo, hlo⟩ : ∃ lo : Nat, max p 0 = (lo : Int) := ⟨(max p 0).toNat, by omega⟩
      obtain ⟨hi, hhi⟩ : ∃ hi : Int, min q 1440 = hi := ⟨_, rfl⟩
      have m1 : (if (0 : Int) > p then (0 : Int) else p) = (lo : Int) := by rw [← hlo]; split <;> omega
      have m2 : (if p < 0 then (0 : Int) else p) = (lo : Int) := m1
      have m3 : (if (1440 : Int) < q then (1440 : Int) else q) = hi := by rw [← hhi]; split <;> omega
      have HLO := Lib.hid hlo; have HHI := Lib.hid hhi
      clear hlo hhi x1
      go_wp2_with fail
      clear x0 m1 m2
      have HR0 : Hid (Rm w wr (fun k => M.mn (l.take j) k || (decide (lo ≤ k) && decide (k < lo)))) := Lib.hid (HR.out.ext (fun k _ => by
        have : (decide (lo ≤ k) && decide (k < lo)) = false := by rw [Bool.eq_false_iff]; intro h; simp at h; omega
        rw [this, Bool.or_false]))
      go_loopw [5] (fun ii wr => ∃ c : Nat, lo ≤ c ∧ (c = lo ∨ (c : Int) ≤ hi) ∧ ii = .int .i64 c ∧ Hid (Rm w wr (fun k => M.mn (l.take j) k || (decide (lo ≤ k) && decide (k < c)))))
        (fun ii _ => (hi - intOf ii).toNat)
      case atStart => exact ⟨lo, Nat.le_refl _, .inl rfl, rfl, HR0⟩
      case round =>
        obtain ⟨c, hc1, hc2, rfl, HC⟩ := hrel
        clear HR0
        have y1 := HQ.out _ HC.out.below
        by_cases hch : (c : Int) < hi
        · have hc3 : c < 1440 := by have := HHI.out; omega
          have hd : decide ((c : Int) < hi) = true := by simpa using hch
          obtain ⟨cc, fc⟩ := bools_cell HC.out.m (i := c) hc3
          have HC2 : Hid (Rm w (wr.setCell ⟨w.heap.size, c, none⟩ (.bool true)) (fun k => M.mn (l.take j) k || (decide (lo ≤ k) && decide (k < c + 1)))) := Lib.hid ((HC.out.mark c).ext (fun k _ => by
            by_cases h1 : k = c
            · subst h1
              have e1 : decide (lo ≤ k) = true := by simpa using hc1
              have e2 : decide (k < k + 1) = true := by simp
              rw [if_pos rfl, e1, e2]; simp
            · have e2 : decide (k < c + 1) = decide (k < c) := by
                by_cases h2 : k < c
                · have : k < c + 1 := by omega
                  simp [h2, this]
                · have : ¬ k < c + 1 := by omega
                  simp [h2, this]
              rw [if_neg h1, e2]))
          go_wp2_with fail
          go_roundw
          case rel => exact ⟨c + 1, by omega, .inr (by omega), by go_num, HC2⟩
          case measure => simp [intOf]; omega
        · have hd : decide ((c : Int) < hi) = false := by simpa using hch
          have HC2 : Hid (Rm w wr (M.mn (l.take (j + 1)))) := Lib.hid (HC.out.ext (fun k hk => by
            rw [HS.out k]
            congr 1
            have h1 := HLO.out; have h2 := HHI.out
            refine bool_of ?_
            simp only [Bool.and_eq_true, decide_eq_true_eq]
            omega))
          go_wp2_with fail
          go_roundw
          case rel => exact ⟨j + 1, by omega, by go_num, HC2⟩
          case measure => simp [intOf]; omega
    · have hjl : j = l.length := by omega
      rw [hjl, List.take_length] at HR
      clear hjl
      go_wp2_with fail
      go_ret
      exact ⟨rfl, HR.out⟩

end Go.Proofs.Ytgabfjcobcndaaa
