/- Contract of the reference's Spans, and of Normal, Union, Meet, Minus. -/
import Derived.Test.YtgabfjcobcndaaaHRef
namespace Go.Proofs.Ytgabfjcobcndaaa
open Go.RowKit

theorem cel_one (s : M.Sp) : cel [s] = [.int .i64 s.1, .int .i64 s.2] := rfl
theorem cel_set (Y : List M.Sp) (z a b : Int) : (cel (Y ++ [(z, a)])).set (Y.length * 2 + 1) (.int .i64 b) = cel (Y ++ [(z, b)]) := by
  rw [cel_append, cel_append, List.set_append_right _ _ (by rw [cel_len]; omega), cel_len, show Y.length * 2 + 1 - Y.length * 2 = 1 from by omega]
  rfl
theorem cel_last (Y : List M.Sp) (z a : Int) : (cel (Y ++ [(z, a)]))[Y.length * 2 + 1]? = some (.int .i64 a) := by
  rw [cel_append, List.getElem?_append_right (by rw [cel_len]; omega), cel_len, show Y.length * 2 + 1 - Y.length * 2 = 1 from by omega]
  rfl
/-- What the loop of Spans has made. -/
structure Sq (w wr : World) (v : Value) (l : List M.Sp) : Prop where
  own : wr.ownsRow w.heap.size 32 2 v l.length (cel l)
  some : ∃ g cap, v = .slice (some ⟨g, 0, none⟩) l.length cap
  keeps : Keeps w.heap.size w wr
theorem M.last_cases (f : Nat → Bool) (m : Nat) : (∃ (Y : List M.Sp) (z : Int), M.nrm f m = Y ++ [(z, (m : Int))] ∧ M.nrm f m = (M.st f m).1 ++ [(z, (m : Int))] ∧ z = (((M.st f m).2 : Nat) : Int) ∧ Y = (M.st f m).1 ∧ (M.st f m).2 < m) ∨
    ((M.nrm f m = [] ∨ ∃ (Y : List M.Sp) (z e : Int), M.nrm f m = Y ++ [(z, e)] ∧ e < (m : Int)) ∧ M.nrm f m = (M.st f m).1 ∧ (M.st f m).2 = m) := by
  have hle := M.st_le f m
  by_cases h : (M.st f m).2 < m
  · exact .inl ⟨_, _, M.nrm_pos h, M.nrm_pos h, rfl, rfl, h⟩
  · have hm : (M.st f m).2 = m := by omega
    have h1 := M.nrm_eq h
    refine .inr ⟨?_, h1, hm⟩
    have hg := (M.st_good f m).2.1
    rw [← h1] at hg
    rcases List.eq_nil_or_concat (M.nrm f m) with h2 | ⟨Y, s, h2⟩
    · exact .inl h2
    · refine .inr ⟨Y, s.1, s.2, by rw [h2, List.concat_eq_append], ?_⟩
      have := hg s (by rw [h2]; simp)
      omega

set_option maxRecDepth 100000 in
set_option maxHeartbeats 4000000 in
theorem rspans_any (B : Nat) (f : Nat → Bool) (w : World) (hB : w.heap[B]? = some (.cells (bools f) 4 (0, 0))) :
    Calls Try.prog 28 #[.slice (some ⟨B, 0, none⟩) 1440 1440] w (Hands w (M.N f)) := by
  have HBX := Lib.hid hB
  have hBl := (Array.getElem?_eq_some_iff.1 hB).1
  clear hB
  go_enter Try.func28, Try.ntmps28
  have HQ : Hid (Sq w (w.alloc (.cells #[] 32)) (.slice (some ⟨w.heap.size, 0, none⟩) 0 0) (M.nrm f 0)) := Lib.hid (by
    rw [M.nrm_zero]
    exact ⟨⟨rfl, .inr ⟨w.heap.size, 0, #[], rfl, Nat.le_refl _, heap_alloc_new w _, Nat.le_refl _, by decide, rfl, rfl⟩⟩, ⟨_, _, rfl⟩, (Keeps.refl _ _).alloc _⟩)
  go_wp2_with fail
  generalize w.alloc (.cells #[] 32) = W0 at *
  go_loopw [4, 3] (fun ii vv wr => ∃ m : Nat, m ≤ 1440 ∧ ii = .int .i64 m ∧ Hid (Sq w wr vv (M.nrm f m)))
    (fun ii _ _ => 1440 - (intOf ii).toNat)
  case atStart => exact ⟨0, Nat.zero_le _, rfl, HQ⟩
  case round =>
    obtain ⟨m, hm, rfl, HS⟩ := hrel
    clear HQ
    obtain ⟨g, cap, hv⟩ := HS.out.some
    subst hv
    by_cases hlt : m < 1440
    · have hbl := HS.out.keeps.below (Nat.le_refl _)
      obtain ⟨cb, _⟩ := bools_cell ((hbl.block B hBl).trans HBX.out) (i := m) hlt
      cases hf : f m with
      | false =>
        rw [hf] at cb
        have HS2 := HS.out
        rw [← M.nrm_no hf] at HS2
        have HSN := Lib.hid HS2
        have HL := Lib.hid (congrArg List.length (M.nrm_no hf))
        clear hf hbl HS2
        rw [← HL.out]
        generalize (M.nrm f (m + 1)).length = n at *
        go_wp2_with fail
        go_roundw
        case rel => exact ⟨m + 1, by omega, by go_num, HSN⟩
        case measure => simp [intOf]; omega
      | true =>
        rw [hf] at cb
        have HY := Lib.hid (M.nrm_yes hf)
        clear hf hbl
        rcases M.last_cases f m with ⟨Y, z, h1, _, h3, h4, h5⟩ | ⟨h1, h2, h3⟩
        · have hl : (M.nrm f m).length = Y.length + 1 := by rw [h1]; simp
          have hN : M.nrm f (m + 1) = Y ++ [(z, ((m + 1 : Nat) : Int))] := by rw [HY.out, ← h4, h3]
          have hc := HS.out.own.cellAt (Y.length * 2 + 1) (by rw [hl]; omega)
          have hfr := HS.out.own.frozenAt (Y.length * 2 + 1)
          rw [h1, cel_last] at hc
          have hst := HS.out.own.stored (Y.length * 2 + 1) (.int .i64 ((m + 1 : Nat) : Int))
          have HS2 : Hid (Sq w (wr.setCell ⟨g, Y.length * 2 + 1, none⟩ (.int .i64 ((m + 1 : Nat) : Int))) (.slice (some ⟨g, 0, none⟩) (Y.length + 1) cap) (M.nrm f (m + 1))) := Lib.hid (by
            have hs1 := hst.1
            have hlen : (M.nrm f (m + 1)).length = Y.length + 1 := by rw [hN]; simp
            rw [hl, h1, cel_set, ← hN] at hs1
            refine ⟨by rw [hlen]; exact hs1, ⟨g, cap, by rw [hlen]⟩, HS.out.keeps.grown HS.out.own hst.2⟩)
          have hyb : Y.length ≤ 1440 := by
            have := (M.nrm_good f m).2.2; omega
          rw [hl] at *
          generalize hyn : Y.length = y at *
          clear hst hl hN h1 h3 h4 h5 HY hyn HS
          have e1 : IntKind.i64.wrap (((y + 1 : Nat) : Int) - 1) = (y : Int) := by
            rw [IntWalk.i64_in _ (by omega)]; omega
          rw [show ((m + 1 : Nat) : Int) = (m : Int) + 1 from by omega] at HS2
          go_wp2_with fail
          go_roundw
          case rel => exact ⟨m + 1, by omega, by go_num, HS2⟩
          case measure => simp [intOf]; omega
        · have hN : M.nrm f (m + 1) = M.nrm f m ++ [((m : Int), (m : Int) + 1)] := by
            rw [HY.out, ← h2, h3]; rfl
          have hlb := (M.nrm_good f m).2.2
          have hsz := HS.out.keeps.size
          have HN := Lib.hid hN
          have HL : Hid ((M.nrm f m).length + 1 = (M.nrm f (m + 1)).length) := Lib.hid (by rw [hN]; simp)
          have HSZ := Lib.hid hsz
          clear h2 h3 hN HY hsz
          rcases h1 with h1 | ⟨Y, z, e, h1, he⟩
          · have hl : (M.nrm f m).length = 0 := by rw [h1]; rfl
            rw [hl]
            clear h1
            go_wp2_with (at_builtin; refine wpl_push rfl _ _ rfl w.heap.size _ _ (M.nrm f m) rfl (hl ▸ HS.out.own) _ _ rfl (by omega) HSZ.out ?_; intro v' w' g1 g2; have HX : Hid (Sq w w' v' (M.nrm f (m + 1))) := Lib.hid (by
              have g3 := g1
              obtain ⟨g', cap', hv'⟩ := ownsRow_succ g1
              rw [← HN.out] at g3
              have hll : 0 + 1 = (M.nrm f (m + 1)).length := by rw [← HL.out, hl]
              refine ⟨?_, ⟨g', cap', ?_⟩, HS.out.keeps.trans g2⟩
              · rw [← hll]; exact g3
              · rw [← hll]; exact hv'); clear g1 g2)
            go_roundw
            case rel => exact ⟨m + 1, by omega, by go_num, HX⟩
            case measure => simp [intOf]; omega
          · have hl : (M.nrm f m).length = Y.length + 1 := by rw [h1]; simp
            have hc := HS.out.own.cellAt (Y.length * 2 + 1) (by rw [hl]; omega)
            rw [h1, cel_last] at hc
            have HOWN := Lib.hid (hl ▸ HS.out.own)
            have hyb : Y.length ≤ 1440 := by omega
            rw [hl] at HL
            rw [hl]
            have HKE := Lib.hid HS.out.keeps
            generalize hyn : Y.length = y at *
            clear h1 hyn
            have e1 : IntKind.i64.wrap (((y + 1 : Nat) : Int) - 1) = (y : Int) := by
              rw [IntWalk.i64_in _ (by omega)]; omega
            have e2 : (e == (m : Int)) = false := by rw [Bool.eq_false_iff]; intro h; simp at h; omega
            have e3 : ¬ (e = (m : Int)) := by omega
            have e4 : decide (e = (m : Int)) = false := by simp; omega
            clear hl HS hlb he
            go_wp2_with (at_builtin; refine wpl_push rfl _ _ rfl w.heap.size _ _ (M.nrm f m) rfl HOWN.out _ _ rfl (by omega) HSZ.out ?_; intro v' w' g1 g2; have HX : Hid (Sq w w' v' (M.nrm f (m + 1))) := Lib.hid (by
              have g3 := g1
              obtain ⟨g', cap', hv'⟩ := ownsRow_succ g1
              rw [← HN.out] at g3
              have hll : y + 1 + 1 = (M.nrm f (m + 1)).length := HL.out
              refine ⟨?_, ⟨g', cap', ?_⟩, HKE.out.trans g2⟩
              · rw [← hll]; exact g3
              · rw [← hll]; exact hv'); clear g1 g2)
            go_roundw
            case rel => exact ⟨m + 1, by omega, by go_num, HX⟩
            case measure => simp [intOf]; omega
    · have hm2 : m = 1440 := by omega
      subst hm2
      go_wp2_with fail
      go_ret
      refine ⟨_, rfl, ?_, HS.out.keeps.below (Nat.le_refl _)⟩
      exact owns_spans HS.out.own (Nat.le_trans (M.N_len f) (by decide))

/-- The contracts of the reference's four. -/
theorem Rm.spans {w wr : World} {f : Nat → Bool} (h : Rm w wr f) : Calls Try.prog 28 #[.slice (some ⟨w.heap.size, 0, none⟩) 1440 1440] wr (Hands w (M.N f)) := by
  refine (rspans_any w.heap.size f wr h.m).mono ?_
  rintro e w' ⟨v, rfl, h1, h2⟩
  exact ⟨v, rfl, h1, h.below.trans (h2.mono h.below.size)⟩

set_option maxRecDepth 100000 in
set_option maxHeartbeats 1000000 in
theorem rnormal_any {l : List M.Sp} {v : Value} {w : World} (h : SL w v l) :
    Calls Try.prog 15 #[v] w (Hands w (M.Nm l)) := by
  have HM : Hid (Calls Try.prog 29 #[v] w fun e w1 => e = .returned (.slice (some ⟨w.heap.size, 0, none⟩) 1440 1440) ∧ Hid (Calls Try.prog 28 #[.slice (some ⟨w.heap.size, 0, none⟩) 1440 1440] w1 (Hands w (M.Nm l)))) := Lib.hid (by
    refine (rminutes_any h).mono ?_
    rintro e w1 ⟨rfl, hr⟩
    exact ⟨rfl, Lib.hid hr.spans⟩)
  go_enter Try.func15, Try.ntmps15
  go_wp2_with (first
    | (go_at_call 29; (with_reducible refine HM.out.mono ?_); rintro e w1 ⟨rfl, HL⟩)
    | (go_at_call 28; (with_reducible refine HL.out.mono ?_); rintro e w3 ⟨v3, rfl, hs3, hb3⟩))
  go_ret
  exact ⟨_, rfl, hs3, hb3⟩

end Go.Proofs.Ytgabfjcobcndaaa
