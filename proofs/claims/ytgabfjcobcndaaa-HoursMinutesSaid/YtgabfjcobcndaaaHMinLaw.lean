/- The walk of HoursMinutes. -/
import Derived.Test.YtgabfjcobcndaaaHAlg
namespace Go.Proofs.Ytgabfjcobcndaaa
open Go.RowKit

namespace M
theorem good_at : ∀ {l : List Sp} {lo : Int}, Good l lo → ∀ i (h : i < l.length), lo < l[i].1 ∧ l[i].1 < l[i].2 ∧ (∀ h0 : 0 < i, (l[i - 1]'(by omega)).2 < l[i].1)
  | [], _, _, i, h => by simp at h
  | s :: r, lo, hg, 0, _ => ⟨hg.1, hg.2.1, fun h0 => by omega⟩
  | s :: r, lo, hg, i + 1, h => by
    have hi : i < r.length := by simpa using h
    have h1 := good_at hg.2.2 i hi
    refine ⟨?_, h1.2.1, fun _ => ?_⟩
    · have := hg.1; have := hg.2.1; have := h1.1
      show lo < r[i].1
      omega
    · cases i with
      | zero => exact h1.1
      | succ i => exact h1.2.2 (by omega)
theorem N_at (f : Nat → Bool) (i : Nat) (h : i < (N f).length) : 0 ≤ (N f)[i].1 ∧ (N f)[i].1 < (N f)[i].2 ∧ (N f)[i].2 ≤ 1440 ∧ (∀ h0 : 0 < i, ((N f)[i - 1]'(by omega)).2 < (N f)[i].1) := by
  obtain ⟨h1, h2, _⟩ := nrm_good f 1440
  have h3 := good_at h1 i h
  have h4 := h2 (N f)[i] (List.getElem_mem _)
  exact ⟨by have := h3.1; show (0 : Int) ≤ (nrm f 1440)[i].1; omega, h3.2.1, by omega, h3.2.2⟩
theorem N_chk (f : Nat → Bool) : chk (N f) = true := by
  unfold chk
  rw [List.all_eq_true]
  intro s hs
  obtain ⟨i, hi, rfl⟩ := List.getElem_of_mem hs
  obtain ⟨h1, h2, h3, _⟩ := N_at f i hi
  simp [h1, h2, h3]
theorem N_err (f : Nat → Bool) : err (N f) = 0 := err_ok (N_chk f)
theorem has_U (a b : List Sp) (x : Int) : has (U a b) x = (has a x || has b x) := by
  by_cases h0 : 0 ≤ x
  · by_cases h1 : x < 1440
    · obtain ⟨k, rfl⟩ : ∃ k : Nat, x = (k : Int) := ⟨x.toNat, by omega⟩
      rw [has_nat (by omega), has_nat (by omega), has_nat (by omega), mn_U (by omega)]
    · rw [has_hi (by omega), has_hi (by omega), has_hi (by omega)]; rfl
  · rw [has_lo (by omega), has_lo (by omega), has_lo (by omega)]; rfl
theorem has_I (a b : List Sp) (x : Int) : has (I a b) x = (has a x && has b x) := by
  by_cases h0 : 0 ≤ x
  · by_cases h1 : x < 1440
    · obtain ⟨k, rfl⟩ : ∃ k : Nat, x = (k : Int) := ⟨x.toNat, by omega⟩
      rw [has_nat (by omega), has_nat (by omega), has_nat (by omega), mn_I (by omega)]
    · rw [has_hi (by omega), has_hi (by omega), has_hi (by omega)]; rfl
  · rw [has_lo (by omega), has_lo (by omega), has_lo (by omega)]; rfl
theorem has_D (a b : List Sp) (x : Int) : has (D a b) x = (has a x && !has b x) := by
  by_cases h0 : 0 ≤ x
  · by_cases h1 : x < 1440
    · obtain ⟨k, rfl⟩ : ∃ k : Nat, x = (k : Int) := ⟨x.toNat, by omega⟩
      rw [has_nat (by omega), has_nat (by omega), has_nat (by omega), mn_D (by omega)]
    · rw [has_hi (by omega), has_hi (by omega), has_hi (by omega)]; rfl
  · rw [has_lo (by omega), has_lo (by omega), has_lo (by omega)]; rfl
theorem has_Nm (a : List Sp) (x : Int) : has (Nm a) x = has a x := by
  by_cases h0 : 0 ≤ x
  · by_cases h1 : x < 1440
    · obtain ⟨k, rfl⟩ : ∃ k : Nat, x = (k : Int) := ⟨x.toNat, by omega⟩
      rw [has_nat (by omega), has_nat (by omega), mn_Nm (by omega)]
    · rw [has_hi (by omega), has_hi (by omega)]
  · rw [has_lo (by omega), has_lo (by omega)]
end M

/-- A value that is a normal list. -/
def NL (w : World) (v : Value) : Prop := ∃ f, SL w v (M.N f)
theorem NL.kept {w w' : World} {v : Value} (h : NL w v) (hb : Below w.heap.size w w') : NL w' v := h.imp fun _ h => h.kept hb
/-- Four values in a block of their own. -/
def Four (w : World) (g : Nat) (v0 v1 v2 v3 : Value) (t : TypeId) : Prop := w.heap[g]? = some (.cells #[v0, v1, v2, v3] t (0, 0))
theorem Four.at {w : World} {g : Nat} {v0 v1 v2 v3 : Value} {t : TypeId} (h : Four w g v0 v1 v2 v3 t) {P : Value → Prop} (h0 : P v0) (h1 : P v1) (h2 : P v2) (h3 : P v3) (k : Nat) (hk : k < 4) : ∃ v, w.cell? ⟨g, k, none⟩ = some v ∧ P v := by
  have hc := cell_of_row w g k _ _ _ h
  have : k = 0 ∨ k = 1 ∨ k = 2 ∨ k = 3 := by omega
  rcases this with rfl | rfl | rfl | rfl
  · exact ⟨v0, hc, h0⟩
  · exact ⟨v1, hc, h1⟩
  · exact ⟨v2, hc, h2⟩
  · exact ⟨v3, hc, h3⟩

/-- What stands through the law. -/
structure Mw (w W : World) (g : Nat) (va vb vu vm vd vn : Value) (la lb : List M.Sp) : Prop where
  a : SL W va la
  b : SL W vb lb
  u : SL W vu (M.U la lb)
  m : SL W vm (M.I la lb)
  d : SL W vd (M.D la lb)
  n : SL W vn (M.Nm la)
  four : Four W g vu vm vd vn 22
  below : Below w.heap.size w W
theorem Mw.kept {w W W' : World} {g : Nat} {va vb vu vm vd vn : Value} {la lb : List M.Sp} (h : Mw w W g va vb vu vm vd vn la lb) (hb : Below W.heap.size W W') : Mw w W' g va vb vu vm vd vn la lb :=
  ⟨h.a.kept hb, h.b.kept hb, h.u.kept hb, h.m.kept hb, h.d.kept hb, h.n.kept hb, (hb.block g (Array.getElem?_eq_some_iff.1 h.four).1).trans h.four, h.below.trans (hb.mono h.below.size)⟩
theorem Mw.alloc {w W : World} {g : Nat} {va vb vu vm vd vn : Value} {la lb : List M.Sp} (h : Mw w W g va vb vu vm vd vn la lb) (o : Obj) : Mw w (W.alloc o) g va vb vu vm vd vn la lb :=
  h.kept ((Below.refl _ _).alloc (Nat.le_refl _) _)

set_option maxRecDepth 100000 in
set_option maxHeartbeats 4000000 in
theorem min_walk {la lb : List M.Sp} {va vb : Value} {w : World} (sa : SL w va la) (sb : SL w vb lb) (x : Int) :
    Calls Try.prog 5 #[va, vb, .int .i64 x] w fun e w' => e = .returned (.bool true) ∧ Below w.heap.size w w' := by
  have HS := Lib.hid (sane_any w)
  by_cases fa : la.length ≤ 40
  case neg =>
    go_enter Try.func5, Try.ntmps5
    go_wp2_with fail
    refine HS.out.mono ?_
    rintro e w0 ⟨rfl, hb⟩
    replace sa := sa.kept hb
    replace sb := sb.kept hb
    have HB := Lib.hid hb
    clear hb HS
    go_wp2_with (go_at_call 10; (with_reducible refine (few_no (by assumption) fa).mono ?_); rintro e w1 ⟨rfl, rfl⟩)
    go_ret
    exact ⟨rfl, HB.out⟩
  by_cases fb : lb.length ≤ 40
  case neg =>
    go_enter Try.func5, Try.ntmps5
    go_wp2_with fail
    refine HS.out.mono ?_
    rintro e w0 ⟨rfl, hb⟩
    replace sa := sa.kept hb
    replace sb := sb.kept hb
    have HB := Lib.hid hb
    clear hb HS
    go_wp2_with (first | (go_at_call 10; (with_reducible refine (few_yes (by assumption) fa).mono ?_); rintro e w1 ⟨rfl, rfl⟩) | (go_at_call 10; (with_reducible refine (few_no (by assumption) fb).mono ?_); rintro e w1 ⟨rfl, rfl⟩))
    go_ret
    exact ⟨rfl, HB.out⟩
  go_enter Try.func5, Try.ntmps5
  go_wp2_with fail
  refine HS.out.mono ?_
  rintro e w0 ⟨rfl, hb⟩
  replace sa := sa.kept hb
  replace sb := sb.kept hb
  have HB := Lib.hid hb
  clear hb HS
  go_wp2_with (first
    | (go_at_call 10; (with_reducible refine (few_yes (by assumption) fa).mono ?_); rintro e w1 ⟨rfl, rfl⟩)
    | (go_at_call 10; (with_reducible refine (few_yes (by assumption) fb).mono ?_); rintro e w1 ⟨rfl, rfl⟩)
    | (go_at_call 16; (with_reducible refine (u_any sa sb).mono ?_); rintro e w1 ⟨vu, rfl, su, hb⟩; obtain ⟨au, cu, hvu, _, _⟩ := id su; subst hvu; replace sa := sa.kept hb; replace sb := sb.kept hb; have HB := Lib.hid (HB.out.trans (hb.mono HB.out.size)); clear hb)
    | (go_at_call 18; (with_reducible refine (i_any sa sb).mono ?_); rintro e w1 ⟨vm, rfl, sm, hb⟩; obtain ⟨am, cm, hvm, _, _⟩ := id sm; subst hvm; replace sa := sa.kept hb; replace sb := sb.kept hb; replace su := su.kept hb; have HB := Lib.hid (HB.out.trans (hb.mono HB.out.size)); clear hb)
    | (go_at_call 20; (with_reducible refine (d_any sa sb).mono ?_); rintro e w1 ⟨vd, rfl, sd, hb⟩; obtain ⟨ad, cd, hvd, _, _⟩ := id sd; subst hvd; replace sa := sa.kept hb; replace sb := sb.kept hb; replace su := su.kept hb; replace sm := sm.kept hb; have HB := Lib.hid (HB.out.trans (hb.mono HB.out.size)); clear hb)
    | (go_at_call 14; (with_reducible refine (nm_any sa).mono ?_); rintro e w1 ⟨vn, rfl, sn, hb⟩; obtain ⟨an, cn, hvn, _, _⟩ := id sn; subst hvn; replace sa := sa.kept hb; replace sb := sb.kept hb; replace su := su.kept hb; replace sm := sm.kept hb; replace sd := sd.kept hb; have HB := Lib.hid (HB.out.trans (hb.mono HB.out.size)); clear hb))
  have HW : Hid (Mw w (w1.alloc (.cells #[.slice au (M.U la lb).length cu, .slice am (M.I la lb).length cm, .slice ad (M.D la lb).length cd, .slice an (M.Nm la).length cn] 22)) w1.heap.size va vb (.slice au (M.U la lb).length cu) (.slice am (M.I la lb).length cm) (.slice ad (M.D la lb).length cd) (.slice an (M.Nm la).length cn) la lb) := Lib.hid (by
    have hb : Below w1.heap.size w1 (w1.alloc (.cells #[.slice au (M.U la lb).length cu, .slice am (M.I la lb).length cm, .slice ad (M.D la lb).length cd, .slice an (M.Nm la).length cn] 22)) := (Below.refl _ _).alloc (Nat.le_refl _) _
    exact ⟨sa.kept hb, sb.kept hb, su.kept hb, sm.kept hb, sd.kept hb, sn.kept hb, heap_alloc_new w1 _, HB.out.trans (hb.mono HB.out.size)⟩)
  clear sa sb su sm sd sn HB
  generalize (M.U la lb).length = nu at *
  generalize (M.I la lb).length = nm at *
  generalize (M.D la lb).length = nd at *
  generalize (M.Nm la).length = nn at *
  generalize w1.alloc (.cells #[.slice au nu cu, .slice am nm cm, .slice ad nd cd, .slice an nn cn] 22) = W0 at HW ⊢
  generalize w1.heap.size = g at HW ⊢
  go_loopw [44] (fun ii wr => ∃ k : Nat, k ≤ 4 ∧ ii = .int .i64 k ∧ Hid (Mw w wr g va vb (.slice au nu cu) (.slice am nm cm) (.slice ad nd cd) (.slice an nn cn) la lb))
    (fun ii _ => 4 - (intOf ii).toNat)
  case atStart => exact ⟨0, Nat.zero_le _, rfl, HW⟩
  case round =>
    obtain ⟨k, hk, rfl, HM⟩ := hrel
    clear HW
    by_cases hk4 : k < 4
    · obtain ⟨v, hc, f, a, c, hv, hsp, hll⟩ := HM.out.four.at (P := NL wr) ⟨_, HM.out.u⟩ ⟨_, HM.out.m⟩ ⟨_, HM.out.d⟩ ⟨_, HM.out.n⟩ k hk4
      subst hv
      have HSL := Lib.hid hsp
      have HAT := Lib.hid (M.N_at f)
      obtain ⟨n, hn⟩ : ∃ n, (M.N f).length = n := ⟨_, rfl⟩
      have hnb : n ≤ 1440 := by rw [← hn]; exact M.N_len f
      have HN := Lib.hid hn
      rw [hn] at hc
      clear hsp hll hn
      go_wp2_with fail
      clear hc
      have HI : Hid (Mw w wr g va vb (.slice au nu cu) (.slice am nm cm) (.slice ad nd cd) (.slice an nn cn) la lb ∧ SpansAt wr a (M.N f)) := Lib.hid ⟨HM.out, HSL.out⟩
      clear HM HSL
      go_loopw [50] (fun ii wr => ∃ i : Nat, i ≤ n ∧ ii = .int .i64 i ∧ Hid (Mw w wr g va vb (.slice au nu cu) (.slice am nm cm) (.slice ad nd cd) (.slice an nn cn) la lb ∧ SpansAt wr a (M.N f)))
        (fun ii _ => n - (intOf ii).toNat)
      case atStart => exact ⟨0, Nat.zero_le _, rfl, HI⟩
      case round =>
        obtain ⟨i, hi, rfl, HK⟩ := hrel
        clear HI
        by_cases hin : i < n
        · have hil : i < (M.N f).length := by rw [HN.out]; exact hin
          obtain ⟨b1, o1, rfl, x0, x1⟩ := HK.out.2.at i hil
          obtain ⟨r1, r2, r3, r4⟩ := HAT.out i hil
          obtain ⟨p, hp⟩ : ∃ p, (M.N f)[i].1 = p := ⟨_, rfl⟩
          obtain ⟨q, hq⟩ : ∃ p, (M.N f)[i].2 = p := ⟨_, rfl⟩
          rw [hp] at x0 r1 r2 r4; rw [hq] at x1 r2 r3
          have d1 : decide (p < 0) = false := by simp; omega
          have d2 : decide (q ≤ p) = false := by simp; omega
          have d3 : decide (1440 < q) = false := by simp; omega
          have HA : Hid (Mw w (wr.alloc (.cells #[.int .i64 p, .int .i64 q] 32)) g va vb (.slice au nu cu) (.slice am nm cm) (.slice ad nd cd) (.slice an nn cn) la lb ∧ SpansAt (wr.alloc (.cells #[.int .i64 p, .int .i64 q] 32)) (some ⟨b1, o1, none⟩) (M.N f)) :=
            Lib.hid ⟨HK.out.1.alloc _, HK.out.2.kept ((Below.refl _ _).alloc (Nat.le_refl _) _)⟩
          have hbx := (SpBox.new wr (p, q)).cell
          have m0 := cell_regrown hbx.1
          have m1 := cell_regrown hbx.2
          simp only at m0 m1
          clear hbx hp hq r1 r2 r3
          cases i with
          | zero =>
            have k0 : True := trivial
            have k1 : True := trivial
            have e0 : decide ((0 : Int) > 0) = false := by simp
            rw [Nat.zero_mul, Nat.add_zero] at x0 x1
            clear r4
            go_wp2_with fail
            refine wp_region_qb (by kernel_rfl) ?_
            repeat (go_big_quiet_step (fail))
            refine wpQuiet_nil ?_
            intro W2 hb2
            have HW2 := Lib.hid (And.intro (HA.out.1.kept hb2) (HA.out.2.kept hb2))
            clear k0 k1 m0 m1 hb2 
            go_wp2_with fail
            go_roundw
            case rel => exact ⟨0 + 1, by omega, by go_num, HW2⟩
            case measure => simp [intOf]; omega
          | succ i =>
            have r5 := r4 (by omega)
            obtain ⟨b2, o2, he, _, y1⟩ := HA.out.2.at i (by omega)
            simp at he
            obtain ⟨rfl, rfl⟩ := he
            obtain ⟨e, hee⟩ : ∃ e, ((M.N f)[i]'(by omega)).2 = e := ⟨_, rfl⟩
            have r6 : e < p := by rw [← hee]; exact r5
            rw [hee] at y1
            have k1 := cell_regrown y1
            have k0 : True := trivial
            have e0 : decide (p ≤ e) = false := by simp; omega
            have e1 : IntKind.i64.wrap (((i + 1 : Nat) : Int) - 1) = (i : Int) := by rw [IntWalk.i64_in _ (by omega)]; omega
            have e2 : decide ((0 : Int) < ((i + 1 : Nat) : Int)) = true := by simp
            clear hee r4 r5 r6 y1
            go_wp2_with fail
            refine wp_region_qb (by kernel_rfl) ?_
            repeat (go_big_quiet_step (fail))
            refine wpQuiet_nil ?_
            intro W2 hb2
            have HW2 := Lib.hid (And.intro (HA.out.1.kept hb2) (HA.out.2.kept hb2))
            clear k0 k1 m0 m1 hb2 
            go_wp2_with fail
            go_roundw
            case rel => exact ⟨i + 1 + 1, by omega, by go_num, HW2⟩
            case measure => simp [intOf]; omega
        · have hin2 : i = n := by omega
          have HC : Hid (SL wr (.slice a n c) (M.N f)) := Lib.hid ⟨a, c, by rw [HN.out], HK.out.2, by rw [HN.out]; omega⟩
          replace HK := Lib.hid HK.out.1
          go_wp2_with (go_at_call 11; (with_reducible refine (check_to HC.out 0 (M.N_err f)).mono ?_); rintro e w1 ⟨rfl, hb⟩; replace HK := Lib.hid (HK.out.kept hb); clear hb)
          go_roundw
          case rel => exact ⟨k + 1, by omega, by go_num, HK⟩
          case measure => simp [intOf]; omega
    · go_wp2_with fail
      have HM2 := HM.out.alloc (.cells #[.int .i64 x, .int .i64 (bits .and .i64 x 1023), .int .i64 0, .int .i64 1439] 3)
      have H42 : Hid (Four (wr.alloc (.cells #[.int .i64 x, .int .i64 (bits .and .i64 x 1023), .int .i64 0, .int .i64 1439] 3)) wr.heap.size (.int .i64 x) (.int .i64 (bits .and .i64 x 1023)) (.int .i64 0) (.int .i64 1439) 3) := Lib.hid (heap_alloc_new wr _)
      have HM3 := Lib.hid HM2
      clear HM HM2 hk hk4
      generalize bits .and .i64 x 1023 = z at *
      generalize wr.alloc (.cells #[.int .i64 x, .int .i64 z, .int .i64 0, .int .i64 1439] 3) = W1 at *
      generalize wr.heap.size = g2 at *
      go_loopw [95] (fun ii wr => ∃ j : Nat, j ≤ 4 ∧ ii = .int .i64 j ∧ Hid (Mw w wr g va vb (.slice au nu cu) (.slice am nm cm) (.slice ad nd cd) (.slice an nn cn) la lb) ∧ Hid (Four wr g2 (.int .i64 x) (.int .i64 z) (.int .i64 0) (.int .i64 1439) 3))
        (fun ii _ => 4 - (intOf ii).toNat)
      case atStart => exact ⟨0, Nat.zero_le _, rfl, HM3, H42⟩
      case round =>
        obtain ⟨j, hj, rfl, HM, H4⟩ := hrel
        clear HM3 H42
        by_cases hj4 : j < 4
        · obtain ⟨v, hc, y, hv⟩ := H4.out.at (P := fun v => ∃ y : Int, v = .int .i64 y) ⟨_, rfl⟩ ⟨_, rfl⟩ ⟨_, rfl⟩ ⟨_, rfl⟩ j hj4
          subst hv
          cases hp : M.has la y with
          | true =>
            cases hq : M.has lb y with
            | true =>
              have hu := Lib.hid (M.has_U la lb y); have hm := Lib.hid (M.has_I la lb y); have hd := Lib.hid (M.has_D la lb y); have hn := Lib.hid (M.has_Nm la y)
              rw [hp, hq] at hu hm hd; rw [hp] at hn
              replace hu : Hid (M.has (M.U la lb) y = true) := hu; replace hm : Hid (M.has (M.I la lb) y = true) := hm; replace hd : Hid (M.has (M.D la lb) y = false) := hd
              have HP := Lib.hid hp; have HQ := Lib.hid hq
              clear hp hq
              go_wp2_with (first
                | (go_at_call 22; (with_reducible refine (has_to HM.out.a y true HP.out).mono ?_); rintro e w1 ⟨rfl, hb⟩; replace HM := Lib.hid (HM.out.kept hb); replace H4 := Lib.hid (show Four _ g2 _ _ _ _ _ from (hb.block g2 (Array.getElem?_eq_some_iff.1 H4.out).1).trans H4.out); clear hb)
                | (go_at_call 22; (with_reducible refine (has_to HM.out.b y true HQ.out).mono ?_); rintro e w1 ⟨rfl, hb⟩; replace HM := Lib.hid (HM.out.kept hb); replace H4 := Lib.hid (show Four _ g2 _ _ _ _ _ from (hb.block g2 (Array.getElem?_eq_some_iff.1 H4.out).1).trans H4.out); clear hb)
                | (go_at_call 22; (with_reducible refine (has_to HM.out.u y true hu.out).mono ?_); rintro e w1 ⟨rfl, hb⟩; replace HM := Lib.hid (HM.out.kept hb); replace H4 := Lib.hid (show Four _ g2 _ _ _ _ _ from (hb.block g2 (Array.getElem?_eq_some_iff.1 H4.out).1).trans H4.out); clear hb)
                | (go_at_call 22; (with_reducible refine (has_to HM.out.m y true hm.out).mono ?_); rintro e w1 ⟨rfl, hb⟩; replace HM := Lib.hid (HM.out.kept hb); replace H4 := Lib.hid (show Four _ g2 _ _ _ _ _ from (hb.block g2 (Array.getElem?_eq_some_iff.1 H4.out).1).trans H4.out); clear hb)
                | (go_at_call 22; (with_reducible refine (has_to HM.out.d y false hd.out).mono ?_); rintro e w1 ⟨rfl, hb⟩; replace HM := Lib.hid (HM.out.kept hb); replace H4 := Lib.hid (show Four _ g2 _ _ _ _ _ from (hb.block g2 (Array.getElem?_eq_some_iff.1 H4.out).1).trans H4.out); clear hb)
                | (go_at_call 22; (with_reducible refine (has_to HX.out y true hn.out).mono ?_); rintro e w1 ⟨rfl, hb⟩; replace HM := Lib.hid (HM.out.kept hb); replace H4 := Lib.hid (show Four _ g2 _ _ _ _ _ from (hb.block g2 (Array.getElem?_eq_some_iff.1 H4.out).1).trans H4.out); clear hb)
                | (go_at_call 14; (with_reducible refine (nm_any HM.out.a).mono ?_); rintro e w1 ⟨v1, rfl, hs, hb⟩; replace HM := Lib.hid (HM.out.kept hb); replace H4 := Lib.hid (show Four _ g2 _ _ _ _ _ from (hb.block g2 (Array.getElem?_eq_some_iff.1 H4.out).1).trans H4.out); have HX := Lib.hid hs; clear hb hs))
              go_roundw
              case rel => exact ⟨j + 1, by omega, by go_num, HM, H4⟩
              case measure => simp [intOf]; omega
            | false =>
              have hu := Lib.hid (M.has_U la lb y); have hm := Lib.hid (M.has_I la lb y); have hd := Lib.hid (M.has_D la lb y); have hn := Lib.hid (M.has_Nm la y)
              rw [hp, hq] at hu hm hd; rw [hp] at hn
              replace hu : Hid (M.has (M.U la lb) y = true) := hu; replace hm : Hid (M.has (M.I la lb) y = false) := hm; replace hd : Hid (M.has (M.D la lb) y = true) := hd
              have HP := Lib.hid hp; have HQ := Lib.hid hq
              clear hp hq
              go_wp2_with (first
                | (go_at_call 22; (with_reducible refine (has_to HM.out.a y true HP.out).mono ?_); rintro e w1 ⟨rfl, hb⟩; replace HM := Lib.hid (HM.out.kept hb); replace H4 := Lib.hid (show Four _ g2 _ _ _ _ _ from (hb.block g2 (Array.getElem?_eq_some_iff.1 H4.out).1).trans H4.out); clear hb)
                | (go_at_call 22; (with_reducible refine (has_to HM.out.b y false HQ.out).mono ?_); rintro e w1 ⟨rfl, hb⟩; replace HM := Lib.hid (HM.out.kept hb); replace H4 := Lib.hid (show Four _ g2 _ _ _ _ _ from (hb.block g2 (Array.getElem?_eq_some_iff.1 H4.out).1).trans H4.out); clear hb)
                | (go_at_call 22; (with_reducible refine (has_to HM.out.u y true hu.out).mono ?_); rintro e w1 ⟨rfl, hb⟩; replace HM := Lib.hid (HM.out.kept hb); replace H4 := Lib.hid (show Four _ g2 _ _ _ _ _ from (hb.block g2 (Array.getElem?_eq_some_iff.1 H4.out).1).trans H4.out); clear hb)
                | (go_at_call 22; (with_reducible refine (has_to HM.out.m y false hm.out).mono ?_); rintro e w1 ⟨rfl, hb⟩; replace HM := Lib.hid (HM.out.kept hb); replace H4 := Lib.hid (show Four _ g2 _ _ _ _ _ from (hb.block g2 (Array.getElem?_eq_some_iff.1 H4.out).1).trans H4.out); clear hb)
                | (go_at_call 22; (with_reducible refine (has_to HM.out.d y true hd.out).mono ?_); rintro e w1 ⟨rfl, hb⟩; replace HM := Lib.hid (HM.out.kept hb); replace H4 := Lib.hid (show Four _ g2 _ _ _ _ _ from (hb.block g2 (Array.getElem?_eq_some_iff.1 H4.out).1).trans H4.out); clear hb)
                | (go_at_call 22; (with_reducible refine (has_to HX.out y true hn.out).mono ?_); rintro e w1 ⟨rfl, hb⟩; replace HM := Lib.hid (HM.out.kept hb); replace H4 := Lib.hid (show Four _ g2 _ _ _ _ _ from (hb.block g2 (Array.getElem?_eq_some_iff.1 H4.out).1).trans H4.out); clear hb)
                | (go_at_call 14; (with_reducible refine (nm_any HM.out.a).mono ?_); rintro e w1 ⟨v1, rfl, hs, hb⟩; replace HM := Lib.hid (HM.out.kept hb); replace H4 := Lib.hid (show Four _ g2 _ _ _ _ _ from (hb.block g2 (Array.getElem?_eq_some_iff.1 H4.out).1).trans H4.out); have HX := Lib.hid hs; clear hb hs))
              go_roundw
              case rel => exact ⟨j + 1, by omega, by go_num, HM, H4⟩
              case measure => simp [intOf]; omega
          | false =>
            cases hq : M.has lb y with
            | true =>
              have hu := Lib.hid (M.has_U la lb y); have hm := Lib.hid (M.has_I la lb y); have hd := Lib.hid (M.has_D la lb y); have hn := Lib.hid (M.has_Nm la y)
              rw [hp, hq] at hu hm hd; rw [hp] at hn
              replace hu : Hid (M.has (M.U la lb) y = true) := hu; replace hm : Hid (M.has (M.I la lb) y = false) := hm; replace hd : Hid (M.has (M.D la lb) y = false) := hd
              have HP := Lib.hid hp; have HQ := Lib.hid hq
              clear hp hq
              go_wp2_with (first
                | (go_at_call 22; (with_reducible refine (has_to HM.out.a y false HP.out).mono ?_); rintro e w1 ⟨rfl, hb⟩; replace HM := Lib.hid (HM.out.kept hb); replace H4 := Lib.hid (show Four _ g2 _ _ _ _ _ from (hb.block g2 (Array.getElem?_eq_some_iff.1 H4.out).1).trans H4.out); clear hb)
                | (go_at_call 22; (with_reducible refine (has_to HM.out.b y true HQ.out).mono ?_); rintro e w1 ⟨rfl, hb⟩; replace HM := Lib.hid (HM.out.kept hb); replace H4 := Lib.hid (show Four _ g2 _ _ _ _ _ from (hb.block g2 (Array.getElem?_eq_some_iff.1 H4.out).1).trans H4.out); clear hb)
                | (go_at_call 22; (with_reducible refine (has_to HM.out.u y true hu.out).mono ?_); rintro e w1 ⟨rfl, hb⟩; replace HM := Lib.hid (HM.out.kept hb); replace H4 := Lib.hid (show Four _ g2 _ _ _ _ _ from (hb.block g2 (Array.getElem?_eq_some_iff.1 H4.out).1).trans H4.out); clear hb)
                | (go_at_call 22; (with_reducible refine (has_to HM.out.m y false hm.out).mono ?_); rintro e w1 ⟨rfl, hb⟩; replace HM := Lib.hid (HM.out.kept hb); replace H4 := Lib.hid (show Four _ g2 _ _ _ _ _ from (hb.block g2 (Array.getElem?_eq_some_iff.1 H4.out).1).trans H4.out); clear hb)
                | (go_at_call 22; (with_reducible refine (has_to HM.out.d y false hd.out).mono ?_); rintro e w1 ⟨rfl, hb⟩; replace HM := Lib.hid (HM.out.kept hb); replace H4 := Lib.hid (show Four _ g2 _ _ _ _ _ from (hb.block g2 (Array.getElem?_eq_some_iff.1 H4.out).1).trans H4.out); clear hb)
                | (go_at_call 22; (with_reducible refine (has_to HX.out y false hn.out).mono ?_); rintro e w1 ⟨rfl, hb⟩; replace HM := Lib.hid (HM.out.kept hb); replace H4 := Lib.hid (show Four _ g2 _ _ _ _ _ from (hb.block g2 (Array.getElem?_eq_some_iff.1 H4.out).1).trans H4.out); clear hb)
                | (go_at_call 14; (with_reducible refine (nm_any HM.out.a).mono ?_); rintro e w1 ⟨v1, rfl, hs, hb⟩; replace HM := Lib.hid (HM.out.kept hb); replace H4 := Lib.hid (show Four _ g2 _ _ _ _ _ from (hb.block g2 (Array.getElem?_eq_some_iff.1 H4.out).1).trans H4.out); have HX := Lib.hid hs; clear hb hs))
              go_roundw
              case rel => exact ⟨j + 1, by omega, by go_num, HM, H4⟩
              case measure => simp [intOf]; omega
            | false =>
              have hu := Lib.hid (M.has_U la lb y); have hm := Lib.hid (M.has_I la lb y); have hd := Lib.hid (M.has_D la lb y); have hn := Lib.hid (M.has_Nm la y)
              rw [hp, hq] at hu hm hd; rw [hp] at hn
              replace hu : Hid (M.has (M.U la lb) y = false) := hu; replace hm : Hid (M.has (M.I la lb) y = false) := hm; replace hd : Hid (M.has (M.D la lb) y = false) := hd
              have HP := Lib.hid hp; have HQ := Lib.hid hq
              clear hp hq
              go_wp2_with (first
                | (go_at_call 22; (with_reducible refine (has_to HM.out.a y false HP.out).mono ?_); rintro e w1 ⟨rfl, hb⟩; replace HM := Lib.hid (HM.out.kept hb); replace H4 := Lib.hid (show Four _ g2 _ _ _ _ _ from (hb.block g2 (Array.getElem?_eq_some_iff.1 H4.out).1).trans H4.out); clear hb)
                | (go_at_call 22; (with_reducible refine (has_to HM.out.b y false HQ.out).mono ?_); rintro e w1 ⟨rfl, hb⟩; replace HM := Lib.hid (HM.out.kept hb); replace H4 := Lib.hid (show Four _ g2 _ _ _ _ _ from (hb.block g2 (Array.getElem?_eq_some_iff.1 H4.out).1).trans H4.out); clear hb)
                | (go_at_call 22; (with_reducible refine (has_to HM.out.u y false hu.out).mono ?_); rintro e w1 ⟨rfl, hb⟩; replace HM := Lib.hid (HM.out.kept hb); replace H4 := Lib.hid (show Four _ g2 _ _ _ _ _ from (hb.block g2 (Array.getElem?_eq_some_iff.1 H4.out).1).trans H4.out); clear hb)
                | (go_at_call 22; (with_reducible refine (has_to HM.out.m y false hm.out).mono ?_); rintro e w1 ⟨rfl, hb⟩; replace HM := Lib.hid (HM.out.kept hb); replace H4 := Lib.hid (show Four _ g2 _ _ _ _ _ from (hb.block g2 (Array.getElem?_eq_some_iff.1 H4.out).1).trans H4.out); clear hb)
                | (go_at_call 22; (with_reducible refine (has_to HM.out.d y false hd.out).mono ?_); rintro e w1 ⟨rfl, hb⟩; replace HM := Lib.hid (HM.out.kept hb); replace H4 := Lib.hid (show Four _ g2 _ _ _ _ _ from (hb.block g2 (Array.getElem?_eq_some_iff.1 H4.out).1).trans H4.out); clear hb)
                | (go_at_call 22; (with_reducible refine (has_to HX.out y false hn.out).mono ?_); rintro e w1 ⟨rfl, hb⟩; replace HM := Lib.hid (HM.out.kept hb); replace H4 := Lib.hid (show Four _ g2 _ _ _ _ _ from (hb.block g2 (Array.getElem?_eq_some_iff.1 H4.out).1).trans H4.out); clear hb)
                | (go_at_call 14; (with_reducible refine (nm_any HM.out.a).mono ?_); rintro e w1 ⟨v1, rfl, hs, hb⟩; replace HM := Lib.hid (HM.out.kept hb); replace H4 := Lib.hid (show Four _ g2 _ _ _ _ _ from (hb.block g2 (Array.getElem?_eq_some_iff.1 H4.out).1).trans H4.out); have HX := Lib.hid hs; clear hb hs))
              go_roundw
              case rel => exact ⟨j + 1, by omega, by go_num, HM, H4⟩
              case measure => simp [intOf]; omega
        · go_wp2_with fail
          go_ret
          exact ⟨rfl, HM.out.below⟩

end Go.Proofs.Ytgabfjcobcndaaa
