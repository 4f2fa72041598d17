/- The law of the places: the walk. -/
import Derived.Test.YtaamifgneopocaaDoorSteps
import Derived.Test.YtaamifgneopocaaDoorSane
import Derived.Test.YtaamifgneopocaaDoorDigStep
namespace Go.Proofs.YtaamifgneopocaaDoor
open Go.RowKit

set_option maxRecDepth 100000 in
set_option maxHeartbeats 2000000 in
theorem climb_far (d : List UInt8) (at_ n : Int) (p cap : Nat) (a : Option Addr) (w : World) (hd : d.length = 32) (h : at_ < 0 ∨ n ≤ at_ ∨ 1099511627776 < n) :
    Calls Tryd.prog 22 #[.agg (byts d), .int .i64 at_, .int .i64 n, .slice a p cap] w fun e w' => e = .returned (.tuple #[.agg (byts zero32), .int .i64 1]) ∧ Below w.heap.size w w' := by
  have HDL := Lib.hid hd
  clear hd
  have hc : (decide (at_ < 0) = true ∧ True) ∨ (decide (at_ < 0) = false ∧ decide (n ≤ at_) = true) ∨ (decide (at_ < 0) = false ∧ decide (n ≤ at_) = false ∧ decide ((1099511627776 : Int) < n) = true) := by
    by_cases h1 : at_ < 0
    · exact .inl ⟨by rw [decide_eq_true_iff]; exact h1, trivial⟩
    · by_cases h2 : n ≤ at_
      · exact .inr (.inl ⟨by rw [decide_eq_false_iff_not]; exact h1, by rw [decide_eq_true_iff]; exact h2⟩)
      · exact .inr (.inr ⟨by rw [decide_eq_false_iff_not]; exact h1, by rw [decide_eq_false_iff_not]; exact h2, by rw [decide_eq_true_iff]; omega⟩)
  clear h
  rcases hc with ⟨g1, _⟩ | ⟨g1, g2⟩ | ⟨g1, g2, g3⟩
  all_goals
    go_enter Tryd.func22, Tryd.ntmps22
    go_step
    go_step
    refine wp_region_list ?_
    refine wpl_box rfl 26 _ rfl (byts d) rfl ?_
    refine wpl_cell rfl rfl ?_
    go_step
    go_step
    go_step
    refine wpList_nil ?_
    rename_i K1 hK1
    refine hK1 _ _ ?_
    clear hK1
    have HW := Lib.hid (boxes1 w HDL.out)
    go_simp
    generalize (w.alloc (.cells (byts d) 26)).alloc (.cells (byts zero32) 26) = W1 at HW ⊢
    go_upto_region 2 with (fail)
    refine wp_region_list ?_
    refine wpl_build_none rfl 26 rfl (byts zero32) byts_zero ?_
    refine wpl_put rfl _ _ rfl (w.heap.size + 1) _ zero32 rfl rfl HW.out.2.2 zero32_len ?_
    have HZ := Lib.hid (And.intro (below_setRow (C := w.heap.size + 1) HW.out.1 (by omega) (byts zero32)) (HW.out.2.2.set zero32_len))
    go_simp
    generalize W1.setRow (w.heap.size + 1) (byts zero32) = W2 at HZ ⊢
    go_step
    go_step
    go_step
    refine wpList_nil ?_
    go_wp2_with fail
    refine bodyPost_ret (v := .tuple #[.agg (byts zero32), .int .i64 1]) ?_ rfl ⟨rfl, HZ.out.1⟩
    exact ret_dig2 Tryd.results22 _ _ (w.heap.size + 1) _ _ rfl rfl HZ.out.2

theorem and31 (x : Int) : ∃ n : Nat, n < 32 ∧ bits .and .i64 x 31 = (n : Int) := by
  have hle : (BitVec.ofInt 64 x &&& BitVec.ofInt 64 31).toNat ≤ 31 := by
    rw [BitVec.toNat_and]
    exact Nat.and_le_right
  refine ⟨_, Nat.lt_succ_of_le hle, ?_⟩
  show IntKind.i64.wrap ((BitVec.ofInt 64 x &&& BitVec.ofInt 64 31).toNat : Int) = _
  rw [IntKind.wrap_i64]
  omega

set_option maxRecDepth 100000 in
set_option maxHeartbeats 4000000 in
theorem places_walk (a : Option Addr) (n cap : Nat) (bs : List UInt8) (at_ many : Int) (w : World) (hK : KT w) (hn : bs.length = n) (hc : n ≤ cap) (hb : BytesAt w a bs) (ha1 : -9223372036854775808 ≤ at_) (ha2 : at_ ≤ 9223372036854775807) (_ : -9223372036854775808 ≤ many) (_ : many ≤ 9223372036854775807) :
    Calls Tryd.prog 7 #[.slice a n cap, .int .i64 at_, .int .i64 many] w fun e w' => e = .returned (.bool true) ∧ Below w.heap.size w w' := by
  have HK := Lib.hid hK; have HB := Lib.hid hb; have HN := Lib.hid hn; have HCAP := Lib.hid hc
  clear hK hb hn hc
  have HS := Lib.hid (sane_any w HK.out)
  go_enter Tryd.func7, Tryd.ntmps7
  go_wp2_with fail
  refine HS.out.mono ?_
  rintro e w1 ⟨rfl, hb1⟩
  have HW1 := Lib.hid hb1
  clear hb1 HS
  have HO := Lib.hid (digestsOf_any a n cap bs w1 HN.out HCAP.out (HB.out.kept HW1.out))
  go_wp2_with fail
  refine HO.out.mono ?_
  rintro e w2 ⟨A, m, c, ds, rfl, hmc, h24, hm, hds, hb2⟩
  have HW2 := Lib.hid (HW1.out.trans (hb2.mono HW1.out.size))
  have HDS := Lib.hid hds; have HM := Lib.hid hm; have HMC := Lib.hid hmc; have H24 := Lib.hid h24
  clear HO HW1 hds hm hmc hb2 HB HN HCAP
  by_cases hin : at_ < 0 ∨ (m : Int) ≤ at_
  · have HP := Lib.hid (path_no A m c at_ w2 hin)
    have hg : (decide (at_ < 0) = true ∧ True) ∨ (decide (at_ < 0) = false ∧ decide ((m : Int) ≤ at_) = true) := by
      by_cases h1 : at_ < 0
      · exact .inl ⟨by rw [decide_eq_true_iff]; exact h1, trivial⟩
      · exact .inr ⟨by rw [decide_eq_false_iff_not]; exact h1, by rw [decide_eq_true_iff]; omega⟩
    clear hin
    rcases hg with ⟨g1, _⟩ | ⟨g1, g2⟩
    all_goals
      go_wp2_with (go_at_call 19; (with_reducible refine HP.out.mono ?_); rintro e w' ⟨rfl, rfl⟩)
      go_ret
      exact ⟨rfl, HW2.out⟩
  obtain ⟨i, rfl⟩ : ∃ i : Nat, at_ = i := ⟨at_.toNat, by omega⟩
  have him : i < m := by omega
  have hil : i < ds.length := by rw [HM.out]; exact him
  have g1 : decide ((i : Int) < 0) = false := by rw [decide_eq_false_iff_not]; omega
  have g2 : decide ((m : Int) ≤ (i : Int)) = false := by rw [decide_eq_false_iff_not]; omega
  have g2n : decide (m ≤ i) = false := by rw [decide_eq_false_iff_not]; omega
  obtain ⟨d, hd⟩ : ∃ d, d = ds[i] := ⟨_, rfl⟩
  have hdl : d.length = 32 := by rw [hd]; exact HDS.out.1 _ (List.getElem_mem hil)
  obtain ⟨b, off, ha, hbw, hcl⟩ := HDS.out.elem hil
  rw [← hd, Nat.mul_comm 32 i] at hcl
  subst ha
  obtain ⟨ss, hss⟩ : ∃ ss, ss = H.sibsF m ds i := ⟨_, rfl⟩
  have hsl := H.sibs_steps m i ds (by rw [HM.out]; exact Nat.le_refl _) (by rw [HM.out]; omega) hil
  have hs32 := H.sibsF_len m ds i
  rw [HM.out] at hsl
  have hle : H.stp m i m ≤ 5 := H.stp_small m (by omega) i him
  rw [← hsl] at hle
  rw [← hss] at hsl hs32 hle
  have HP : Hid (Calls Tryd.prog 19 #[.slice (some ⟨b, off, none⟩) m c, .int .i64 i] w2 fun e w' => ∃ A p c, e = .returned (.tuple #[.slice A p c, .int .i64 0]) ∧ p ≤ c ∧ p ≤ 5 ∧ p = H.stN i m ∧ Hid (ss.length = p ∧ DigsAt w' A ss ∧ Below w2.heap.size w2 w')) := Lib.hid (by
    refine (path_all _ m c i ds w2 (HK.out.kept HW2.out HK.out.pos) HM.out HMC.out (by omega) him HDS.out).mono ?_
    rintro e w' ⟨A, p, c, rfl, hp, ho, hb⟩
    rw [← hss] at hp ho
    obtain ⟨a', c', he, hc', hda⟩ := owns_digs ho hs32
    cases he
    exact ⟨A, p, c, rfl, hc', by omega, by rw [← hp, hsl]; rfl, Lib.hid ⟨hp, hda, hb⟩⟩)
  have HDL := Lib.hid hdl
  have HC0 := Lib.hid (And.intro hbw hcl)
  clear hd hdl hcl hbw hss hsl hs32 hle hil hin
  go_wp2_with fail
  refine HP.out.mono ?_
  rintro e w3 ⟨A', p, c', rfl, hpc, hp5, hps, HX⟩
  have HPS := Lib.hid hps
  have HW3 := Lib.hid (HW2.out.trans (HX.out.2.2.mono HW2.out.size))
  have HCE : Hid (b < w3.heap.size ∧ ∀ j, j < 32 → w3.cell? ⟨b, off + i * 32 + j, none⟩ = some (.int .u8 (H.byte d j))) := Lib.hid ⟨Nat.lt_of_lt_of_le HC0.out.1 HX.out.2.2.size, fun j hj => (HX.out.2.2.cell (p := ⟨b, off + i * 32 + j, none⟩) HC0.out.1).trans (HC0.out.2 j hj)⟩
  have HST := Lib.hid (steps_any i m w3 him (by omega))
  rw [← HPS.out] at HST
  have HSD := Lib.hid (And.intro HX.out.1 HX.out.2.1)
  clear hps HP HX HC0
  obtain ⟨r, hrl, hr31⟩ := and31 many
  have hpe : ((p : Int) != (p : Int)) = false := by simp
  go_wp2_with (go_at_call 24; (with_reducible refine HST.out.mono ?_); rintro e w' ⟨rfl, rfl⟩)
  obtain ⟨xs, hxs⟩ : ∃ xs : List Int, xs = [many, (r : Int), (m : Int) + 1, 2 * (m : Int)] := ⟨_, rfl⟩
  have hxl : xs.length = 4 := by rw [hxs]; rfl
  have HW : Hid (Below w.heap.size w (w3.alloc (.cells #[.int .i64 many, .int .i64 r, .int .i64 ((m : Int) + 1), .int .i64 (2 * (m : Int))] 3)) ∧ DigsAt (w3.alloc (.cells #[.int .i64 many, .int .i64 r, .int .i64 ((m : Int) + 1), .int .i64 (2 * (m : Int))] 3)) A' ss ∧
      (b < (w3.alloc (.cells #[.int .i64 many, .int .i64 r, .int .i64 ((m : Int) + 1), .int .i64 (2 * (m : Int))] 3)).heap.size ∧ ∀ j, j < 32 → (w3.alloc (.cells #[.int .i64 many, .int .i64 r, .int .i64 ((m : Int) + 1), .int .i64 (2 * (m : Int))] 3)).cell? ⟨b, off + i * 32 + j, none⟩ = some (.int .u8 (H.byte d j))) ∧
      w3.heap.size < (w3.alloc (.cells #[.int .i64 many, .int .i64 r, .int .i64 ((m : Int) + 1), .int .i64 (2 * (m : Int))] 3)).heap.size ∧
      ∀ j (h : j < xs.length), (w3.alloc (.cells #[.int .i64 many, .int .i64 r, .int .i64 ((m : Int) + 1), .int .i64 (2 * (m : Int))] 3)).cell? ⟨w3.heap.size, j, none⟩ = some (.int .i64 xs[j])) := Lib.hid (by
    have hb := below_new w3 (.cells #[.int .i64 many, .int .i64 r, .int .i64 ((m : Int) + 1), .int .i64 (2 * (m : Int))] 3)
    refine ⟨HW3.out.trans (hb.mono HW3.out.size), HSD.out.2.kept hb, ⟨Nat.lt_of_lt_of_le HCE.out.1 hb.size, fun j hj => (hb.cell (p := ⟨b, off + i * 32 + j, none⟩) HCE.out.1).trans (HCE.out.2 j hj)⟩, by simp, ?_⟩
    subst hxs
    intro j h
    have hj : j = 0 ∨ j = 1 ∨ j = 2 ∨ j = 3 := by simp at h; omega
    rcases hj with rfl | rfl | rfl | rfl <;> simp [World.cell?_alloc_new])
  have HXL := Lib.hid hxl
  have HSS := HSD.out.1
  clear HW3 HCE HSD hxs hxl hr31
  generalize w3.alloc (.cells #[.int .i64 many, .int .i64 r, .int .i64 ((m : Int) + 1), .int .i64 (2 * (m : Int))] 3) = W at HW ⊢
  generalize w3.heap.size = g at HW ⊢
  have HSP := Lib.hid HSS
  clear HSS
  go_loopw [62] (fun jj wr => ∃ j : Nat, j ≤ 4 ∧ jj = .int .i64 j ∧ Hid (Below W.heap.size W wr)) (fun jj _ => 4 - (intOf jj).toNat)
  case atStart => exact ⟨0, Nat.zero_le _, rfl, Lib.hid (Below.refl _ _)⟩
  case round =>
    obtain ⟨j, hj, rfl, HR⟩ := hrel
    by_cases hlt : j < 4
    · have hjl : j < xs.length := by rw [HXL.out]; exact hlt
      have hcx := (HR.out.cell (p := ⟨g, j, none⟩) HW.out.2.2.2.1).trans (HW.out.2.2.2.2 j hjl)
      obtain ⟨x, hx⟩ : ∃ x, x = xs[j] := ⟨_, rfl⟩
      rw [← hx] at hcx
      have HEL : Hid (∀ V, Below W.heap.size W V → ∀ j, j < 32 → V.cell? ⟨b, off + i * 32 + j, none⟩ = some (.int .u8 (H.byte d j))) := Lib.hid fun V hV j hj => (hV.cell (p := ⟨b, off + i * 32 + j, none⟩) HW.out.2.2.1.1).trans (HW.out.2.2.1.2 j hj)
      -- the answer of Climb, and whether it fits
      have hcase : ∃ (fits : Bool) (rt : List UInt8), rt.length = 32 ∧
          (∀ V, Below W.heap.size W V → Calls Tryd.prog 22 #[.agg (byts d), .int .i64 i, .int .i64 x, .slice A' p c'] V fun e w' => e = .returned (.tuple #[.agg (byts rt), .int .i64 (if fits then 0 else 1)]) ∧ Hid (Below V.heap.size V w')) ∧
          ((decide ((i : Int) < x) = false ∧ fits = false) ∨ (decide ((i : Int) < x) = true ∧ decide (x ≤ 1099511627776) = false ∧ fits = false) ∨
            (decide ((i : Int) < x) = true ∧ decide (x ≤ 1099511627776) = true ∧ ∃ q : Nat, ((q : Int) == (p : Int)) = fits ∧ ∀ V, Calls Tryd.prog 24 #[.int .i64 i, .int .i64 x] V fun e w' => e = .returned (.int .i64 q) ∧ V = w')) := by
        by_cases h1 : (i : Int) < x
        · by_cases h2 : x ≤ 1099511627776
          · obtain ⟨X, rfl⟩ : ∃ X : Nat, x = X := ⟨x.toNat, by omega⟩
            have hok := H.climb_ok d X i X ss.reverse (by omega) (Nat.le_refl _) (by omega) (by omega)
            rw [List.length_reverse, HSP.out] at hok
            refine ⟨decide (p = H.stp X i X), if (H.climbR d i X ss.reverse).2 then (H.climbR d i X ss.reverse).1 else zero32, ?_, ?_, .inr (.inr ⟨by rw [decide_eq_true_iff]; exact h1, by rw [decide_eq_true_iff]; exact h2, H.stN i X, ?_, fun V => steps_any i X V (by omega) (by omega)⟩)⟩
            · split
              · exact H.climbR_len _ _ _ _
              · exact zero32_len
            · intro V hV
              have hKV := HK.out.kept (HW.out.1.trans (hV.mono HW.out.1.size)) HK.out.pos
              refine (top_all d i X p c' A' ss V hKV HDL.out HSP.out hpc (by omega) (by omega) (by omega) (HW.out.2.1.kept hV)).mono ?_
              rintro e w' ⟨rfl, hb⟩
              rw [hok]
              exact ⟨rfl, Lib.hid hb⟩
            · rw [Bool.eq_iff_iff]; simp [H.stN]; omega
          · refine ⟨false, zero32, zero32_len, fun V hV => ?_, .inr (.inl ⟨by rw [decide_eq_true_iff]; exact h1, by rw [decide_eq_false_iff_not]; exact h2, rfl⟩)⟩
            refine (climb_far d i x p c' A' V HDL.out (.inr (.inr (by omega)))).mono ?_
            rintro e w' ⟨rfl, hb⟩
            exact ⟨rfl, Lib.hid hb⟩
        · refine ⟨false, zero32, zero32_len, fun V hV => ?_, .inl ⟨by rw [decide_eq_false_iff_not]; exact h1, rfl⟩⟩
          refine (climb_far d i x p c' A' V HDL.out (.inr (.inl (by omega)))).mono ?_
          rintro e w' ⟨rfl, hb⟩
          exact ⟨rfl, Lib.hid hb⟩
      obtain ⟨fits, rt, hrt, hcl, hways⟩ := hcase
      have HRT := Lib.hid hrt; have HCL := Lib.hid hcl
      clear hrt hcl hx hjl
      have HWA : Hid ((decide ((i : Int) < x) = false ∧ fits = false) ∨ (decide ((i : Int) < x) = true ∧ decide (x ≤ 1099511627776) = false ∧ fits = false) ∨
            (decide ((i : Int) < x) = true ∧ decide (x ≤ 1099511627776) = true ∧ ∃ q : Nat, ((q : Int) == (p : Int)) = fits ∧ ∀ V, Calls Tryd.prog 24 #[.int .i64 i, .int .i64 x] V fun e w' => e = .returned (.int .i64 q) ∧ V = w')) := Lib.hid hways
      clear hways
      go_upto_region 12 with (fail)
      go_cut [12] (fun a12 wx => a12 = .bool fits ∧ wr = wx)
      case first =>
        rcases HWA.out with ⟨q1, rfl⟩ | ⟨q1, q2, rfl⟩ | ⟨q1, q2, q, q3, hs⟩
        · clear HWA
          go_wp2_with fail
          go_meet
          exact ⟨rfl, rfl⟩
        · clear HWA
          go_wp2_with fail
          go_meet
          exact ⟨rfl, rfl⟩
        · have HS := Lib.hid hs
          clear HWA hs
          go_wp2_with (go_at_call 24; (with_reducible refine (HS.out _).mono ?_); rintro e w' ⟨rfl, rfl⟩)
          go_meet
          exact ⟨rfl, rfl⟩
      case rest =>
        obtain ⟨rfl, rfl⟩ := hcut
        clear HWA
        go_upto_region 13 with (fail)
        refine wp_region_list ?_
        iterate 8 go_step
        refine wpl_elem rfl _ rfl b (off + i * 32) d rfl HDL.out (HEL.out _ HR.out) ?_
        have HCX := Lib.hid (HCL.out _ HR.out)
        go_simp
        go_wp2_with fail
        refine HCX.out.mono ?_
        rintro e w5 ⟨rfl, HY⟩
        rename_i K9 hK9
        refine hK9 _ _ ?_
        clear hK9
        iterate 9 go_step
        refine wpl_cell rfl rfl ?_
        refine wpl_put rfl _ _ rfl w5.heap.size zero32 rt rfl rfl (Dig.new w5 zero32_len) HRT.out ?_
        go_step
        go_step
        go_step
        refine wpList_nil ?_
        have HZ : Hid (Below W.heap.size W ((w5.alloc (.cells (byts zero32) 26)).setRow w5.heap.size (byts rt))) := Lib.hid (by
          have h5 := HR.out.trans (HY.out.mono HR.out.size)
          exact below_setRow (h5.alloc h5.size _) h5.size _)
        clear HR HY HCX HCL HEL
        go_simp
        generalize (w5.alloc (.cells (byts zero32) 26)).setRow w5.heap.size (byts rt) = W6 at HZ ⊢
        cases fits
        all_goals
          go_wp2_with fail
          go_roundw
          case rel => exact ⟨j + 1, by omega, by go_num, HZ⟩
          case measure => simp [intOf]; omega
    · obtain rfl : j = 4 := by omega
      go_wp2_with fail
      go_ret
      exact ⟨rfl, HW.out.1.trans (HR.out.mono HW.out.1.size)⟩

end Go.Proofs.YtaamifgneopocaaDoor
