/- CodecDifferent holds: the encodings of two values are equal exactly if the values are, and otherwise none of them is the beginning of the other one. No condition. -/
import Derived.Test.YtmhchpdogjbpmaaRoundTrip
namespace Go.Proofs.Ytmhchpdogjbpmaa
open Go.ChangeShapes Go.WideShapes Go.ChangeAt Go.RowKit

theorem M.same_symm {d e : Nat} {t : M.T d} {u : M.T e} (h : M.same e u d t = true) : M.same d t e u = true := M.same_join d t e u d t (M.same_refl d t) h

/-- Where the beginnings of two encodings are the same, the values are. -/
theorem M.same_of_takes {d : Nat} {t u : M.T d} (ht : M.check d t = 0) (hu : M.check d u = 0) (ft : M.fits d t) (fu : M.fits d u) (n : Nat) (hn : n = min (M.enc d t).length (M.enc d u).length) (h : (M.enc d t).take n = (M.enc d u).take n) : M.same d t d u = true := by
  obtain ⟨h1, h2⟩ := M.check_zero ht
  obtain ⟨h3, h4⟩ := M.check_zero hu
  rcases Nat.le_total (M.enc d t).length (M.enc d u).length with hl | hl
  · rw [List.take_of_length_le (by omega)] at h
    refine M.same_of_prefix h1 h2 ft h3 h4 fu (r := (M.enc d u).drop n) ?_
    rw [h, List.take_append_drop]
  · rw [List.take_of_length_le (l := M.enc d u) (by omega)] at h
    refine M.same_symm (M.same_of_prefix h3 h4 fu h1 h2 ft (r := (M.enc d t).drop n) ?_)
    rw [← h, List.take_append_drop]

theorem BytesAt.take {w : World} {a : Option Addr} {bs : List UInt8} (n : Nat) (h : BytesAt w a bs) : BytesAt w a (bs.take n) := fun i hi => by
  have hi2 : i < bs.length := by rw [List.length_take] at hi; omega
  obtain ⟨ad, ha, hc⟩ := h i hi2
  exact ⟨ad, ha, by simpa using hc⟩

theorem bytesEq_false {a b : List UInt8} (h : a ≠ b) : ((⟨a.toArray⟩ : ByteArray).toList == (⟨b.toArray⟩ : ByteArray).toList) = false := by
  rw [beq_eq_false_iff_ne]
  intro h2
  have := M.toList_inj h2
  exact h (by simpa using this)

set_option maxRecDepth 100000 in
set_option maxHeartbeats 4000000 in
theorem different_walk (d : Nat) (t u : M.T d) (v v' : Value) (w : World) (hr : Rep w.heap.size w d t v) (hr' : Rep w.heap.size w d u v') :
    Calls Try.prog 7 #[v, v'] w fun e w' => e = .returned (.bool true) ∧ Below w.heap.size w w' := by
  obtain ⟨k, n, s, a, len, cap, rfl⟩ := hr.shape
  obtain ⟨k', n', s', a', len', cap', rfl⟩ := hr'.shape
  have HFT := Lib.hid (fits_rep hr); have HFU := Lib.hid (fits_rep hr')
  have hbx := boxes2_new w (.int .i64 k) (.int .i64 n) (.string s) (.slice a len cap) (.int .i64 k') (.int .i64 n') (.string s') (.slice a' len' cap')
  have hbw : Below w.heap.size w ((w.alloc (.cells #[.int .i64 k, .int .i64 n, .string s, .slice a len cap] 24)).alloc (.cells #[.int .i64 k', .int .i64 n', .string s', .slice a' len' cap'] 24)) := ((Below.refl _ _).alloc (Nat.le_refl _) _).alloc (by simp) _
  have hrA := hr.later hbw
  have hrA' := hr'.later hbw
  go_enter Try.func7, Try.ntmps7
  go_wp2_with fail
  clear hr hr'
  generalize (w.alloc (.cells #[.int .i64 k, .int .i64 n, .string s, .slice a len cap] 24)).alloc (.cells #[.int .i64 k', .int .i64 n', .string s', .slice a' len' cap'] 24) = WA at *
  refine (sane_any WA).mono ?_
  rintro e w1 ⟨rfl, g1⟩
  have hbx1 := hbx.kept g1
  have HR := Lib.hid (hrA.later g1)
  have HR' := Lib.hid (hrA'.later g1)
  have hb1 := hbw.trans (g1.mono hbw.size)
  clear hbx hrA hrA' hbw g1
  obtain ⟨⟨b0, b1, b2, b3⟩, gg⟩ := cells4 hbx1.1
  obtain ⟨⟨d0, d1, d2, d3⟩, gg2⟩ := cells4 hbx1.2
  have HBX := Lib.hid hbx1
  clear gg gg2 hbx1
  go_wp2_with fail
  have hbA : Below w1.heap.size w1 (w1.alloc (.cells #[.int .i64 k, .int .i64 n, .string s, .slice a len cap, .int .i64 k', .int .i64 n', .string s', .slice a' len' cap'] 24)) := (Below.refl _ _).alloc (Nat.le_refl _) _
  have HEL := Lib.hid (elems_two (heap_alloc_new w1 (.cells #[.int .i64 k, .int .i64 n, .string s, .slice a len cap, .int .i64 k', .int .i64 n', .string s', .slice a' len' cap'] 24)) (HR.out.later hbA) (HR'.out.later hbA))
  cases hfw : (decide (M.cnt d t 21 ≤ 200) && decide (M.cnt d u 21 ≤ 200)) with
  | false =>
    refine (few_pair false hfw HEL.out).mono ?_
    rintro e w2 ⟨rfl, hb2⟩
    have hbE := hb1.trans ((hbA.trans (hb2.mono hbA.size)).mono hb1.size)
    clear hbA hb2 HEL hfw b0 b1 b2 b3 d0 d1 d2 d3
    go_wp2_with fail
    go_ret
    exact ⟨rfl, hbE⟩
  | true =>
  have hcnt : M.cnt d t 21 ≤ 200 ∧ M.cnt d u 21 ≤ 200 := by simpa using hfw
  refine (few_pair true hfw HEL.out).mono ?_
  rintro e w2 ⟨rfl, hb2⟩
  have hb12 := hbA.trans (hb2.mono hbA.size)
  have hbx2 := HBX.out.kept hb12
  have HR2 := Lib.hid (HR.out.later hb12)
  have HR2' := Lib.hid (HR'.out.later hb12)
  have hbw2 := hb1.trans (hb12.mono hb1.size)
  clear HR HR' HBX hb12 hb2 hbA HEL hfw hb1 b0 b1 b2 b3 d0 d1 d2 d3
  obtain ⟨⟨b0, b1, b2, b3⟩, gg⟩ := cells4 hbx2.1
  have HBX2 := Lib.hid hbx2
  clear gg hbx2
  have hst := M.cnt_small d t 21 hcnt.1
  have hsu := M.cnt_small d u 21 hcnt.2
  obtain ⟨m, hm⟩ : ∃ m, (M.enc d t).length = m := ⟨_, rfl⟩
  obtain ⟨m', hm'⟩ : ∃ m, (M.enc d u).length = m := ⟨_, rfl⟩
  have hml : m ≤ 44000 := by omega
  have hml' : m' ≤ 44000 := by omega
  have hht : M.height d t ≤ 1099511627776 := by omega
  have hhu : M.height d u ≤ 1099511627776 := by omega
  have HM := Lib.hid hm; have HM' := Lib.hid hm'
  clear hcnt hst hsu hm hm'
  by_cases ht : M.check d t = 0
  case neg =>
    have hne : (M.check d t == 0) = false := by simpa using ht
    have hne2 : (M.check d t != 0) = true := by simpa using ht
    have HT := Lib.hid ht; clear ht
    by_cases hu : M.check d u = 0
    case pos =>
      have HU := Lib.hid hu; clear hu
      go_wp2_with fail
      refine (encode_any d t _ w2 HR2.out hht (by have := HM.out; omega)).mono ?_
      rintro e w3 hres3
      rcases hres3.cases with ⟨h0, _⟩ | ⟨_, rfl, hb3⟩
      · exact absurd h0 HT.out
      clear hres3
      have hbx3 := HBX2.out.kept hb3
      have HR3 := Lib.hid (HR2.out.later hb3)
      have HR3' := Lib.hid (HR2'.out.later hb3)
      have hbw3 := hbw2.trans (hb3.mono hbw2.size)
      clear HR2 HR2' HBX2 hbw2 hb3 b0 b1 b2 b3
      obtain ⟨⟨d0, d1, d2, d3⟩, gg⟩ := cells4 hbx3.2
      have HBX3 := Lib.hid hbx3
      clear gg hbx3
      go_wp2_with fail
      refine (encode_at d u _ w3 _ m' HR3'.out hhu HU.out rfl HM'.out (by omega)).mono ?_
      rintro e w4 ⟨a4, cap4, rfl, hc4, hby4, hb4⟩
      have hbw4 := hbw3.trans (hb4.mono hbw3.size)
      clear HR3 HR3' HBX3 hbw3 hb4 d0 d1 d2 d3 HM HM' HFT HFU
      go_wp2_with fail
      go_ret
      exact ⟨rfl, hbw4⟩
    case neg =>
      have hnu : (M.check d u == 0) = false := by simpa using hu
      have hnu2 : (M.check d u != 0) = true := by simpa using hu
      have HU := Lib.hid hu; clear hu
      go_wp2_with fail
      refine (encode_any d t _ w2 HR2.out hht (by have := HM.out; omega)).mono ?_
      rintro e w3 hres3
      rcases hres3.cases with ⟨h0, _⟩ | ⟨_, rfl, hb3⟩
      · exact absurd h0 HT.out
      clear hres3
      have hbx3 := HBX2.out.kept hb3
      have HR3 := Lib.hid (HR2.out.later hb3)
      have HR3' := Lib.hid (HR2'.out.later hb3)
      have hbw3 := hbw2.trans (hb3.mono hbw2.size)
      clear HR2 HR2' HBX2 hbw2 hb3 b0 b1 b2 b3
      obtain ⟨⟨d0, d1, d2, d3⟩, gg⟩ := cells4 hbx3.2
      have HBX3 := Lib.hid hbx3
      clear gg hbx3
      go_wp2_with fail
      refine (encode_any d u _ w3 HR3'.out hhu (by have := HM'.out; omega)).mono ?_
      rintro e w4 hres4
      rcases hres4.cases with ⟨h0, _⟩ | ⟨_, rfl, hb4⟩
      · exact absurd h0 HU.out
      clear hres4
      have hbw4 := hbw3.trans (hb4.mono hbw3.size)
      clear HR3 HR3' HBX3 hbw3 hb4 d0 d1 d2 d3 HM HM' HFT HFU
      go_wp2_with fail
      go_ret
      exact ⟨rfl, hbw4⟩
  case pos =>
    have HT := Lib.hid ht; clear ht
    by_cases hu : M.check d u = 0
    case neg =>
      have hnu : (M.check d u == 0) = false := by simpa using hu
      have hnu2 : (M.check d u != 0) = true := by simpa using hu
      have HU := Lib.hid hu; clear hu
      go_wp2_with fail
      refine (encode_at d t _ w2 _ m HR2.out hht HT.out rfl HM.out (by omega)).mono ?_
      rintro e w3 ⟨a3, cap3, rfl, hc3, hby3, hb3⟩
      have hbx3 := HBX2.out.kept hb3
      have HR3 := Lib.hid (HR2.out.later hb3)
      have HR3' := Lib.hid (HR2'.out.later hb3)
      have hbw3 := hbw2.trans (hb3.mono hbw2.size)
      clear HR2 HR2' HBX2 hbw2 hb3 b0 b1 b2 b3
      obtain ⟨⟨d0, d1, d2, d3⟩, gg⟩ := cells4 hbx3.2
      have HBX3 := Lib.hid hbx3
      clear gg hbx3
      go_wp2_with fail
      refine (encode_any d u _ w3 HR3'.out hhu (by have := HM'.out; omega)).mono ?_
      rintro e w4 hres4
      rcases hres4.cases with ⟨h0, _⟩ | ⟨_, rfl, hb4⟩
      · exact absurd h0 HU.out
      clear hres4
      have hbw4 := hbw3.trans (hb4.mono hbw3.size)
      clear HR3 HR3' HBX3 hbw3 hb4 d0 d1 d2 d3 HM HM' HFT HFU
      go_wp2_with fail
      go_ret
      exact ⟨rfl, hbw4⟩
    case pos =>
      have HU := Lib.hid hu; clear hu
      go_wp2_with fail
      refine (encode_at d t _ w2 _ m HR2.out hht HT.out rfl HM.out (by omega)).mono ?_
      rintro e w3 ⟨a3, cap3, rfl, hc3, hby3, hb3⟩
      have hbx3 := HBX2.out.kept hb3
      have HR3 := Lib.hid (HR2.out.later hb3)
      have HR3' := Lib.hid (HR2'.out.later hb3)
      have hbw3 := hbw2.trans (hb3.mono hbw2.size)
      clear HR2 HR2' HBX2 hbw2 hb3 b0 b1 b2 b3
      obtain ⟨⟨d0, d1, d2, d3⟩, gg⟩ := cells4 hbx3.2
      have HBX3 := Lib.hid hbx3
      clear gg hbx3
      go_wp2_with fail
      refine (encode_at d u _ w3 _ m' HR3'.out hhu HU.out rfl HM'.out (by omega)).mono ?_
      rintro e w4 ⟨a4, cap4, rfl, hc4, hby4, hb4⟩
      have HE3 := Lib.hid (hby3.kept hb4); have HE4 := Lib.hid hby4
      have hbx4 := HBX3.out.kept hb4
      have HR4 := Lib.hid (HR3.out.later hb4)
      have HR4' := Lib.hid (HR3'.out.later hb4)
      have hbw4 := hbw3.trans (hb4.mono hbw3.size)
      clear HR3 HR3' HBX3 hbw3 hb4 hby3 hby4 d0 d1 d2 d3
      obtain ⟨⟨b0, b1, b2, b3⟩, gg⟩ := cells4 hbx4.1
      obtain ⟨⟨d0, d1, d2, d3⟩, gg2⟩ := cells4 hbx4.2
      clear gg gg2 hbx4
      go_wp2_with fail
      have hs5 := same_any d t d u _ _ w4 HR4.out HR4'.out
      cases hsm : M.same d t d u with
      | true =>
        rw [hsm] at hs5
        have henc := M.enc_same d t d u hsm
        refine hs5.mono ?_
        rintro e w5 ⟨rfl, hb5⟩
        have cv1 := bytes_str cap3 (HE3.out.kept hb5) HM.out (s := ⟨(M.enc d t).toArray⟩) rfl
        have cv2 := bytes_str cap4 (HE4.out.kept hb5) HM'.out (s := ⟨(M.enc d t).toArray⟩) (by rw [henc])
        have hbw5 := hbw4.trans (hb5.mono hbw4.size)
        clear hs5 hb5 hbw4 HR4 HR4' HE3 HE4 hsm henc HM HM' HT HU HFT HFU b0 b1 b2 b3 d0 d1 d2 d3
        have hq : ((⟨(M.enc d t).toArray⟩ : ByteArray).toList == (⟨(M.enc d t).toArray⟩ : ByteArray).toList) = true := by simp
        generalize (⟨(M.enc d t).toArray⟩ : ByteArray) = rs at *
        go_wp2_with fail
        go_ret
        exact ⟨rfl, hbw5⟩
      | false =>
        rw [hsm] at hs5
        refine hs5.mono ?_
        rintro e w5 ⟨rfl, hb5⟩
        have HE5 := Lib.hid (HE3.out.kept hb5)
        have HE6 := Lib.hid (HE4.out.kept hb5)
        have hbw5 := hbw4.trans (hb5.mono hbw4.size)
        obtain ⟨q, hqd⟩ : ∃ q, q = min m m' := ⟨_, rfl⟩
        have hqm : q ≤ m := by omega
        have hqm' : q ≤ m' := by omega
        have hmin : min (m : Int) (m' : Int) = (q : Int) := by omega
        have hdiff : (M.enc d t).take q ≠ (M.enc d u).take q := fun h => by
          have := M.same_of_takes HT.out HU.out HFT.out HFU.out q (by rw [HM.out, HM'.out]; exact hqd) h
          rw [hsm] at this; simp at this
        have hl1 : ((M.enc d t).take q).length = q := by rw [List.length_take, HM.out]; omega
        have hl2 : ((M.enc d u).take q).length = q := by rw [List.length_take, HM'.out]; omega
        have hq := bytesEq_false hdiff
        have cv1 : ∀ (dd : Nat) (os : Array Obj), (convert 27 9 (.slice a3 q cap3)).run Try.prog (Sort.grow (redrawn w5 dd) os) = .ok (.string ⟨((M.enc d t).take q).toArray⟩) (Sort.grow (redrawn w5 dd) os) :=
          fun dd os => bytes_str cap3 ((HE5.out.kept (below_regrown w5 dd os)).take q) hl1 rfl
        have cv2 : ∀ (dd : Nat) (os : Array Obj), (convert 27 9 (.slice a4 q cap4)).run Try.prog (Sort.grow (redrawn w5 dd) os) = .ok (.string ⟨((M.enc d u).take q).toArray⟩) (Sort.grow (redrawn w5 dd) os) :=
          fun dd os => bytes_str cap4 ((HE6.out.kept (below_regrown w5 dd os)).take q) hl2 rfl
        clear hs5 hb5 hbw4 HR4 HR4' HE3 HE4 HE5 HE6 hsm HM HM' HT HU HFT HFU b0 b1 b2 b3 d0 d1 d2 d3 hdiff hl1 hl2 hqd
        generalize (⟨((M.enc d t).take q).toArray⟩ : ByteArray) = r1 at *
        generalize (⟨((M.enc d u).take q).toArray⟩ : ByteArray) = r2 at *
        have hq2 : (r1.toList != r2.toList) = true := by simp [bne, hq]
        go_wp2_with fail
        refine wp_region_qb (by kernel_rfl) ?_
        repeat (go_big_quiet_step (fail))
        refine wpQuiet_nil ?_
        intro W2 hb2
        clear cv1 cv2
        go_wp2_with fail
        go_ret
        exact ⟨rfl, hbw5.trans (hb2.mono hbw5.size)⟩

set_option maxRecDepth 100000 in
theorem different_lifted (os : Os) (started : os.Started) (H : Type) (enc : TypeId × Value → H) :
    ReturnsInHanded {} Try.checked os 7 .any (Rows.codecDifferentSpec.pre6 enc Try.prog Try.f7 Rows.codecDifferentRow.domain false) (Rows.codecDifferentSpec.post enc Try.prog Try.f7 false true false false) := by
  refine returnsInHanded_of_change_sized (C := Try.checked) Try.ownKnob0 started (by kernel_rfl) Try.func7
    (ChangeSpec.witness6 (enc := enc) (C := Try.checked) false ⟨#[], #[.agg #[.int .i64 0, .int .i64 0, .string ⟨#[]⟩, .slice none 0 0], .agg #[.int .i64 0, .int .i64 0, .string ⟨#[]⟩, .slice none 0 0]], []⟩ 8 (by kernel_rfl) (by kernel_rfl) (by kernel_rfl) (by kernel_rfl)) ?_
  intro W base args ds gs before hval0 hW hcnd hsz0 _
  have hval : ∀ (j : Nat) t v, Try.f7.params[j]? = some t → args[j]? = some v → Value.okWide Try.prog W .any base t v := hval0
  have hW' := hW
  obtain ⟨p, q, hA0, hV, rfl, _, _⟩ := hW
  have hA : DataW.TrodAll enc Try.prog W 0 (fun _ => true) true Try.f7.params.toList args.toList ds p := hA0
  obtain ⟨rfl, rfl⟩ := trodVars_none hV
  have hsz : (DataW.weightsEach Try.prog (Try.f7.params.toList ++ []) (ds ++ [])).all (fun x => decide (x ≤ reachBytes)) = true := hsz0
  rw [List.append_nil, List.append_nil] at hsz
  rw [Try.params7] at hA hval hsz
  obtain ⟨d, t, u, v, v', rfl, hr, hr'⟩ := open_two hval hA hsz
  clear hA0 hval0
  refine (different_walk d t u v v' W hr hr').mono fun e W' ⟨he, hb⟩ => ?_
  subst he
  exact ⟨_, rfl, law_post Try.laidOut0 (by decide +kernel) Try.underlying4 rfl rfl (by
    match ds, hA with
    | [_, _], _ => rfl) hW' hb⟩

theorem different_holds : Rows.CodecDifferentSaid :=
  OpenClaim.holds_of_wide 7 Try.f7 rfl rfl rfl rfl rfl rfl rfl ⟨rfl, rfl, rfl, rfl, rfl⟩ rfl rfl rfl rfl rfl (by kernel_rfl) Try.func7 (by kernel_rfl)
    (of_decide_eq_true (by kernel_rfl)) (by unfold Func.isWrapper; first | (rw [if_pos (by decide +kernel)]; kernel_rfl) | (rw [if_neg (by decide +kernel)]; exact ⟨rfl, rfl⟩))
    (fun os started H enc _ => different_lifted os started H enc)

#print axioms different_holds
end Go.Proofs.Ytmhchpdogjbpmaa
