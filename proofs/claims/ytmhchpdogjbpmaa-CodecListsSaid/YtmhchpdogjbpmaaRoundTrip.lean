/- CodecRoundTrip holds: Decode of the encoding of a value is the same value, and Encode of what Decode returns are the same bytes. No condition. -/
import Derived.Test.YtmhchpdogjbpmaaSameSpec
import Derived.Test.YtmhchpdogjbpmaaTrees
namespace Go.Proofs.Ytmhchpdogjbpmaa
open Go.ChangeShapes Go.WideShapes Go.ChangeAt Go.RowKit

theorem fits_rep {B : Nat} {w : World} : ∀ {d : Nat} {t : M.T d} {v : Value}, Rep B w d t v → M.fits d t
  | 0, _, _, h => h.elim
  | d + 1, (k, n, s, l), v, ⟨_, h2, h3, h4, a, cap, hv, hl⟩ => by
    refine ⟨h2, by omega, by omega, fun x hx => ?_⟩
    rcases hl with rfl | ⟨b, off, _, _, hc⟩
    · simp at hx
    · obtain ⟨i, hi⟩ := List.getElem?_of_mem hx
      obtain ⟨c0, c1, c2, c3, _, _, _, _, hr⟩ := hc i x hi
      exact fits_rep hr

theorem dec_enc {d : Nat} {t : M.T d} (hc : M.check d t = 0) (hf : M.fits d t) : M.dec (M.enc d t) = some (M.norm d t 16) := by
  obtain ⟨h1, h2⟩ := M.check_zero hc
  have := M.rdVal_enc d t 16 [] h1 h2 hf
  rw [List.append_nil] at this
  unfold M.dec; rw [this]

theorem enc_dec {bs : List UInt8} {t : M.T 17} (h : M.dec bs = some t) : M.check 17 t = 0 ∧ M.enc 17 t = bs := by
  unfold M.dec at h
  split at h
  · rename_i t' heq
    obtain rfl := Option.some.inj h
    obtain ⟨⟨h1, h2⟩, h3⟩ := M.enc_rdVal 16 bs t' [] heq
    exact ⟨M.check_of h1 h2, by rw [List.append_nil] at h3; exact h3.symm⟩
  · simp at h

theorem box_stays {w w' : World} {B : Nat} {o : Obj} (h : w.heap[B]? = some o) (hb : Below w.heap.size w w') : w'.heap[B]? = some o :=
  (hb.block B (Array.getElem?_eq_some_iff.1 h).1).trans h

set_option maxRecDepth 100000 in
set_option maxHeartbeats 4000000 in
theorem roundTrip_walk (d : Nat) (t : M.T d) (v : Value) (pa : Option Addr) (raw : List UInt8) (nr capr : Nat) (w : World) (hr : Rep w.heap.size w d t v) (hby : BytesAt w pa raw) (hn : raw.length = nr) (hnc : nr ≤ capr) :
    Calls Try.prog 6 #[v, .slice pa nr capr] w fun e w' => e = .returned (.bool true) ∧ Below w.heap.size w w' := by
  obtain ⟨k, n, s, a, len, cap, rfl⟩ := hr.shape
  have hfit := fits_rep hr
  have hbx := heap_alloc_new w (.cells #[.int .i64 k, .int .i64 n, .string s, .slice a len cap] 24)
  have hbw : Below w.heap.size w (w.alloc (.cells #[.int .i64 k, .int .i64 n, .string s, .slice a len cap] 24)) := (Below.refl _ _).alloc (Nat.le_refl _) _
  have hrA := hr.later hbw
  have hbyA := hby.kept hbw
  have HN := Lib.hid hn; have HFIT := Lib.hid hfit
  clear hr hby hn hfit
  go_enter Try.func6, Try.ntmps6
  go_wp2_with fail
  have hge : w.heap.size ≤ w.heap.size := Nat.le_refl _
  generalize w.alloc (.cells #[.int .i64 k, .int .i64 n, .string s, .slice a len cap] 24) = WA at *
  refine (sane_any WA).mono ?_
  rintro e w1 ⟨rfl, g1⟩
  have hbx1 := box_stays hbx g1
  have HR := Lib.hid (hrA.later g1)
  have HBY := Lib.hid (hbyA.kept g1)
  have hb1 := hbw.trans (g1.mono hbw.size)
  clear hbx hrA hbyA hbw g1 hge
  obtain ⟨⟨b0, b1, b2, b3⟩, gg⟩ := cells4 hbx1
  clear gg
  have HBX := Lib.hid hbx1; clear hbx1
  have hbA : Below w1.heap.size w1 (w1.alloc (.cells #[.int .i64 k, .int .i64 n, .string s, .slice a len cap] 24)) := (Below.refl _ _).alloc (Nat.le_refl _) _
  have HEL := Lib.hid (elems_one (heap_alloc_new w1 (.cells #[.int .i64 k, .int .i64 n, .string s, .slice a len cap] 24)) (HR.out.later hbA))
  cases hfw : decide (M.cnt d t 21 ≤ 200) with
  | false =>
    go_wp2_with fail
    refine (few_single false hfw HEL.out).mono ?_
    rintro e w2 ⟨rfl, hb2⟩
    have hbE := hb1.trans ((hbA.trans (hb2.mono hbA.size)).mono hb1.size)
    clear hbA hb2 HEL hfw b0 b1 b2 b3
    go_wp2_with fail
    go_ret
    exact ⟨rfl, hbE⟩
  | true =>
  have hcnt : M.cnt d t 21 ≤ 200 := by simpa using hfw
  go_wp2_with fail
  refine (few_single true hfw HEL.out).mono ?_
  rintro e w2 ⟨rfl, hb2⟩
  have hb12 := hbA.trans (hb2.mono hbA.size)
  have hbx2 := box_stays HBX.out hb12
  have HR2 := Lib.hid (HR.out.later hb12)
  have HBY2 := Lib.hid (HBY.out.kept hb12)
  have hbw2 := hb1.trans (hb12.mono hb1.size)
  clear HR HBX HBY hb12 hb2 hbA HEL hfw hb1 b0 b1 b2 b3
  obtain ⟨⟨b0, b1, b2, b3⟩, gg⟩ := cells4 hbx2
  have HBX2 := Lib.hid hbx2
  clear gg hbx2
  by_cases hnr : nr ≤ 2000
  case neg =>
    go_wp2_with fail
    go_ret
    exact ⟨rfl, hbw2⟩
  case pos =>
  have hsm := M.cnt_small d t 21 hcnt
  have hsz : (M.enc d t).length ≤ 44000 := by omega
  have hht : M.height d t ≤ 1099511627776 := by omega
  clear hcnt hsm
  by_cases hck : M.check d t = 0
  case pos =>
    have HSZ := Lib.hid hsz
    obtain ⟨m, hm⟩ : ∃ m, (M.enc d t).length = m := ⟨_, rfl⟩
    have hml : m ≤ 44000 := by omega
    have HM := Lib.hid hm; have HCK := Lib.hid hck; clear hm hck hsz
    go_wp2_with fail
    refine (encode_at d t _ w2 _ m HR2.out hht HCK.out rfl HM.out (by omega)).mono ?_
    rintro e w3 ⟨a3, cap3, rfl, hc3, hby3, hb3⟩
    have HE3 := Lib.hid hby3
    have hbx3 := box_stays HBX2.out hb3
    have HR3 := Lib.hid (HR2.out.later hb3)
    have HBY3 := Lib.hid (HBY2.out.kept hb3)
    have hbw3 := hbw2.trans (hb3.mono hbw2.size)
    clear HR2 HBX2 HBY2 hbw2 hb3 hby3 b0 b1 b2 b3
    obtain ⟨⟨b0, b1, b2, b3⟩, gg⟩ := cells4 hbx3
    have HBX3 := Lib.hid hbx3
    clear gg hbx3
    go_wp2_with fail
    have hc4 := check_any d t _ w3 HR3.out hht
    rw [HCK.out] at hc4
    refine hc4.mono ?_
    rintro e w4 ⟨rfl, hb4⟩
    have HE4 := Lib.hid (HE3.out.kept hb4)
    have hbx4 := box_stays HBX3.out hb4
    have HR4 := Lib.hid (HR3.out.later hb4)
    have HBY4 := Lib.hid (HBY3.out.kept hb4)
    have hbw4 := hbw3.trans (hb4.mono hbw3.size)
    clear HR3 HBX3 HBY3 hbw3 hb4 HE3 hc4 b0 b1 b2 b3
    have HBX4 := Lib.hid hbx4
    clear hbx4
    go_wp2_with fail
    refine (decode_at a3 m cap3 _ w4 _ HM.out (by omega) hc3 HE4.out (dec_enc HCK.out HFIT.out)).mono ?_
    rintro e w5 ⟨k5, n5, s5, l5, len5, cap5, rfl, hr5, hb5⟩
    have hwA := heap_alloc_new w5 (.cells #[.int .i64 k5, .int .i64 n5, .string s5, .slice l5 len5 cap5] 24)
    have hbA : Below w5.heap.size w5 (w5.alloc (.cells #[.int .i64 k5, .int .i64 n5, .string s5, .slice l5 len5 cap5] 24)) := (Below.refl _ _).alloc (Nat.le_refl _) _
    have HW := Lib.hid (hr5.later hbA)
    have hb45 := hb5.trans (hbA.mono hb5.size)
    have hbx5 := box_stays HBX4.out hb45
    have HR5 := Lib.hid (HR4.out.later hb45)
    have HBY5 := Lib.hid (HBY4.out.kept hb45)
    have hbw5 := hbw4.trans (hb45.mono hbw4.size)
    clear HR4 HBX4 HBY4 hbw4 hb5 hbA hb45 HE4 hr5
    obtain ⟨⟨b0, b1, b2, b3⟩, gg⟩ := cells4 hbx5
    obtain ⟨⟨d0, d1, d2, d3⟩, gg2⟩ := cells4 hwA
    have HBX5 := Lib.hid hbx5
    have HWA := Lib.hid hwA
    clear gg gg2 hbx5 hwA
    have HSN := Lib.hid (M.same_norm d t 16 (M.check_zero HCK.out).1 (M.check_zero HCK.out).2)
    go_wp2_with fail
    generalize w5.alloc (.cells #[.int .i64 k5, .int .i64 n5, .string s5, .slice l5 len5 cap5] 24) = WB at *
    have hs6 := same_any d t 17 _ _ _ WB HR5.out HW.out
    rw [HSN.out] at hs6
    refine hs6.mono ?_
    rintro e w6 ⟨rfl, hb6⟩
    have hbx6 := box_stays HBX5.out hb6
    have hwx6 := box_stays HWA.out hb6
    have HR6 := Lib.hid (HR5.out.later hb6)
    have HW6 := Lib.hid (HW.out.later hb6)
    have HBY6 := Lib.hid (HBY5.out.kept hb6)
    have hbw6 := hbw5.trans (hb6.mono hbw5.size)
    clear HR5 HBX5 HBY5 hbw5 hb6 hs6 HW HWA b0 b1 b2 b3 d0 d1 d2 d3
    obtain ⟨⟨b0, b1, b2, b3⟩, gg⟩ := cells4 hbx6
    obtain ⟨⟨d0, d1, d2, d3⟩, gg2⟩ := cells4 hwx6
    clear gg gg2 hbx6 hwx6
    go_wp2_with fail
    have hs7 := rsame_any d t 17 _ _ _ w6 HR6.out HW6.out
    rw [HSN.out] at hs7
    refine hs7.mono ?_
    rintro e wT ⟨rfl, hb7⟩
    have HBYT := Lib.hid (HBY6.out.kept hb7)
    have hbwT := hbw6.trans (hb7.mono hbw6.size)
    clear HR6 HBY6 hbw6 hb7 hs7 HW6 b0 b1 b2 b3 d0 d1 d2 d3 HSN HM HCK HFIT
    cases hdec : M.dec raw with
    | none =>
      have HD := Lib.hid hdec; clear hdec
      go_wp2_with fail
      refine (decode_no pa nr capr raw wT HN.out (by omega) hnc HBYT.out HD.out).mono ?_
      rintro e w8 ⟨rfl, hb8⟩
      have hxA := heap_alloc_new w8 (.cells #[.int .i64 0, .int .i64 0, .string ⟨#[]⟩, .slice none 0 0] 24)
      obtain ⟨⟨x0, x1, x2, x3⟩, gg⟩ := cells4 hxA
      have hbw8 := (hbwT.trans (hb8.mono hbwT.size)).alloc (hbwT.trans (hb8.mono hbwT.size)).size (.cells #[.int .i64 0, .int .i64 0, .string ⟨#[]⟩, .slice none 0 0] 24)
      clear gg hxA hb8 hbwT HBYT HD HN
      go_wp2_with fail
      generalize w8.alloc (.cells #[.int .i64 0, .int .i64 0, .string ⟨#[]⟩, .slice none 0 0] 24) = WX at *
      have hs9 := same_any 1 tZero 1 tZero _ _ WX (rep_zero WX) (rep_zero WX)
      rw [show M.same 1 tZero 1 tZero = true from by kernel_rfl] at hs9
      refine hs9.mono ?_
      rintro e w9 ⟨rfl, hb9⟩
      have hbw9 := hbw8.trans (hb9.mono hbw8.size)
      clear hs9 hb9 hbw8 x0 x1 x2 x3
      go_wp2_with fail
      go_ret
      exact ⟨rfl, hbw9⟩
    | some tx =>
      obtain ⟨hcx, hex⟩ := enc_dec hdec
      have HD := Lib.hid hdec; have HCX := Lib.hid hcx; have HEX := Lib.hid hex; clear hdec hcx hex
      go_wp2_with fail
      refine (decode_at pa nr capr raw wT tx HN.out (by omega) hnc HBYT.out HD.out).mono ?_
      rintro e w8 ⟨k8, n8, s8, l8, len8, cap8, rfl, hr8, hb8⟩
      have hxA := heap_alloc_new w8 (.cells #[.int .i64 k8, .int .i64 n8, .string s8, .slice l8 len8 cap8] 24)
      have hbA : Below w8.heap.size w8 (w8.alloc (.cells #[.int .i64 k8, .int .i64 n8, .string s8, .slice l8 len8 cap8] 24)) := (Below.refl _ _).alloc (Nat.le_refl _) _
      have hb8A := hb8.trans (hbA.mono hb8.size)
      have HX8 := Lib.hid (hr8.later hbA)
      have HBY8 := Lib.hid (HBYT.out.kept hb8A)
      have hbw8 := hbwT.trans (hb8A.mono hbwT.size)
      obtain ⟨⟨x0, x1, x2, x3⟩, gg⟩ := cells4 hxA
      have HXA := Lib.hid hxA
      clear gg hxA hr8 hbA hb8A hb8 hbwT HBYT HD
      go_wp2_with fail
      generalize w8.alloc (.cells #[.int .i64 k8, .int .i64 n8, .string s8, .slice l8 len8 cap8] 24) = WX at *
      have hh17 : M.height 17 tx ≤ 1099511627776 := by have := M.height_le 17 tx; omega
      refine (encode_at 17 tx _ WX raw nr HX8.out hh17 HCX.out HEX.out HN.out (by omega)).mono ?_
      rintro e w9 ⟨a9, cap9, rfl, hc9, hby9, hb9⟩
      have hxx9 := box_stays HXA.out hb9
      have HX9 := Lib.hid (HX8.out.later hb9)
      have hbw9 := hbw8.trans (hb9.mono hbw8.size)
      have cv1 := bytes_str cap9 hby9 HN.out (s := ⟨raw.toArray⟩) rfl
      have cv2 := bytes_str capr (HBY8.out.kept hb9) HN.out (s := ⟨raw.toArray⟩) rfl
      clear HXA HX8 HBY8 hbw8 hb9 hby9 x0 x1 x2 x3 HN HEX
      obtain ⟨⟨x0, x1, x2, x3⟩, gg⟩ := cells4 hxx9
      clear gg hxx9
      have hq : ((⟨raw.toArray⟩ : ByteArray).toList == (⟨raw.toArray⟩ : ByteArray).toList) = true := by simp
      generalize (⟨raw.toArray⟩ : ByteArray) = rs at *
      go_wp2_with fail
      have hc10 := check_any 17 tx _ w9 HX9.out hh17
      rw [HCX.out] at hc10
      refine hc10.mono ?_
      rintro e w10 ⟨rfl, hb10⟩
      have hbw10 := hbw9.trans (hb10.mono hbw9.size)
      clear hc10 hb10 hbw9 HX9 x0 x1 x2 x3 cv1 cv2
      go_wp2_with fail
      go_ret
      exact ⟨rfl, hbw10⟩
  case neg =>
    have hne : (M.check d t == 0) = false := by simpa using hck
    have hne2 : (M.check d t != 0) = true := by simpa using hck
    have hee : (M.check d t != M.check d t) = false := by simp
    have HCK := Lib.hid hck; clear hck
    go_wp2_with fail
    refine (encode_any d t _ w2 HR2.out hht (by omega)).mono ?_
    rintro e w3 hres3
    rcases hres3.cases with ⟨h0, _⟩ | ⟨_, rfl, hb3⟩
    · exact absurd h0 HCK.out
    clear hres3
    have hbx3 := box_stays HBX2.out hb3
    have HR3 := Lib.hid (HR2.out.later hb3)
    have HBY3 := Lib.hid (HBY2.out.kept hb3)
    have hbw3 := hbw2.trans (hb3.mono hbw2.size)
    clear HR2 HBX2 HBY2 hbw2 hb3 b0 b1 b2 b3
    obtain ⟨⟨b0, b1, b2, b3⟩, gg⟩ := cells4 hbx3
    clear gg hbx3
    go_wp2_with fail
    refine (check_any d t _ w3 HR3.out hht).mono ?_
    rintro e wT ⟨rfl, hb4⟩
    have HBYT := Lib.hid (HBY3.out.kept hb4)
    have hbwT := hbw3.trans (hb4.mono hbw3.size)
    clear HR3 HBY3 hbw3 hb4 b0 b1 b2 b3 HCK HFIT
    cases hdec : M.dec raw with
    | none =>
      have HD := Lib.hid hdec; clear hdec
      go_wp2_with fail
      refine (decode_no pa nr capr raw wT HN.out (by omega) hnc HBYT.out HD.out).mono ?_
      rintro e w8 ⟨rfl, hb8⟩
      have hxA := heap_alloc_new w8 (.cells #[.int .i64 0, .int .i64 0, .string ⟨#[]⟩, .slice none 0 0] 24)
      obtain ⟨⟨x0, x1, x2, x3⟩, gg⟩ := cells4 hxA
      have hbw8 := (hbwT.trans (hb8.mono hbwT.size)).alloc (hbwT.trans (hb8.mono hbwT.size)).size (.cells #[.int .i64 0, .int .i64 0, .string ⟨#[]⟩, .slice none 0 0] 24)
      clear gg hxA hb8 hbwT HBYT HD HN
      go_wp2_with fail
      generalize w8.alloc (.cells #[.int .i64 0, .int .i64 0, .string ⟨#[]⟩, .slice none 0 0] 24) = WX at *
      have hs9 := same_any 1 tZero 1 tZero _ _ WX (rep_zero WX) (rep_zero WX)
      rw [show M.same 1 tZero 1 tZero = true from by kernel_rfl] at hs9
      refine hs9.mono ?_
      rintro e w9 ⟨rfl, hb9⟩
      have hbw9 := hbw8.trans (hb9.mono hbw8.size)
      clear hs9 hb9 hbw8 x0 x1 x2 x3
      go_wp2_with fail
      go_ret
      exact ⟨rfl, hbw9⟩
    | some tx =>
      obtain ⟨hcx, hex⟩ := enc_dec hdec
      have HD := Lib.hid hdec; have HCX := Lib.hid hcx; have HEX := Lib.hid hex; clear hdec hcx hex
      go_wp2_with fail
      refine (decode_at pa nr capr raw wT tx HN.out (by omega) hnc HBYT.out HD.out).mono ?_
      rintro e w8 ⟨k8, n8, s8, l8, len8, cap8, rfl, hr8, hb8⟩
      have hxA := heap_alloc_new w8 (.cells #[.int .i64 k8, .int .i64 n8, .string s8, .slice l8 len8 cap8] 24)
      have hbA : Below w8.heap.size w8 (w8.alloc (.cells #[.int .i64 k8, .int .i64 n8, .string s8, .slice l8 len8 cap8] 24)) := (Below.refl _ _).alloc (Nat.le_refl _) _
      have hb8A := hb8.trans (hbA.mono hb8.size)
      have HX8 := Lib.hid (hr8.later hbA)
      have HBY8 := Lib.hid (HBYT.out.kept hb8A)
      have hbw8 := hbwT.trans (hb8A.mono hbwT.size)
      obtain ⟨⟨x0, x1, x2, x3⟩, gg⟩ := cells4 hxA
      have HXA := Lib.hid hxA
      clear gg hxA hr8 hbA hb8A hb8 hbwT HBYT HD
      go_wp2_with fail
      generalize w8.alloc (.cells #[.int .i64 k8, .int .i64 n8, .string s8, .slice l8 len8 cap8] 24) = WX at *
      have hh17 : M.height 17 tx ≤ 1099511627776 := by have := M.height_le 17 tx; omega
      refine (encode_at 17 tx _ WX raw nr HX8.out hh17 HCX.out HEX.out HN.out (by omega)).mono ?_
      rintro e w9 ⟨a9, cap9, rfl, hc9, hby9, hb9⟩
      have hxx9 := box_stays HXA.out hb9
      have HX9 := Lib.hid (HX8.out.later hb9)
      have hbw9 := hbw8.trans (hb9.mono hbw8.size)
      have cv1 := bytes_str cap9 hby9 HN.out (s := ⟨raw.toArray⟩) rfl
      have cv2 := bytes_str capr (HBY8.out.kept hb9) HN.out (s := ⟨raw.toArray⟩) rfl
      clear HXA HX8 HBY8 hbw8 hb9 hby9 x0 x1 x2 x3 HN HEX
      obtain ⟨⟨x0, x1, x2, x3⟩, gg⟩ := cells4 hxx9
      clear gg hxx9
      have hq : ((⟨raw.toArray⟩ : ByteArray).toList == (⟨raw.toArray⟩ : ByteArray).toList) = true := by simp
      generalize (⟨raw.toArray⟩ : ByteArray) = rs at *
      go_wp2_with fail
      have hc10 := check_any 17 tx _ w9 HX9.out hh17
      rw [HCX.out] at hc10
      refine hc10.mono ?_
      rintro e w10 ⟨rfl, hb10⟩
      have hbw10 := hbw9.trans (hb10.mono hbw9.size)
      clear hc10 hb10 hbw9 HX9 x0 x1 x2 x3 cv1 cv2
      go_wp2_with fail
      go_ret
      exact ⟨rfl, hbw10⟩

theorem Try.cellsByte : Try.prog.cellsOf 5 = 1 := by kernel_rfl

/-- An argument of type []byte. -/
theorem open_bytes {H : Type} {enc : TypeId × Value → H} {W : World} {b0 : Nat} {sp : Nat → Bool} {held : Bool} {v : Value} {d : DataW H} {ps : List MemPlace} (hv : Value.okWide Try.prog W .any b0 27 v) (h : DataW.Trod enc Try.prog W 0 sp held 27 v d ps) :
    ∃ (pa : Option Addr) (raw : List UInt8) (cap : Nat), v = .slice pa raw.length cap ∧ raw.length ≤ cap ∧ BytesAt W pa raw := by
  obtain ⟨fuel, hf⟩ := h
  obtain ⟨a0, len0, cap0, rfl⟩ := okWide_slice Try.underlying27 hv
  have hvc : (Value.slice a0 len0 cap0).cells.toList = [.slice a0 len0 cap0] := rfl
  rw [hvc] at hf
  rcases Deep.open_slice1 Try.underlying27 Try.cellsByte hf with ⟨h0, _⟩ | ⟨a, len, cap, m, n, V, D, Pl, h0, _, hlc, _, hm, _, hx⟩
  · simp only [List.cons.injEq, and_true] at h0
    rw [h0]
    exact ⟨none, [], 0, rfl, Nat.le_refl _, fun i hi => by simp at hi⟩
  · simp only [List.cons.injEq, and_true] at h0
    rw [h0]
    have hle : len ≤ m := by rw [hm]; split <;> omega
    have he : ∀ i, i < len → ∃ c : UInt8, W.cell? (a.add i) = some (.int .u8 c.toNat) := by
      intro i hi
      obtain ⟨h1, h2⟩ := hx i (by omega)
      obtain ⟨q, hq, _, wq⟩ := DataW.trod_int Try.underlying5 h2
      simp only [List.cons.injEq, and_true] at hq
      simp only [Lit.wf, Bool.and_eq_true, decide_eq_true_eq] at wq
      have w1 : 0 ≤ q := wq.1
      have w2 : q ≤ 255 := wq.2
      refine ⟨UInt8.ofNat q.toNat, ?_⟩
      rw [h1, hq, M.byte_nat _ (by omega), show (q.toNat : Int) = q from by omega]
    obtain ⟨raw, hl, hp⟩ := list_of_lt len he
    refine ⟨some a, raw, cap, by rw [hl], by omega, fun i hi => ⟨a, rfl, hp i raw[i] (List.getElem?_eq_getElem hi)⟩⟩

set_option maxRecDepth 100000 in
theorem roundTrip_lifted (os : Os) (started : os.Started) (H : Type) (enc : TypeId × Value → H) :
    ReturnsInHanded {} Try.checked os 6 .any (Rows.codecRoundTripSpec.pre6 enc Try.prog Try.f6 Rows.codecRoundTripRow.domain false) (Rows.codecRoundTripSpec.post enc Try.prog Try.f6 false true false false) := by
  refine returnsInHanded_of_change_sized (C := Try.checked) Try.ownKnob0 started (by kernel_rfl) Try.func6
    (ChangeSpec.witness6 (enc := enc) (C := Try.checked) false ⟨#[], #[.agg #[.int .i64 0, .int .i64 0, .string ⟨#[]⟩, .slice none 0 0], .slice none 0 0], []⟩ 8 (by kernel_rfl) (by kernel_rfl) (by kernel_rfl) (by kernel_rfl)) ?_
  intro W base args ds gs before hval0 hW hcnd hsz0 _
  have hval : ∀ (j : Nat) t v, Try.f6.params[j]? = some t → args[j]? = some v → Value.okWide Try.prog W .any base t v := hval0
  have hW' := hW
  obtain ⟨p, q, hA0, hV, rfl, _, _⟩ := hW
  have hA : DataW.TrodAll enc Try.prog W 0 (fun _ => true) true Try.f6.params.toList args.toList ds p := hA0
  obtain ⟨rfl, rfl⟩ := trodVars_none hV
  have hsz : (DataW.weightsEach Try.prog (Try.f6.params.toList ++ []) (ds ++ [])).all (fun x => decide (x ≤ reachBytes)) = true := hsz0
  rw [List.append_nil, List.append_nil] at hsz
  rw [Try.params6] at hA hval hsz
  obtain ⟨v0, v1, d0, d1, p0, p1, rfl, rfl, rfl, h0, h1⟩ := trodAll_two hA
  simp only [DataW.weightsEach, List.append_nil] at hsz
  obtain ⟨N0, hN0⟩ := open_value (hval 0 24 v0 rfl rfl) h0 (all_append hsz).1
  obtain ⟨t, ht⟩ := hN0 N0 (Nat.le_refl _)
  obtain ⟨pa, raw, capr, rfl, hlc, hby⟩ := open_bytes (hval 1 27 v1 rfl rfl) h1
  clear hA0 hval0
  refine (roundTrip_walk N0 t v0 pa raw raw.length capr W ht hby rfl hlc).mono fun e W' ⟨he, hb⟩ => ?_
  subst he
  exact ⟨_, rfl, law_post Try.laidOut0 (by decide +kernel) Try.underlying4 rfl rfl rfl hW' hb⟩

theorem roundTrip_holds : Rows.CodecRoundTripSaid :=
  OpenClaim.holds_of_wide 6 Try.f6 rfl rfl rfl rfl rfl rfl rfl ⟨rfl, rfl, rfl, rfl, rfl⟩ rfl rfl rfl rfl rfl (by kernel_rfl) Try.func6 (by kernel_rfl)
    (of_decide_eq_true (by kernel_rfl)) (by unfold Func.isWrapper; first | (rw [if_pos (by decide +kernel)]; kernel_rfl) | (rw [if_neg (by decide +kernel)]; exact ⟨rfl, rfl⟩))
    (fun os started H enc _ => roundTrip_lifted os started H enc)

#print axioms roundTrip_holds
end Go.Proofs.Ytmhchpdogjbpmaa
