/- Contract of sane: the examples of the chapter. -/
import Derived.Test.YtmhchpdogjbpmaaLits
namespace Go.Proofs.Ytmhchpdogjbpmaa
open Go.RowKit

set_option maxRecDepth 100000 in
set_option maxHeartbeats 4000000 in
theorem sane_any (w : World) : Calls Try.prog 10 #[] w fun e w' => e = .returned (.bool true) ∧ Below w.heap.size w w' := by
  go_enter Try.func10, Try.ntmps10
  go_wp2_with fail
  refine (int_any (-3) _).mono ?_
  rintro e w1 ⟨rfl, hb1⟩
  go_wp2_with fail
  refine (encode_at 1 (tInt (-3)) _ w1 [1, 5] 2 (rep_int w1 (-3) (by decide) (by decide)) (by decide) (check_int _) enc_m3 rfl (by decide)).mono ?_
  rintro e w2 ⟨a2, cap2, rfl, hc2, hby2, hb2⟩
  have HB2 := Lib.hid hby2; clear hby2
  go_wp2_with fail
  refine (int_any 100 _).mono ?_
  rintro e w3 ⟨rfl, hb3⟩
  go_wp2_with fail
  refine (text_any _ _).mono ?_
  rintro e w4 ⟨rfl, hb4⟩
  go_wp2_with fail
  refine (rlist_any _ _ _ _).mono ?_
  rintro e w5 ⟨rfl, hb5⟩
  go_wp2_with fail
  have hq5 : w5.heap[w4.heap.size]? = some (.cells #[.int .i64 1, .int .i64 100, .string ⟨#[]⟩, .slice none 0 0, .int .i64 2, .int .i64 0, .string ⟨#[97, 98]⟩, .slice none 0 0] 24 (0, 0)) := by
    rw [hb5.block _ (by simp)]; exact heap_alloc_new w4 _
  have hp5 := rep_pair hq5
  have hbA : Below w5.heap.size w5 (w5.alloc (.cells #[.int .i64 3, .int .i64 0, .string ⟨#[]⟩, .slice (some ⟨w4.heap.size, 0, none⟩) 2 2] 24)) := (Below.refl _ _).alloc (Nat.le_refl _) _
  have hvA := heap_alloc_new w5 (.cells #[.int .i64 3, .int .i64 0, .string ⟨#[]⟩, .slice (some ⟨w4.heap.size, 0, none⟩) 2 2] 24)
  have hpA := hp5.later hbA
  have hb05 : Below w.heap.size w w5 := by
    have h1 := hb1.trans (hb2.mono hb1.size)
    have h2 := h1.trans (hb3.mono h1.size)
    have h3 := h2.trans (hb4.mono h2.size)
    have h4 := h3.alloc (h3.size) (.cells #[.int .i64 1, .int .i64 100, .string ⟨#[]⟩, .slice none 0 0, .int .i64 2, .int .i64 0, .string ⟨#[97, 98]⟩, .slice none 0 0] 24)
    exact h4.trans (hb5.mono (by have := h3.size; simp; omega))
  have hb25 : Below w2.heap.size w2 w5 := by
    have h3 := hb3.trans (hb4.mono hb3.size)
    have h4 := h3.alloc (h3.size) (.cells #[.int .i64 1, .int .i64 100, .string ⟨#[]⟩, .slice none 0 0, .int .i64 2, .int .i64 0, .string ⟨#[97, 98]⟩, .slice none 0 0] 24)
    exact h4.trans (hb5.mono (by have := h3.size; simp; omega))
  have F1 : Below w.heap.size w (w5.alloc (.cells #[.int .i64 3, .int .i64 0, .string ⟨#[]⟩, .slice (some ⟨w4.heap.size, 0, none⟩) 2 2] 24)) := hb05.alloc hb05.size _
  have F4 := Lib.hid ((HB2.out.kept hb25).kept hbA)
  have F5 : w.heap.size ≤ w5.heap.size := hb05.size
  clear HB2 hb1 hb2 hb3 hb4 hb5 hb25 hq5 hp5 hbA hb05
  generalize w5.alloc (.cells #[.int .i64 3, .int .i64 0, .string ⟨#[]⟩, .slice (some ⟨w4.heap.size, 0, none⟩) 2 2] 24) = WA at *
  generalize w5.heap.size = bv at *
  generalize (⟨w4.heap.size, 0, none⟩ : Addr) = la at *
  clear w1 w3 w4 w5 w2
  have HP := Lib.hid hpA; clear hpA
  refine (encode_at 2 tPair _ WA [3, 2, 1, 200, 1, 2, 2, 97, 98] 9 HP.out (by decide +kernel) check_pair enc_pair rfl (by decide)).mono ?_
  rintro e w6 ⟨a6, cap6, rfl, hc6, hby6, hb6⟩
  obtain ⟨t, htd, hts⟩ := dec_pair
  have HTD := Lib.hid htd; have HTS := Lib.hid hts; clear htd hts
  have hvB := (hb6.block bv (Array.getElem?_eq_some_iff.1 hvA).1).trans hvA
  have F1b := F1.trans (hb6.mono F1.size)
  have F4b := Lib.hid (F4.out.kept hb6)
  have HPb := Lib.hid (HP.out.later hb6)
  have HB6 := Lib.hid hby6
  clear hby6 HP F4 F1 hvA hb6 WA
  go_wp2_with fail
  refine (decode_at a6 9 cap6 _ w6 t rfl (by decide) hc6 HB6.out HTD.out).mono ?_
  rintro e w7 ⟨k7, n7, s7, l7, len7, cap7, rfl, hr7, hb7⟩
  have hvC := (hb7.block bv (Array.getElem?_eq_some_iff.1 hvB).1).trans hvB
  have F1c := F1b.trans (hb7.mono F1b.size)
  have F4c := Lib.hid (F4b.out.kept hb7)
  have HPc := Lib.hid (HPb.out.later hb7)
  have HB7 := Lib.hid (HB6.out.kept hb7)
  have HR7 := Lib.hid hr7
  clear hr7 HB6 HPb F4b F1b hvB hb7 w6
  obtain ⟨⟨c0, c1, c2, c3⟩, gg⟩ := cells4 hvC; clear gg
  have p0 := fun o => cell_past o c0; have p1 := fun o => cell_past o c1; have p2 := fun o => cell_past o c2; have p3 := fun o => cell_past o c3
  go_wp2_with fail
  clear p0 p1 p2 p3 c0 c1 c2 c3
  have hbA : Below w7.heap.size w7 (w7.alloc (.cells #[.int .i64 k7, .int .i64 n7, .string s7, .slice l7 len7 cap7] 24)) := (Below.refl _ _).alloc (Nat.le_refl _) _
  have hwA := heap_alloc_new w7 (.cells #[.int .i64 k7, .int .i64 n7, .string s7, .slice l7 len7 cap7] 24)
  have hvD := (hbA.block bv (Array.getElem?_eq_some_iff.1 hvC).1).trans hvC
  have F1d := F1c.trans (hbA.mono F1c.size)
  have F4d := Lib.hid (F4c.out.kept hbA)
  have HPd := Lib.hid (HPc.out.later hbA)
  have HBd := Lib.hid (HB7.out.kept hbA)
  have HRd := Lib.hid (HR7.out.later hbA)
  clear F1c F4c HPc HB7 HR7 hbA hvC
  generalize w7.alloc (.cells #[.int .i64 k7, .int .i64 n7, .string s7, .slice l7 len7 cap7] 24) = WB at *
  generalize w7.heap.size = bw at *
  clear w7
  refine (sizeTop_any 2 tPair _ WB HPd.out (by decide +kernel) (by rw [enc_pair]; decide)).mono ?_
  rintro e w8 ⟨rfl, hb8⟩
  rw [size_pair]
  have hvE := (hb8.block bv (Array.getElem?_eq_some_iff.1 hvD).1).trans hvD
  have hwE := (hb8.block bw (Array.getElem?_eq_some_iff.1 hwA).1).trans hwA
  have F1e := F1d.trans (hb8.mono F1d.size)
  have F4e := Lib.hid (F4d.out.kept hb8)
  have HPe := Lib.hid (HPd.out.later hb8)
  have HBe := Lib.hid (HBd.out.kept hb8)
  have HRe := Lib.hid (HRd.out.later hb8)
  clear F1d F4d HPd HBd HRd hvD hwA hb8 WB
  obtain ⟨⟨c0, c1, c2, c3⟩, gg⟩ := cells4 hvE; clear gg
  obtain ⟨⟨d0, d1, d2, d3⟩, gg⟩ := cells4 hwE; clear gg
  have cv1 := bytes_str cap2 F4e.out rfl rfl (n := 2) (s := ⟨#[1, 5]⟩)
  have cv2 := bytes_str cap6 HBe.out rfl rfl (n := 9) (s := ⟨#[3, 2, 1, 200, 1, 2, 2, 97, 98]⟩)
  clear F4e HBe
  go_wp2_with fail
  have hs9 := same_any 2 tPair 17 t _ _ w8 HPe.out HRe.out
  rw [HTS.out] at hs9
  refine hs9.mono ?_
  rintro e w9 ⟨rfl, hb9⟩
  have F1f := F1e.trans (hb9.mono F1e.size)
  clear hs9 HPe HRe F1e hvE hwE c0 c1 c2 c3 d0 d1 d2 d3 cv1 cv2 hb9 w8 HTS HTD
  go_wp2_with fail
  refine (text_any _ w9).mono ?_
  rintro e w10 ⟨rfl, hb10⟩
  go_wp2_with fail
  refine (rlist_any _ _ _ w10).mono ?_
  rintro e w11 ⟨rfl, hb11⟩
  have F1g := F1f.trans ((hb10.trans (hb11.mono hb10.size)).mono F1f.size)
  clear F1f hb10 hb11 w9 w10
  go_wp2_with fail
  have hs12 := same_any 1 (tText ⟨#[]⟩) 1 tNil _ _ w11 (rep_text w11 ⟨#[]⟩ (by decide)) (rep_nil w11)
  rw [show M.same 1 (tText ⟨#[]⟩) 1 tNil = false from by kernel_rfl] at hs12
  refine hs12.mono ?_
  rintro e w12 ⟨rfl, hb12⟩
  have F1h := F1g.trans (hb12.mono F1g.size)
  clear hs12 F1g hb12 w11
  go_wp2_with fail
  have hl12 := heap_alloc_new w12 (.cells #[.string ⟨#[]⟩, .string ⟨#[1, 128, 0]⟩, .string ⟨#[1, 5, 0]⟩, .string ⟨#[2, 3, 97]⟩] 9)
  have F1i := F1h.alloc F1h.size (.cells #[.string ⟨#[]⟩, .string ⟨#[1, 128, 0]⟩, .string ⟨#[1, 5, 0]⟩, .string ⟨#[2, 3, 97]⟩] 9)
  have hge : w.heap.size ≤ w12.heap.size := F1h.size
  clear F1h
  generalize w12.alloc (.cells #[.string ⟨#[]⟩, .string ⟨#[1, 128, 0]⟩, .string ⟨#[1, 5, 0]⟩, .string ⟨#[2, 3, 97]⟩] 9) = WL at *
  generalize w12.heap.size = bl at *
  clear w12
  go_loopw [79] (fun ii wr => ∃ k : Nat, k ≤ 4 ∧ ii = .int .i64 k ∧ wr.heap[bl]? = some (.cells #[.string ⟨#[]⟩, .string ⟨#[1, 128, 0]⟩, .string ⟨#[1, 5, 0]⟩, .string ⟨#[2, 3, 97]⟩] 9 (0, 0)) ∧ Below w.heap.size w wr)
    (fun ii _ => 4 - (intOf ii).toNat)
  case atStart => exact ⟨0, by omega, rfl, hl12, F1i⟩
  case round =>
    obtain ⟨k, hk, rfl, hbl, hbr⟩ := hrel
    by_cases hlt : k < 4
    · obtain ⟨s, hcell, hs3, hdec⟩ := bad_texts hbl k hlt
      obtain ⟨capb, wb, hrun, hcapb, hbyb, hbb⟩ := string_bytes wr s
      have HD := Lib.hid hdec; have HBY := Lib.hid hbyb; clear hdec hbyb
      go_wp2_with fail
      refine (decode_no _ s.size capb s.data.toList wb (by simp) (by omega) hcapb HBY.out HD.out).mono ?_
      rintro e wd ⟨rfl, hbd⟩
      have hbl2 := (hbd.block bl (Nat.lt_of_lt_of_le (Array.getElem?_eq_some_iff.1 hbl).1 hbb.size)).trans ((hbb.block bl (Array.getElem?_eq_some_iff.1 hbl).1).trans hbl)
      have hbr2 := hbr.trans ((hbb.trans (hbd.mono hbb.size)).mono hbr.size)
      have hbr3 := hbr2.alloc hbr2.size (.cells #[.int .i64 0, .int .i64 0, .string ⟨#[]⟩, .slice none 0 0] 24)
      have hbl3 := (Below.heap_alloc wd (.cells #[.int .i64 0, .int .i64 0, .string ⟨#[]⟩, .slice none 0 0] 24) bl (Array.getElem?_eq_some_iff.1 hbl2).1).trans hbl2
      clear hbl hrun hbb hbd hcell
      go_wp2_with fail
      go_roundw
      case rel => exact ⟨k + 1, by omega, by go_num, hbl3, hbr3⟩
      case measure => simp [intOf]; omega
    · obtain rfl : k = 4 := by omega
      go_wp2_with fail
      have hck := check_any 1 (tZero) _ wr (rep_zero wr) (by decide +kernel)
      rw [show M.check 1 tZero = 1 from by kernel_rfl] at hck
      refine hck.mono ?_
      rintro e w13 ⟨rfl, hb13⟩
      go_wp2_with fail
      go_ret
      exact ⟨rfl, hbr.trans (hb13.mono hbr.size)⟩

end Go.Proofs.Ytmhchpdogjbpmaa
