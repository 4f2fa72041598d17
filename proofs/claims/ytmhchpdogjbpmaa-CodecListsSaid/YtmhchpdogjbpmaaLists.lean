/- CodecLists holds: the encoding of a list ends with the encodings of the elements, and its size is that of the list of as many zeros, without their two bytes each, plus the sizes of the elements, unless the list is nested too deeply. No condition. -/
import Derived.Test.YtmhchpdogjbpmaaListLem
namespace Go.Proofs.Ytmhchpdogjbpmaa
open Go.ChangeShapes Go.WideShapes Go.ChangeAt Go.RowKit

/-- What holds of the world behind j rounds. -/
structure LI (w wr : World) (d : Nat) (l : List (M.T d)) (j fj : Nat) (bb zz : Value) : Prop where
  len : fj = ((l.take j).map (M.enc d)).flatten.length
  want : wr.ownsRow w.heap.size 5 1 bb fj (bytes ((l.take j).map (M.enc d)).flatten)
  zeros : wr.ownsRow w.heap.size 24 4 zz j (flat (List.replicate j zQ))
  below : Below w.heap.size w wr
  ok : ∀ i (h : i < l.length), i < j → M.check d l[i] = 0

set_option maxRecDepth 100000 in
set_option maxHeartbeats 4000000 in
theorem lists_walk (d : Nat) (l : List (M.T d)) (a : Option Addr) (cap : Nat) (w : World) (hlen : l.length ≤ 70368744177664) (hl : Elems w.heap.size w d a l) :
    Calls Try.prog 8 #[.slice a l.length cap] w fun e w' => e = .returned (.bool true) ∧ Below w.heap.size w w' := by
  have hr : Rep w.heap.size w (d + 1) (M.tl l) (.agg #[.int .i64 3, .int .i64 0, .string ⟨#[]⟩, .slice a l.length cap]) := ⟨by decide, by decide, by decide, hlen, a, cap, rfl, hl⟩
  have HL := Lib.hid hl; have HR := Lib.hid hr
  clear hl hr
  go_enter Try.func8, Try.ntmps8
  go_wp2_with fail
  refine (sane_any w).mono ?_
  rintro e w1 ⟨rfl, g1⟩
  go_wp2_with fail
  have hf := few_any d l a cap w1 hlen (HR.out.later g1).elems
  cases hfw : (l.all fun x => decide (M.cnt d x 21 ≤ 200)) with
  | false =>
    rw [hfw] at hf
    refine hf.mono ?_
    rintro e w2 ⟨rfl, hb2⟩
    clear hf
    go_wp2_with fail
    go_ret
    exact ⟨rfl, g1.trans (hb2.mono g1.size)⟩
  | true =>
  rw [hfw] at hf
  refine hf.mono ?_
  clear hf
  rintro e w2 ⟨rfl, hb2⟩
  have hbw2 := g1.trans (hb2.mono g1.size)
  clear hb2 g1
  by_cases h20 : 20 < l.length
  · go_wp2_with fail
    go_ret
    exact ⟨rfl, hbw2⟩
  have hle : l.length ≤ 20 := by omega
  clear h20 hlen
  have HX : Hid (∀ x ∈ l, M.height d x ≤ 21 ∧ (M.enc d x).length ≤ 44000) := Lib.hid (fun x hx => by
    have h := (List.all_eq_true.1 hfw) x hx
    have hc : M.cnt d x 21 ≤ 200 := by simpa using h
    have := M.cnt_small d x 21 hc
    omega)
  clear hfw
  go_wp2_with fail
  go_loopw [3, 4, 5, 31] (fun bb zz ss ii wr => ∃ (j fj : Nat), j ≤ l.length ∧ ii = .int .i64 j ∧ ss = .int .i64 fj ∧ Hid (LI w wr d l j fj bb zz))
    (fun _ _ _ ii _ => l.length - (intOf ii).toNat)
  case atStart => exact ⟨0, 0, Nat.zero_le _, rfl, rfl, Lib.hid ⟨rfl, World.ownsRow_nil _ _ _ _, World.ownsRow_nil _ _ _ _, hbw2, fun i _ h => by omega⟩⟩
  case round =>
    clear hbw2
    obtain ⟨j, fj, hj, rfl, rfl, HI⟩ := hrel
    have hfb : fj ≤ 20 * 44000 := by
      have h1 := M.flat_bd (M.enc d) 44000 l (fun x hx => (HX.out x hx).2)
      have h2 := M.flat_take_le (M.enc d) l j
      have := HI.out.len
      omega
    by_cases hlt : j < l.length
    · obtain ⟨b, off, kx, nx, sx, ax, lx, px, rfl, hbB, e0, e1, e2, e3, hrep⟩ := HL.out.at HI.out.below hlt
      have hbA : Below wr.heap.size wr (wr.alloc (.cells #[.int .i64 kx, .int .i64 nx, .string sx, .slice ax lx px] 24)) := (Below.refl _ _).alloc (Nat.le_refl _) _
      have HRA := Lib.hid ((hrep.mono HI.out.below.size).later hbA)
      have hbxA := heap_alloc_new wr (.cells #[.int .i64 kx, .int .i64 nx, .string sx, .slice ax lx px] 24)
      obtain ⟨hht, hm⟩ := HX.out l[j] (List.getElem_mem hlt)
      have HM := Lib.hid hm; have HHT := Lib.hid hht
      by_cases hck : M.check d l[j] = 0
      · have HCK := Lib.hid hck
        clear hck hm hht hrep
        go_wp2_with fail
        refine (encode_at d l[j] _ _ _ _ HRA.out (by have := HHT.out; omega) HCK.out rfl rfl (by have := HM.out; omega)).mono ?_
        rintro e w3 ⟨a3, cap3, rfl, hc3, hby3, hb3⟩
        have hbx3 := box_stays hbxA hb3
        have HR3 := Lib.hid (HRA.out.later hb3)
        have HB3 := Lib.hid (hbA.trans (hb3.mono hbA.size))
        have HBY3 := Lib.hid hby3
        obtain ⟨⟨b0, b1, b2, b3⟩, gg⟩ := cells4 hbx3
        clear gg hbxA hbA HRA hby3 hb3 e0 e1 e2 e3
        generalize hmm : (M.enc d l[j]).length = m at *
        have HMM := Lib.hid hmm
        have hmb : m ≤ 44000 := HM.out
        go_wp2_with fail
        have hs4 := sizeTop_any d l[j] _ w3 HR3.out (by have := HHT.out; omega) (by have := HMM.out; have := HM.out; omega)
        have hsr : SizeRes d l[j] = .tuple #[.int .i64 m, .int .i64 0] := by unfold SizeRes; rw [if_pos HCK.out, HCK.out, HMM.out]
        rw [hsr] at hs4
        refine hs4.mono ?_
        rintro e w4 ⟨rfl, hb4⟩
        clear hs4 hsr b0 b1 b2 b3 hbx3
        have hb34 := HB3.out.trans (hb4.mono HB3.out.size)
        have HB4 := Lib.hid hb34
        have HW4 := Lib.hid (ownsRow_below HI.out.want hb34)
        have HZ4 := Lib.hid (ownsRow_below HI.out.zeros hb34)
        have HBY4 := Lib.hid (HBY3.out.kept hb4)
        have HB04 := Lib.hid (HI.out.below.trans (hb34.mono HI.out.below.size))
        obtain ⟨ad3, rfl⟩ : ∃ ad, a3 = some ad := by
          obtain ⟨ad, ha, _⟩ := HBY3.out 0 (M.enc_pos d l[j])
          exact ⟨ad, ha⟩
        clear hb34 hb4 HB3 HBY3 HR3
        go_wp2_with (at_builtin; refine wpl_cat rfl _ _ rfl w.heap.size _ fj _ rfl HW4.out ad3 _ cap3 _ rfl HMM.out HBY4.out (by omega) HB04.out.size ?_; intro v5 w5 ho5 hk5)
        refine (int_any 0 w5).mono ?_
        rintro e w6 ⟨rfl, hb6⟩
        have hA6 : Below w6.heap.size w6 (w6.alloc (.cells #[.int .i64 1, .int .i64 0, .string ⟨#[]⟩, .slice none 0 0] 24)) := (Below.refl _ _).alloc (Nat.le_refl _) _
        have hb5A := hb6.trans (hA6.mono hb6.size)
        have hb05 := HB04.out.trans (hk5.below HB04.out.size)
        have HW7 := Lib.hid (ownsRow_below ho5 hb5A)
        have HZ7 := Lib.hid (ownsRow_below (own_other HZ4.out hk5 (by decide)) hb5A)
        have HB07 := Lib.hid (hb05.trans (hb5A.mono hb05.size))
        have hbn := heap_alloc_new w6 (.cells #[.int .i64 1, .int .i64 0, .string ⟨#[]⟩, .slice none 0 0] 24)
        have HSN := Lib.hid (M.flat_snoc (M.enc d) l j hlt)
        clear hb6 hA6 hb5A hb05 ho5 hk5 HW4 HZ4 HBY4 HB04 HB4
        go_wp2_with (at_builtin; refine wpl_push4 rfl _ _ rfl w.heap.size _ j _ rfl HZ7.out _ _ _ _ _ rfl hbn ⟨rfl, rfl, rfl, rfl⟩ (by omega) HB07.out.size ?_; intro v8 w8 ho8 hg8)
        have hk8 := Keeps.grown (Keeps.refl _ _ _) HZ7.out hg8
        have HI8 : Hid (LI w w8 d l (j + 1) (fj + m) v5 v8) := Lib.hid (by
          refine ⟨?_, ?_, ?_, HB07.out.trans (hk8.below HB07.out.size), fun i h hi => ?_⟩
          · rw [HSN.out, List.length_append, HMM.out, ← HI.out.len]
          · rw [HSN.out]
            exact HW7.out.kept hg8 (own_apart HW7.out HZ7.out (by decide))
          · rw [flat_zs]; exact ho8
          · rcases Nat.lt_or_ge i j with hi2 | hi2
            · exact HI.out.ok i h hi2
            · obtain rfl : i = j := by omega
              exact HCK.out)
        clear HW7 HZ7 HB07 HSN hbn ho8 hg8 hk8
        go_wp2_with fail
        go_roundw
        case rel => exact ⟨j + 1, fj + m, by omega, by go_num, by go_num, HI8⟩
        case measure => simp [intOf]; omega
      · have hee : (M.check d l[j] != M.check d l[j]) = false := by simp
        have hne : (M.check d l[j] == 0) = false := by simpa using hck
        have hne2 : (M.check d l[j] != 0) = true := by simpa using hck
        have htl := M.check_tl_ne (List.getElem_mem hlt) hck
        have htn : (M.check (d + 1) (M.tl l) != 0) = true := by simpa using htl
        have HCK := Lib.hid hck; have HTL := Lib.hid htl
        clear hck hm hht hrep htl
        go_wp2_with fail
        refine (encode_any d l[j] _ _ HRA.out (by have := HHT.out; omega) (by have := HM.out; omega)).mono ?_
        rintro e w3 hres3
        rcases hres3.cases with ⟨h0, _⟩ | ⟨_, rfl, hb3⟩
        · exact absurd h0 HCK.out
        clear hres3
        have hbx3 := box_stays hbxA hb3
        have HR3 := Lib.hid (HRA.out.later hb3)
        have HB3 := Lib.hid (hbA.trans (hb3.mono hbA.size))
        obtain ⟨⟨b0, b1, b2, b3⟩, gg⟩ := cells4 hbx3
        clear gg hbxA hbA HRA hb3 e0 e1 e2 e3
        go_wp2_with fail
        have hs4 := sizeTop_any d l[j] _ w3 HR3.out (by have := HHT.out; omega) (by have := HM.out; omega)
        have hsr : SizeRes d l[j] = .tuple #[.int .i64 0, .int .i64 (M.check d l[j])] := by unfold SizeRes; rw [if_neg HCK.out]
        rw [hsr] at hs4
        refine hs4.mono ?_
        rintro e w4 ⟨rfl, hb4⟩
        have hb34 := HB3.out.trans (hb4.mono HB3.out.size)
        have HB04 := Lib.hid (HI.out.below.trans (hb34.mono HI.out.below.size))
        clear hs4 hsr b0 b1 b2 b3 hbx3 hb4 hb34 HB3 HR3 HM HHT
        go_wp2_with fail
        refine (rlist_any _ _ _ w4).mono ?_
        rintro e w5 ⟨rfl, hb5⟩
        have hb05 := HB04.out.trans (hb5.mono HB04.out.size)
        go_wp2_with fail
        have hbig : (M.enc (d + 1) (M.tl l)).length ≤ 35184372088832 := by
          have h1 := M.flat_bd (M.enc d) 44000 l (fun x hx => (HX.out x hx).2)
          have h2 := (M.num_len l.length (by omega)).2
          rw [M.enc_tl, List.length_cons, List.length_append]; omega
        have hhb := M.height_tl (m := 21) (fun x hx => (HX.out x hx).1)
        refine (encode_any (d + 1) (M.tl l) _ w5 (HR.out.later hb05) (by omega) hbig).mono ?_
        rintro e w6 hres6
        rcases hres6.cases with ⟨h0, _⟩ | ⟨_, rfl, hb6⟩
        · exact absurd h0 HTL.out
        have hb06 := hb05.trans (hb6.mono hb05.size)
        clear hres6 hb6 hb5 hb05 hbig hhb HTL HCK HI HL HR HX HB04
        go_wp2_with fail
        go_ret
        exact ⟨rfl, hb06⟩
    · obtain rfl : j = l.length := by omega
      have hok : ∀ x ∈ l, M.check d x = 0 := fun x hx => by
        obtain ⟨i, hi, rfl⟩ := List.getElem_of_mem hx
        exact HI.out.ok i hi hi
      have hnl := (M.num_len l.length (by omega)).2
      have hF := HI.out.len
      have hW := HI.out.want
      rw [List.take_length] at hF hW
      have hE := M.enc_tl l
      obtain ⟨p, hp⟩ : ∃ p, 1 + (M.num l.length).length = p := ⟨_, rfl⟩
      have hm : (M.enc (d + 1) (M.tl l)).length = p + fj := by rw [hE, List.length_cons, List.length_append]; omega
      have hdr : (M.enc (d + 1) (M.tl l)).drop p = (l.map (M.enc d)).flatten := by
        rw [hE, ← hp, Nat.add_comm, List.drop_succ_cons, List.drop_left]
      have hZ : (M.enc 2 (M.tl (M.zs l.length))).length = p + 2 * l.length := by rw [M.enc_zs, hp]
      have hhb : M.height (d + 1) (M.tl l) ≤ 22 := M.height_tl (m := 21) (fun x hx => (HX.out x hx).1)
      have hpb : p ≤ 1000 := by omega
      have hp2 : 2 ≤ p := by have := M.num_len l.length (by omega); omega
      have HF := Lib.hid hF; have HW := Lib.hid hW; have HM := Lib.hid hm; have HDR := Lib.hid hdr; have HZ := Lib.hid hZ; have HHB := Lib.hid hhb
      have HOK := Lib.hid hok
      have HZR := Lib.hid HI.out.zeros
      have HBL := Lib.hid HI.out.below
      clear hF hW hm hdr hZ hhb hE hok HX HL HI hp hnl
      go_wp2_with fail
      refine (rlist_any _ _ _ wr).mono ?_
      rintro e w3 ⟨rfl, hb3⟩
      have HB3 := Lib.hid (HBL.out.trans (hb3.mono HBL.out.size))
      have HW3 := Lib.hid (ownsRow_below HW.out hb3)
      have HZ3 := Lib.hid (ownsRow_below HZR.out hb3)
      clear hb3 HBL HW HZR
      go_wp2_with fail
      rcases M.check_tl_all HOK.out with hck | hck
      · have HCK := Lib.hid hck
        clear hck HOK
        refine (encode_at (d + 1) (M.tl l) _ w3 _ (p + fj) (HR.out.later HB3.out) (by have := HHB.out; omega) HCK.out rfl HM.out (by omega)).mono ?_
        rintro e w4 ⟨a4, cap4, rfl, hc4, hby4, hb4⟩
        have HB4 := Lib.hid (HB3.out.trans (hb4.mono HB3.out.size))
        have HW4 := Lib.hid (ownsRow_below HW3.out hb4)
        have hz4 := ownsRow_below HZ3.out hb4
        have HBY4 := Lib.hid hby4
        have hzz := (got_zs (fun k => k < w4.heap.size) w4 l.length).rep (v := u4) (base := w.heap.size) (by rw [M.zs_len]; exact hz4) (fun k hk => (hz4.lt k hk).2) (by rw [M.zs_len]; omega)
        obtain ⟨az, cz, rfl, hrz⟩ := hzz
        rw [M.zs_len] at hrz
        rw [M.zs_len]
        have HRZ := Lib.hid (hrz.rep (B := w4.heap.size) (fun k hk => hk))
        clear hrz hz4 hby4 hb4 HB3 HW3 HZ3 HR HHB HCK
        go_wp2_with fail
        refine (rlist_any _ _ _ w4).mono ?_
        rintro e w5 ⟨rfl, hb5⟩
        have HB5 := Lib.hid (HB4.out.trans (hb5.mono HB4.out.size))
        have HW5 := Lib.hid (ownsRow_below HW4.out hb5)
        have HBY5 := Lib.hid (HBY4.out.kept hb5)
        have HRZ5 := Lib.hid (HRZ.out.later hb5)
        clear hb5 HB4 HW4 HBY4 HRZ
        go_wp2_with fail
        have hs6 := sizeTop_any 2 (M.tl (M.zs l.length)) _ w5 HRZ5.out (by have := M.height_le 2 (M.tl (M.zs l.length)); omega) (by have := HZ.out; omega)
        have hsr : SizeRes 2 (M.tl (M.zs l.length)) = .tuple #[.int .i64 ((p + 2 * l.length : Nat) : Int), .int .i64 0] := by unfold SizeRes; rw [if_pos (M.check_zs _), M.check_zs, HZ.out]
        rw [hsr] at hs6
        refine hs6.mono ?_
        rintro e w6 ⟨rfl, hb6⟩
        have HB6 := Lib.hid (HB5.out.trans (hb6.mono HB5.out.size))
        obtain ⟨aw, cw, rfl, hbw⟩ := owns_bytes (ownsRow_below HW5.out hb6)
        have HBW := Lib.hid hbw
        have HBY6 := Lib.hid (HBY5.out.kept hb6)
        clear hs6 hsr hb6 HB5 HW5 HBY5 HRZ5 hbw HZ
        have hat : ((p + fj : Nat) : Int) - (fj : Int) = (p : Int) := by omega
        have hge : (2 ≤ (p : Int)) := by omega
        go_wp2_with fail
        obtain ⟨a', c', hsl, hsa⟩ := slice_tail_any a4 (p + fj) cap4 p (by omega)
        rw [Nat.add_sub_cancel_left] at hsl
        have cv1 : ∀ (dd : Nat) (os : Array Obj), (convert 27 9 (.slice a' fj c')).run Try.prog (Sort.grow (redrawn w6 dd) os) = .ok (.string ⟨((l.map (M.enc d)).flatten).toArray⟩) (Sort.grow (redrawn w6 dd) os) :=
          fun dd os => bytes_str c' ((HBY6.out.tail HM.out hc4 HDR.out hsa).kept (below_regrown w6 dd os)) HF.out.symm rfl
        have cv2 : ∀ (dd : Nat) (os : Array Obj), (convert 27 9 (.slice aw fj cw)).run Try.prog (Sort.grow (redrawn w6 dd) os) = .ok (.string ⟨((l.map (M.enc d)).flatten).toArray⟩) (Sort.grow (redrawn w6 dd) os) :=
          fun dd os => bytes_str cw (HBW.out.kept (below_regrown w6 dd os)) HF.out.symm rfl
        have hq : ((⟨((l.map (M.enc d)).flatten).toArray⟩ : ByteArray).toList == (⟨((l.map (M.enc d)).flatten).toArray⟩ : ByteArray).toList) = true := by simp
        generalize (⟨((l.map (M.enc d)).flatten).toArray⟩ : ByteArray) = rs at *
        have hge2 : decide (2 ≤ (p : Int)) = true := by simp; omega
        have hs1 : (p : Int) + 2 * (l.length : Int) - 2 * (l.length : Int) = (p : Int) := by omega
        have hs2 : ((p : Int) + (fj : Int) == (p : Int) + (fj : Int)) = true := by simp
        clear hsa hat
        refine wp_region_qb (by kernel_rfl) ?_
        repeat (go_big_quiet_step (fail))
        refine wpQuiet_nil ?_
        intro W2 hb7
        go_wp2_with fail
        go_ret
        exact ⟨rfl, HB6.out.trans (hb7.mono HB6.out.size)⟩
      · refine (encode_any (d + 1) (M.tl l) _ w3 (HR.out.later HB3.out) (by have := HHB.out; omega) (by have := HM.out; omega)).mono ?_
        rintro e w4 hres4
        rcases hres4.cases with ⟨h0, _⟩ | ⟨_, he, hb4⟩
        · rw [hck] at h0; simp at h0
        rw [hck] at he
        subst he
        have hb04 := HB3.out.trans (hb4.mono HB3.out.size)
        clear hres4 hb4 HB3 HW3 HZ3 HR HHB HOK hck HM HDR HF
        go_wp2_with fail
        go_ret
        exact ⟨rfl, hb04⟩

/-- An argument of type []api.Value. -/
theorem open_values {H : Type} {enc : TypeId × Value → H} {W : World} {b0 : Nat} {sp : Nat → Bool} {held : Bool} {v : Value} {d : DataW H} {ps : List MemPlace} (hv : Value.okWide Try.prog W .any b0 22 v) (h : DataW.Trod enc Try.prog W 0 sp held 22 v d ps) (hw : (d.weights Try.prog 22).all (fun x => decide (x ≤ reachBytes)) = true) :
    ∃ (N : Nat) (l : List (M.T N)) (a : Option Addr) (cap : Nat), v = .slice a l.length cap ∧ l.length ≤ 70368744177664 ∧ Elems W.heap.size W N a l := by
  obtain ⟨n, f3⟩ := h
  obtain ⟨a0, len0, cap0, rfl⟩ := okWide_slice Try.underlying22 hv
  have hvc : (Value.slice a0 len0 cap0).cells.toList = [.slice a0 len0 cap0] := rfl
  rw [hvc] at f3
  rcases DataW.trod_slice Try.underlying22 f3 with ⟨h0, _⟩ | ⟨a, len, cap, elems, rest, n', hn', h0, hy3, _, hlc, hcm, hel, hat, _⟩
  · simp only [List.cons.injEq, and_true] at h0
    rw [h0]
    exact ⟨0, [], none, 0, rfl, Nat.zero_le _, .inl rfl⟩
  · simp only [List.cons.injEq, and_true] at h0
    rw [h0]
    simp only [Prod.mk.injEq] at hy3
    obtain ⟨rfl, _⟩ := hy3
    simp only [DataW.weights, Try.underlying22, List.all_cons, Bool.and_eq_true, Try.bytesValue, List.length_map, decide_eq_true_eq] at hw
    have hln : len ≤ 70368744177664 := by have := hw.1; unfold reachBytes at this; omega
    have hwe := (all_append hw.2).1
    rcases Nat.eq_zero_or_pos len with h00 | h00
    · subst h00
      exact ⟨0, [], some a, cap, rfl, Nat.zero_le _, .inl rfl⟩
    have ha : ∃ b off, a = ⟨b, off, none⟩ := by
      have h1 := hat 0 h00
      rw [Try.cellsValue, List.getElem?_eq_getElem (by omega)] at h1
      obtain ⟨cs', h2, _⟩ := Option.bind_eq_some_iff.1 h1
      obtain ⟨_, _, _, _, b, off, hab, _⟩ := cells4_read h2
      exact ⟨b, off, by simpa [Addr.add] using hab⟩
    obtain ⟨b, off, rfl⟩ := ha
    have he : ∀ i, i < len → ∃ x : M.T n, ∃ c0 c1 c2 c3, W.cell? ⟨b, off + i * 4, none⟩ = some c0 ∧ W.cell? ⟨b, off + i * 4 + 1, none⟩ = some c1 ∧ W.cell? ⟨b, off + i * 4 + 2, none⟩ = some c2 ∧ W.cell? ⟨b, off + i * 4 + 3, none⟩ = some c3 ∧ Rep W.heap.size W n x (.agg #[c0, c1, c2, c3]) := by
      intro i hi
      have h1 := hat i hi
      rw [Try.cellsValue, List.getElem?_eq_getElem (by omega)] at h1
      obtain ⟨cs', h2, h3⟩ := Option.bind_eq_some_iff.1 h1
      have hai : (⟨b, off, none⟩ : Addr).add (i * 4) = ⟨b, off + i * 4, none⟩ := by unfold Addr.add; split <;> simp_all
      rw [hai] at h2
      obtain ⟨c0, c1, c2, c3, b', off', hab, rfl, e0, e1, e2, e3⟩ := cells4_read h2
      simp only [Addr.mk.injEq, and_true] at hab
      obtain ⟨rfl, rfl⟩ := hab
      obtain ⟨x, hx⟩ := open_rep n _ elems[i].1 elems[i].2 (DataW.trod_le (by omega) h3) (weights_at (elems.map (·.1)) i _ (by simp [hel, hi]) hwe)
      exact ⟨x, c0, c1, c2, c3, e0, e1, e2, e3, hx⟩
    obtain ⟨l, hll, hlp⟩ := list_of_lt len he
    have hlt : b < W.heap.size := by
      obtain ⟨_, _, _, _, _, e0, _⟩ := he 0 h00
      exact block_lt_of_cell e0
    refine ⟨n, l, some ⟨b, off, none⟩, cap, by rw [hll], by rw [hll]; exact hln, .inr ⟨b, off, rfl, hlt, fun i x hx => ?_⟩⟩
    obtain ⟨c0, c1, c2, c3, e0, e1, e2, e3, hr⟩ := hlp i x hx
    exact ⟨c0, c1, c2, c3, e0, e1, e2, e3, hr⟩

set_option maxRecDepth 100000 in
theorem lists_lifted (os : Os) (started : os.Started) (H : Type) (enc : TypeId × Value → H) :
    ReturnsInHanded {} Try.checked os 8 .any (Rows.codecListsSpec.pre6 enc Try.prog Try.f8 Rows.codecListsRow.domain false) (Rows.codecListsSpec.post enc Try.prog Try.f8 false true false false) := by
  refine returnsInHanded_of_change_sized (C := Try.checked) Try.ownKnob0 started (by kernel_rfl) Try.func8
    (ChangeSpec.witness6 (enc := enc) (C := Try.checked) false ⟨#[], #[.slice none 0 0], []⟩ 8 (by kernel_rfl) (by kernel_rfl) (by kernel_rfl) (by kernel_rfl)) ?_
  intro W base args ds gs before hval0 hW hcnd hsz0 _
  have hval : ∀ (j : Nat) t v, Try.f8.params[j]? = some t → args[j]? = some v → Value.okWide Try.prog W .any base t v := hval0
  have hW' := hW
  obtain ⟨p, q, hA0, hV, rfl, _, _⟩ := hW
  have hA : DataW.TrodAll enc Try.prog W 0 (fun _ => true) true Try.f8.params.toList args.toList ds p := hA0
  obtain ⟨rfl, rfl⟩ := trodVars_none hV
  have hsz : (DataW.weightsEach Try.prog (Try.f8.params.toList ++ []) (ds ++ [])).all (fun x => decide (x ≤ reachBytes)) = true := hsz0
  rw [List.append_nil, List.append_nil] at hsz
  rw [Try.params8] at hA hval hsz
  obtain ⟨v0, d0, rfl, rfl, h0⟩ := trodAll_one hA
  simp only [DataW.weightsEach, List.append_nil] at hsz
  obtain ⟨N, l, a, cap, rfl, hln, hel⟩ := open_values (hval 0 22 v0 rfl rfl) h0 hsz
  clear hA0 hval0
  refine (lists_walk N l a cap W hln hel).mono fun e W' ⟨he, hb⟩ => ?_
  subst he
  exact ⟨_, rfl, law_post Try.laidOut0 (by decide +kernel) Try.underlying4 rfl rfl (rfl) hW' hb⟩

theorem lists_holds : Rows.CodecListsSaid :=
  OpenClaim.holds_of_wide 8 Try.f8 rfl rfl rfl rfl rfl rfl rfl ⟨rfl, rfl, rfl, rfl, rfl⟩ rfl rfl rfl rfl rfl (by kernel_rfl) Try.func8 (by kernel_rfl)
    (of_decide_eq_true (by kernel_rfl)) (by unfold Func.isWrapper; first | (rw [if_pos (by decide +kernel)]; kernel_rfl) | (rw [if_neg (by decide +kernel)]; exact ⟨rfl, rfl⟩))
    (fun os started H enc _ => lists_lifted os started H enc)

#print axioms lists_holds
end Go.Proofs.Ytmhchpdogjbpmaa
