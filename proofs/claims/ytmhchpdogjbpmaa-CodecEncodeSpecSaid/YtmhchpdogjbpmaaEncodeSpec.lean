/- CodecEncodeSpec holds: for every value, Check, Encode and Size match the specification. No condition. -/
import Derived.Test.YtmhchpdogjbpmaaRoundTrip
import Derived.Test.YtmhchpdogjbpmaaRefCheck
namespace Go.Proofs.Ytmhchpdogjbpmaa
open Go.ChangeShapes Go.WideShapes Go.ChangeAt Go.RowKit

/-- What holds of the world as the law goes on. -/
structure At1 (w : World) (d : Nat) (t : M.T d) (k n : Int) (s : ByteArray) (a : Option Addr) (len cap : Nat) (w' : World) : Prop where
  box : w'.heap[w.heap.size]? = some (.cells #[.int .i64 k, .int .i64 n, .string s, .slice a len cap] 24 (0, 0))
  rep : Rep w'.heap.size w' d t (.agg #[.int .i64 k, .int .i64 n, .string s, .slice a len cap])
  below : Below w.heap.size w w'

theorem At1.kept {w w' w'' : World} {d : Nat} {t : M.T d} {k n : Int} {s : ByteArray} {a : Option Addr} {len cap : Nat} (h : At1 w d t k n s a len cap w') (hb : Below w'.heap.size w' w'') : At1 w d t k n s a len cap w'' :=
  ⟨box_stays h.box hb, h.rep.later hb, h.below.trans (hb.mono h.below.size)⟩

theorem At1.start {w : World} {d : Nat} {t : M.T d} {k n : Int} {s : ByteArray} {a : Option Addr} {len cap : Nat} (hr : Rep w.heap.size w d t (.agg #[.int .i64 k, .int .i64 n, .string s, .slice a len cap])) : At1 w d t k n s a len cap (w.alloc (.cells #[.int .i64 k, .int .i64 n, .string s, .slice a len cap] 24)) :=
  ⟨heap_alloc_new w _, hr.later ((Below.refl _ _).alloc (Nat.le_refl _) _), (Below.refl _ _).alloc (Nat.le_refl _) _⟩

theorem bytesAt_nil (w : World) (a : Option Addr) : BytesAt w a [] := fun i hi => by simp at hi

set_option maxRecDepth 100000 in
set_option maxHeartbeats 4000000 in
theorem encodeSpec_walk (d : Nat) (t : M.T d) (v : Value) (w : World) (hr : Rep w.heap.size w d t v) :
    Calls Try.prog 3 #[v] w fun e w' => e = .returned (.bool true) ∧ Below w.heap.size w w' := by
  obtain ⟨k, n, s, a, len, cap, rfl⟩ := hr.shape
  have HA := Lib.hid (At1.start hr)
  clear hr
  go_enter Try.func3, Try.ntmps3
  go_wp2_with fail
  generalize w.alloc (.cells #[.int .i64 k, .int .i64 n, .string s, .slice a len cap] 24) = WA at *
  refine (sane_any WA).mono ?_
  rintro e w1 ⟨rfl, g1⟩
  have H1 := Lib.hid (HA.out.kept g1)
  clear HA g1
  obtain ⟨⟨b0, b1, b2, b3⟩, gg⟩ := cells4 H1.out.box
  clear gg
  go_wp2_with fail
  have hbA : Below w1.heap.size w1 (w1.alloc (.cells #[.int .i64 k, .int .i64 n, .string s, .slice a len cap] 24)) := (Below.refl _ _).alloc (Nat.le_refl _) _
  have HEL := Lib.hid (elems_one (heap_alloc_new w1 (.cells #[.int .i64 k, .int .i64 n, .string s, .slice a len cap] 24)) (H1.out.rep.later hbA))
  cases hfw : decide (M.cnt d t 21 ≤ 200) with
  | false =>
    refine (few_single false hfw HEL.out).mono ?_
    rintro e w2 ⟨rfl, hb2⟩
    have H2 := Lib.hid ((H1.out.kept hbA).kept hb2)
    clear hbA hb2 HEL hfw b0 b1 b2 b3 H1
    go_wp2_with fail
    go_ret
    exact ⟨rfl, H2.out.below⟩
  | true =>
  have hcnt : M.cnt d t 21 ≤ 200 := by simpa using hfw
  refine (few_single true hfw HEL.out).mono ?_
  rintro e w2 ⟨rfl, hb2⟩
  have H2 := Lib.hid ((H1.out.kept hbA).kept hb2)
  clear hbA hb2 HEL hfw b0 b1 b2 b3 H1
  obtain ⟨⟨b0, b1, b2, b3⟩, gg⟩ := cells4 H2.out.box
  clear gg
  have hsm := M.cnt_small d t 21 hcnt
  have hsz : (M.enc d t).length ≤ 44000 := by omega
  have hht : M.height d t ≤ 1099511627776 := by omega
  clear hcnt hsm
  go_wp2_with fail
  refine (encode_any d t _ w2 H2.out.rep hht (by omega)).mono ?_
  rintro e w3 hres3
  rcases hres3.cases with ⟨hck, a3, cap3, rfl, hc3, hby3, hb3⟩ | ⟨hck, rfl, hb3⟩
  · have HCK := Lib.hid hck
    have HBY3 := Lib.hid hby3
    obtain ⟨m, hm⟩ : ∃ m, (M.enc d t).length = m := ⟨_, rfl⟩
    have HM := Lib.hid hm
    rw [hm]
    have hml : m ≤ 44000 := by omega
    clear hck hby3 hm hres3 hc3
    have H3 := Lib.hid (H2.out.kept hb3)
    clear H2 hb3 b0 b1 b2 b3
    obtain ⟨⟨b0, b1, b2, b3⟩, gg⟩ := cells4 H3.out.box
    clear gg
    go_wp2_with fail
    refine (rEncode_any d t _ w3 H3.out.rep hht (by omega)).mono ?_
    rintro e w4 hres4
    rcases hres4 with ⟨_, a4, cap4, rfl, hby4, hb4⟩ | ⟨h0, _⟩
    rotate_left
    · exact absurd HCK.out h0
    rw [HM.out]
    have HBY3b := Lib.hid (HBY3.out.kept hb4)
    have HBY4 := Lib.hid hby4
    clear hby4 HBY3
    have H4 := Lib.hid (H3.out.kept hb4)
    clear H3 b0 b1 b2 b3
    obtain ⟨⟨b0, b1, b2, b3⟩, gg⟩ := cells4 H4.out.box
    clear gg hb4
    go_wp2_with fail
    have hs5 := sizeTop_any d t _ w4 H4.out.rep hht (by omega)
    have hsr : SizeRes d t = .tuple #[.int .i64 m, .int .i64 0] := by unfold SizeRes; rw [if_pos HCK.out, HCK.out, HM.out]
    rw [hsr] at hs5
    refine hs5.mono ?_
    rintro e w5 ⟨rfl, hb5⟩
    clear hs5
    have HBY3c := Lib.hid (HBY3b.out.kept hb5)
    have HBY4b := Lib.hid (HBY4.out.kept hb5)
    clear HBY3b HBY4
    have H5 := Lib.hid (H4.out.kept hb5)
    have HSR := Lib.hid hsr
    clear H4 hb5 hsr b0 b1 b2 b3
    obtain ⟨⟨b0, b1, b2, b3⟩, gg⟩ := cells4 H5.out.box
    clear gg
    go_wp2_with fail
    have hs6 := rSize_any d t _ w5 H5.out.rep hht (by omega)
    rw [HSR.out] at hs6
    refine hs6.mono ?_
    rintro e w6 ⟨rfl, hb6⟩
    clear hs6 HSR
    have HBY3d := Lib.hid (HBY3c.out.kept hb6)
    have HBY4c := Lib.hid (HBY4b.out.kept hb6)
    clear HBY3c HBY4b
    have H6 := Lib.hid (H5.out.kept hb6)
    clear H5 hb6 b0 b1 b2 b3
    obtain ⟨⟨b0, b1, b2, b3⟩, gg⟩ := cells4 H6.out.box
    clear gg
    go_wp2_with fail
    have x0 := cell_regrown b0; have x1 := cell_regrown b1; have x2 := cell_regrown b2; have x3 := cell_regrown b3
    clear b0 b1 b2 b3
    have cv1 : ∀ (dd : Nat) (os : Array Obj), (convert 27 9 (.slice a3 m cap3)).run Try.prog (Sort.grow (redrawn w6 dd) os) = .ok (.string ⟨(M.enc d t).toArray⟩) (Sort.grow (redrawn w6 dd) os) :=
      fun dd os => bytes_str cap3 (HBY3d.out.kept (below_regrown w6 dd os)) HM.out rfl
    have cv2 : ∀ (dd : Nat) (os : Array Obj), (convert 27 9 (.slice a4 m cap4)).run Try.prog (Sort.grow (redrawn w6 dd) os) = .ok (.string ⟨(M.enc d t).toArray⟩) (Sort.grow (redrawn w6 dd) os) :=
      fun dd os => bytes_str cap4 (HBY4c.out.kept (below_regrown w6 dd os)) HM.out rfl
    have hq : ((⟨(M.enc d t).toArray⟩ : ByteArray).toList == (⟨(M.enc d t).toArray⟩ : ByteArray).toList) = true := by simp
    generalize (⟨(M.enc d t).toArray⟩ : ByteArray) = rs at *
    have hCK : ∀ W, Below w6.heap.size w6 W → Calls Try.prog 16 #[.agg #[.int .i64 k, .int .i64 n, .string s, .slice a len cap]] W fun r w' => r = .returned (.int .i64 0) ∧ Below W.heap.size W w' :=
      fun W hW => by have := check_any d t _ W (H6.out.rep.later hW) hht; rw [HCK.out] at this; exact this
    have hRK : ∀ W, Below w6.heap.size w6 W → Calls Try.prog 17 #[.agg #[.int .i64 k, .int .i64 n, .string s, .slice a len cap]] W fun r w' => r = .returned (.int .i64 0) ∧ Below W.heap.size W w' :=
      fun W hW => by have := rcheck_any d t _ W (H6.out.rep.later hW) hht; rw [HCK.out] at this; exact this
    have hmm : ((m : Int) == (m : Int)) = true := by simp
    have HC1 := Lib.hid hCK; have HC2 := Lib.hid hRK
    have HB := Lib.hid H6.out.below
    clear hCK hRK H6
    refine wp_region_qb (by kernel_rfl) ?_
    repeat (go_big_quiet_step (first
      | (with_reducible exact regrown_call (fun W hW => HC1.out W hW) _ _)
      | (with_reducible exact regrown_call (fun W hW => HC2.out W hW) _ _)))
    refine wpQuiet_nil ?_
    intro W2 hb7
    clear x0 x1 x2 x3
    go_wp2_with fail
    go_ret
    exact ⟨rfl, HB.out.trans (hb7.mono HB.out.size)⟩
  · have HCK := Lib.hid hck
    have hee : (M.check d t == M.check d t) = true := by simp
    clear hck hres3
    have H3 := Lib.hid (H2.out.kept hb3)
    clear H2 hb3 b0 b1 b2 b3
    obtain ⟨⟨b0, b1, b2, b3⟩, gg⟩ := cells4 H3.out.box
    clear gg
    go_wp2_with fail
    refine (rEncode_any d t _ w3 H3.out.rep hht (by omega)).mono ?_
    rintro e w4 hres4
    rcases hres4 with ⟨h0, _⟩ | ⟨_, rfl, hb4⟩
    · exact absurd h0 HCK.out
    have H4 := Lib.hid (H3.out.kept hb4)
    clear H3 b0 b1 b2 b3
    obtain ⟨⟨b0, b1, b2, b3⟩, gg⟩ := cells4 H4.out.box
    clear gg hb4
    go_wp2_with fail
    have hs5 := sizeTop_any d t _ w4 H4.out.rep hht (by omega)
    have hsr : SizeRes d t = .tuple #[.int .i64 0, .int .i64 (M.check d t)] := by unfold SizeRes; rw [if_neg HCK.out]
    rw [hsr] at hs5
    refine hs5.mono ?_
    rintro e w5 ⟨rfl, hb5⟩
    clear hs5
    have H5 := Lib.hid (H4.out.kept hb5)
    have HSR := Lib.hid hsr
    clear H4 hb5 hsr b0 b1 b2 b3
    obtain ⟨⟨b0, b1, b2, b3⟩, gg⟩ := cells4 H5.out.box
    clear gg
    go_wp2_with fail
    have hs6 := rSize_any d t _ w5 H5.out.rep hht (by omega)
    rw [HSR.out] at hs6
    refine hs6.mono ?_
    rintro e w6 ⟨rfl, hb6⟩
    clear hs6 HSR
    have H6 := Lib.hid (H5.out.kept hb6)
    clear H5 hb6 b0 b1 b2 b3
    obtain ⟨⟨b0, b1, b2, b3⟩, gg⟩ := cells4 H6.out.box
    clear gg
    go_wp2_with fail
    have x0 := cell_regrown b0; have x1 := cell_regrown b1; have x2 := cell_regrown b2; have x3 := cell_regrown b3
    clear b0 b1 b2 b3
    have cv1 : ∀ (dd : Nat) (os : Array Obj), (convert 27 9 (.slice none 0 0)).run Try.prog (Sort.grow (redrawn w6 dd) os) = .ok (.string ⟨#[]⟩) (Sort.grow (redrawn w6 dd) os) :=
      fun dd os => bytes_str 0 (bytesAt_nil _ none) rfl rfl
    have hCK : ∀ W, Below w6.heap.size w6 W → Calls Try.prog 16 #[.agg #[.int .i64 k, .int .i64 n, .string s, .slice a len cap]] W fun r w' => r = .returned (.int .i64 (M.check d t)) ∧ Below W.heap.size W w' :=
      fun W hW => check_any d t _ W (H6.out.rep.later hW) hht
    have hRK : ∀ W, Below w6.heap.size w6 W → Calls Try.prog 17 #[.agg #[.int .i64 k, .int .i64 n, .string s, .slice a len cap]] W fun r w' => r = .returned (.int .i64 (M.check d t)) ∧ Below W.heap.size W w' :=
      fun W hW => rcheck_any d t _ W (H6.out.rep.later hW) hht
    have HC1 := Lib.hid hCK; have HC2 := Lib.hid hRK
    have HB := Lib.hid H6.out.below
    clear hCK hRK H6
    refine wp_region_qb (by kernel_rfl) ?_
    repeat (go_big_quiet_step (first
      | (with_reducible exact regrown_call (fun W hW => HC1.out W hW) _ _)
      | (with_reducible exact regrown_call (fun W hW => HC2.out W hW) _ _)))
    refine wpQuiet_nil ?_
    intro W2 hb7
    clear x0 x1 x2 x3
    go_wp2_with fail
    go_ret
    exact ⟨rfl, HB.out.trans (hb7.mono HB.out.size)⟩

set_option maxRecDepth 100000 in
theorem encodeSpec_lifted (os : Os) (started : os.Started) (H : Type) (enc : TypeId × Value → H) :
    ReturnsInHanded {} Try.checked os 3 .any (Rows.codecEncodeSpecSpec.pre6 enc Try.prog Try.f3 Rows.codecEncodeSpecRow.domain false) (Rows.codecEncodeSpecSpec.post enc Try.prog Try.f3 false true false false) := by
  refine returnsInHanded_of_change_sized (C := Try.checked) Try.ownKnob0 started (by kernel_rfl) Try.func3
    (ChangeSpec.witness6 (enc := enc) (C := Try.checked) false ⟨#[], #[.agg #[.int .i64 0, .int .i64 0, .string ⟨#[]⟩, .slice none 0 0]], []⟩ 8 (by kernel_rfl) (by kernel_rfl) (by kernel_rfl) (by kernel_rfl)) ?_
  intro W base args ds gs before hval0 hW hcnd hsz0 _
  have hval : ∀ (j : Nat) t v, Try.f3.params[j]? = some t → args[j]? = some v → Value.okWide Try.prog W .any base t v := hval0
  have hW' := hW
  obtain ⟨p, q, hA0, hV, rfl, _, _⟩ := hW
  have hA : DataW.TrodAll enc Try.prog W 0 (fun _ => true) true Try.f3.params.toList args.toList ds p := hA0
  obtain ⟨rfl, rfl⟩ := trodVars_none hV
  have hsz : (DataW.weightsEach Try.prog (Try.f3.params.toList ++ []) (ds ++ [])).all (fun x => decide (x ≤ reachBytes)) = true := hsz0
  rw [List.append_nil, List.append_nil] at hsz
  rw [Try.params3] at hA hval hsz
  obtain ⟨v0, d0, rfl, rfl, h0⟩ := trodAll_one hA
  simp only [DataW.weightsEach, List.append_nil] at hsz
  obtain ⟨N0, hN0⟩ := open_value (hval 0 24 v0 rfl rfl) h0 hsz
  obtain ⟨t, ht⟩ := hN0 N0 (Nat.le_refl _)
  clear hA0 hval0
  refine (encodeSpec_walk N0 t v0 W ht).mono fun e W' ⟨he, hb⟩ => ?_
  subst he
  exact ⟨_, rfl, law_post Try.laidOut0 (by decide +kernel) Try.underlying4 rfl rfl (rfl) hW' hb⟩

theorem encodeSpec_holds : Rows.CodecEncodeSpecSaid :=
  OpenClaim.holds_of_wide 3 Try.f3 rfl rfl rfl rfl rfl rfl rfl ⟨rfl, rfl, rfl, rfl, rfl⟩ rfl rfl rfl rfl rfl (by kernel_rfl) Try.func3 (by kernel_rfl)
    (of_decide_eq_true (by kernel_rfl)) (by unfold Func.isWrapper; first | (rw [if_pos (by decide +kernel)]; kernel_rfl) | (rw [if_neg (by decide +kernel)]; exact ⟨rfl, rfl⟩))
    (fun os started H enc _ => encodeSpec_lifted os started H enc)

#print axioms encodeSpec_holds
end Go.Proofs.Ytmhchpdogjbpmaa
