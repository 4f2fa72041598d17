/- CodecSameSpec holds: for every two values, Same agrees with the specification, and each value is the same as itself. No condition. -/
import Derived.Test.YtmhchpdogjbpmaaRSame
import Derived.Test.YtmhchpdogjbpmaaFew
import Derived.Test.YtmhchpdogjbpmaaOpen
import Derived.Test.YtmhchpdogjbpmaaLift
namespace Go.Proofs.Ytmhchpdogjbpmaa
open Go.ChangeShapes Go.WideShapes Go.ChangeAt Go.RowKit

theorem M.all2_refl {α : Type} (f : α → α → Bool) : ∀ (l : List α), (∀ x ∈ l, f x x = true) → M.all2 f l l = true
  | [], _ => rfl
  | x :: l, h => by
    rw [M.all2, h x (List.mem_cons_self ..), M.all2_refl f l (fun y hy => h y (List.mem_cons_of_mem _ hy))]; rfl
theorem M.same_refl : ∀ (d : Nat) (t : M.T d), M.same d t d t = true
  | 0, t => t.elim
  | d + 1, (k, n, s, l) => by
    have h : M.all2 (fun x y => M.same d x d y) l l = true := M.all2_refl _ l (fun x _ => M.same_refl d x)
    have : M.same (d + 1) (k, n, s, l) (d + 1) (k, n, s, l) = (k == k && n == n && s.toList == s.toList && M.all2 (fun x y => M.same d x d y) l l) := rfl
    rw [this, h]; simp

set_option maxRecDepth 100000 in
set_option maxHeartbeats 4000000 in
theorem sameSpec_walk (d : Nat) (t u : M.T d) (v v' : Value) (w : World) (hr : Rep w.heap.size w d t v) (hr' : Rep w.heap.size w d u v') :
    Calls Try.prog 5 #[v, v'] w fun e w' => e = .returned (.bool true) ∧ Below w.heap.size w w' := by
  obtain ⟨k, n, s, a, len, cap, rfl⟩ := hr.shape
  obtain ⟨k', n', s', a', len', cap', rfl⟩ := hr'.shape
  have hbx := boxes2_new w (.int .i64 k) (.int .i64 n) (.string s) (.slice a len cap) (.int .i64 k') (.int .i64 n') (.string s') (.slice a' len' cap')
  have hbw : Below w.heap.size w ((w.alloc (.cells #[.int .i64 k, .int .i64 n, .string s, .slice a len cap] 24)).alloc (.cells #[.int .i64 k', .int .i64 n', .string s', .slice a' len' cap'] 24)) := ((Below.refl _ _).alloc (Nat.le_refl _) _).alloc (by simp) _
  have hrA := hr.later hbw
  have hrA' := hr'.later hbw
  go_enter Try.func5, Try.ntmps5
  go_wp2_with fail
  clear hr hr'
  generalize (w.alloc (.cells #[.int .i64 k, .int .i64 n, .string s, .slice a len cap] 24)).alloc (.cells #[.int .i64 k', .int .i64 n', .string s', .slice a' len' cap'] 24) = WA at *
  refine (sane_any WA).mono ?_
  rintro e w1 ⟨rfl, g1⟩
  have hbx1 := hbx.kept g1
  have hr1 := hrA.later g1
  have hr1' := hrA'.later g1
  have hb1 := hbw.trans (g1.mono hbw.size)
  clear hbx hrA hrA' hbw g1
  obtain ⟨⟨b0, b1, b2, b3⟩, gg⟩ := cells4 hbx1.1
  obtain ⟨⟨d0, d1, d2, d3⟩, gg2⟩ := cells4 hbx1.2
  clear gg gg2
  have HR := Lib.hid hr1; have HR' := Lib.hid hr1'; have HBX := Lib.hid hbx1; clear hr1 hr1' hbx1
  go_wp2_with fail
  have hbA : Below w1.heap.size w1 (w1.alloc (.cells #[.int .i64 k, .int .i64 n, .string s, .slice a len cap, .int .i64 k', .int .i64 n', .string s', .slice a' len' cap'] 24)) := (Below.refl _ _).alloc (Nat.le_refl _) _
  have hel := elems_two (heap_alloc_new w1 (.cells #[.int .i64 k, .int .i64 n, .string s, .slice a len cap, .int .i64 k', .int .i64 n', .string s', .slice a' len' cap'] 24)) (HR.out.later hbA) (HR'.out.later hbA)
  have HEL := Lib.hid hel
  clear hel
  cases hfw : (decide (M.cnt d t 21 ≤ 200) && decide (M.cnt d u 21 ≤ 200)) with
  | false =>
    refine (few_pair false hfw HEL.out).mono ?_
    rintro e w2 ⟨rfl, hb2⟩
    go_wp2_with fail
    go_ret
    exact ⟨rfl, hb1.trans ((hbA.trans (hb2.mono hbA.size)).mono hb1.size)⟩
  | true =>
    refine (few_pair true hfw HEL.out).mono ?_
    rintro e w2 ⟨rfl, hb2⟩
    have hb12 := hbA.trans (hb2.mono hbA.size)
    have hbx2 := HBX.out.kept hb12
    have HR2 := Lib.hid (HR.out.later hb12)
    have HR2' := Lib.hid (HR'.out.later hb12)
    have hbw2 := hb1.trans (hb12.mono hb1.size)
    clear HR HR' HBX hb12 hb2 hbA HEL hfw hb1 b0 b1 b2 b3 d0 d1 d2 d3
    obtain ⟨⟨b0, b1, b2, b3⟩, gg⟩ := cells4 hbx2.1
    obtain ⟨⟨d0, d1, d2, d3⟩, gg2⟩ := cells4 hbx2.2
    clear gg gg2 hbx2
    have hS : ∀ W, Below w2.heap.size w2 W → Calls Try.prog 21 #[.agg #[.int .i64 k, .int .i64 n, .string s, .slice a len cap], .agg #[.int .i64 k', .int .i64 n', .string s', .slice a' len' cap']] W fun r w' => r = .returned (.bool (M.same d t d u)) ∧ Below W.heap.size W w' :=
      fun W hW => same_any d t d u _ _ W (HR2.out.later hW) (HR2'.out.later hW)
    have hT : ∀ W, Below w2.heap.size w2 W → Calls Try.prog 20 #[.agg #[.int .i64 k, .int .i64 n, .string s, .slice a len cap], .agg #[.int .i64 k', .int .i64 n', .string s', .slice a' len' cap']] W fun r w' => r = .returned (.bool (M.same d t d u)) ∧ Below W.heap.size W w' :=
      fun W hW => rsame_any d t d u _ _ W (HR2.out.later hW) (HR2'.out.later hW)
    have hA : ∀ W, Below w2.heap.size w2 W → Calls Try.prog 21 #[.agg #[.int .i64 k, .int .i64 n, .string s, .slice a len cap], .agg #[.int .i64 k, .int .i64 n, .string s, .slice a len cap]] W fun r w' => r = .returned (.bool true) ∧ Below W.heap.size W w' :=
      fun W hW => by have := same_any d t d t _ _ W (HR2.out.later hW) (HR2.out.later hW); rw [M.same_refl] at this; exact this
    have hB : ∀ W, Below w2.heap.size w2 W → Calls Try.prog 21 #[.agg #[.int .i64 k', .int .i64 n', .string s', .slice a' len' cap'], .agg #[.int .i64 k', .int .i64 n', .string s', .slice a' len' cap']] W fun r w' => r = .returned (.bool true) ∧ Below W.heap.size W w' :=
      fun W hW => by have := same_any d u d u _ _ W (HR2'.out.later hW) (HR2'.out.later hW); rw [M.same_refl] at this; exact this
    clear HR2 HR2'
    generalize M.same d t d u = R at *
    cases R
    all_goals
      have HS := Lib.hid hS; have HT := Lib.hid hT; have HA := Lib.hid hA; have HB := Lib.hid hB
      clear hS hT hA hB
      go_wp2_with fail
      have x0 := cell_regrown b0; have x1 := cell_regrown b1; have x2 := cell_regrown b2; have x3 := cell_regrown b3
      have y0 := cell_regrown d0; have y1 := cell_regrown d1; have y2 := cell_regrown d2; have y3 := cell_regrown d3
      clear b0 b1 b2 b3 d0 d1 d2 d3
      refine wp_region_qb (by kernel_rfl) ?_
      repeat (go_big_quiet_step (first
        | (with_reducible exact regrown_call (fun W hW => HS.out W hW) _ _)
        | (with_reducible exact regrown_call (fun W hW => HT.out W hW) _ _)
        | (with_reducible exact regrown_call (fun W hW => HA.out W hW) _ _)
        | (with_reducible exact regrown_call (fun W hW => HB.out W hW) _ _)))
      refine wpQuiet_nil ?_
      intro W2 hb2
      clear x0 x1 x2 x3 y0 y1 y2 y3 HS HT HA HB
      go_wp2_with fail
      go_ret
      exact ⟨rfl, hbw2.trans (hb2.mono hbw2.size)⟩

/-- Two arguments of type api.Value. -/
theorem open_two {H : Type} {enc : TypeId × Value → H} {W : World} {base : Nat} {args : Array Value} {ds : List (DataW H)} {p : List MemPlace}
    (hval : ∀ (j : Nat) t v, (#[24, 24] : Array TypeId)[j]? = some t → args[j]? = some v → Value.okWide Try.prog W .any base t v)
    (hA : DataW.TrodAll enc Try.prog W 0 (fun _ => true) true [24, 24] args.toList ds p)
    (hsz : (DataW.weightsEach Try.prog [24, 24] ds).all (fun x => decide (x ≤ reachBytes)) = true) :
    ∃ (d : Nat) (t u : M.T d) (v v' : Value), args = #[v, v'] ∧ Rep W.heap.size W d t v ∧ Rep W.heap.size W d u v' := by
  obtain ⟨v0, v1, d0, d1, p0, p1, rfl, rfl, rfl, h0, h1⟩ := trodAll_two hA
  simp only [DataW.weightsEach, List.append_nil] at hsz
  obtain ⟨N0, hN0⟩ := open_value (hval 0 24 v0 rfl rfl) h0 (all_append hsz).1
  obtain ⟨N1, hN1⟩ := open_value (hval 1 24 v1 rfl rfl) h1 (all_append hsz).2
  obtain ⟨t, ht⟩ := hN0 (max N0 N1) (by omega)
  obtain ⟨u, hu⟩ := hN1 (max N0 N1) (by omega)
  exact ⟨_, t, u, v0, v1, rfl, ht, hu⟩

set_option maxRecDepth 100000 in
theorem sameSpec_lifted (os : Os) (started : os.Started) (H : Type) (enc : TypeId × Value → H) :
    ReturnsInHanded {} Try.checked os 5 .any (Rows.codecSameSpecSpec.pre6 enc Try.prog Try.f5 Rows.codecSameSpecRow.domain false) (Rows.codecSameSpecSpec.post enc Try.prog Try.f5 false true false false) := by
  refine returnsInHanded_of_change_sized (C := Try.checked) Try.ownKnob0 started (by kernel_rfl) Try.func5
    (ChangeSpec.witness6 (enc := enc) (C := Try.checked) false ⟨#[], #[.agg #[.int .i64 0, .int .i64 0, .string ⟨#[]⟩, .slice none 0 0], .agg #[.int .i64 0, .int .i64 0, .string ⟨#[]⟩, .slice none 0 0]], []⟩ 8 (by kernel_rfl) (by kernel_rfl) (by kernel_rfl) (by kernel_rfl)) ?_
  intro W base args ds gs before hval0 hW hcnd hsz0 _
  have hval : ∀ (j : Nat) t v, Try.f5.params[j]? = some t → args[j]? = some v → Value.okWide Try.prog W .any base t v := hval0
  have hW' := hW
  obtain ⟨p, q, hA0, hV, rfl, _, _⟩ := hW
  have hA : DataW.TrodAll enc Try.prog W 0 (fun _ => true) true Try.f5.params.toList args.toList ds p := hA0
  obtain ⟨rfl, rfl⟩ := trodVars_none hV
  have hsz : (DataW.weightsEach Try.prog (Try.f5.params.toList ++ []) (ds ++ [])).all (fun x => decide (x ≤ reachBytes)) = true := hsz0
  rw [List.append_nil, List.append_nil] at hsz
  rw [Try.params5] at hA hval hsz
  obtain ⟨d, t, u, v, v', rfl, hr, hr'⟩ := open_two hval hA hsz
  clear hA0 hval0
  refine (sameSpec_walk d t u v v' W hr hr').mono fun e W' ⟨he, hb⟩ => ?_
  subst he
  exact ⟨_, rfl, law_post Try.laidOut0 (by decide +kernel) Try.underlying4 rfl rfl (by
    match ds, hA with
    | [_, _], _ => rfl) hW' hb⟩

theorem sameSpec_holds : Rows.CodecSameSpecSaid :=
  OpenClaim.holds_of_wide 5 Try.f5 rfl rfl rfl rfl rfl rfl rfl ⟨rfl, rfl, rfl, rfl, rfl⟩ rfl rfl rfl rfl rfl (by kernel_rfl) Try.func5 (by kernel_rfl)
    (of_decide_eq_true (by kernel_rfl)) (by unfold Func.isWrapper; first | (rw [if_pos (by decide +kernel)]; kernel_rfl) | (rw [if_neg (by decide +kernel)]; exact ⟨rfl, rfl⟩))
    (fun os started H enc _ => sameSpec_lifted os started H enc)

#print axioms sameSpec_holds
end Go.Proofs.Ytmhchpdogjbpmaa
