/- GroupDetermined holds: a scalar is between 1 and Q - 1, its power of G is an element other than 1, and it depends on the hash of tag and bytes alone. No condition; the card is tied to the program's laid table. -/
import Derived.Test.YtaamifgneopocaaDoorGDetermined
import Derived.Test.YtaamifgneopocaaDoorLift
namespace Go.Proofs.YtaamifgneopocaaDoor
open Go.ChangeShapes Go.WideShapes Go.ChangeAt Go.RowKit

set_option maxRecDepth 100000 in
theorem determined_contract (H : Type) (enc : TypeId × Value → H) (W : World) (base : Nat) (args : Array Value) (ds gs : List (DataW H)) (before : List MemPlace)
    (hval : ∀ (j : Nat) t v, Tryd.f10.params[j]? = some t → args[j]? = some v → Value.okWide Tryd.prog W .any base t v)
    (hW : DataW.Whole enc Tryd.prog Tryd.f10.params.toList Rows.groupDeterminedSpec.vars false W args.toList ds gs before) (hL : laidMetH Tryd.prog Rows.groupDeterminedRow.laid W) (hsz0 : (DataW.weightsEach Tryd.prog (Tryd.f10.params.toList ++ (OpenSpec.ofChange Rows.groupDeterminedSpec).bare.plain.varTypes Tryd.prog) (ds ++ gs)).all (· ≤ reachBytes) = true) :
    Calls Tryd.prog 10 args W fun e W' => ∃ v, e = .returned v ∧ Rows.groupDeterminedSpec.post enc Tryd.prog Tryd.f10 false true false false W args v W' := by
  have hW' := hW
  obtain ⟨p, q, hA0, hV, rfl, hfz, hnd⟩ := hW
  have hA : DataW.TrodAll enc Tryd.prog W 0 (fun _ => true) true Tryd.f10.params.toList args.toList ds p := hA0
  rw [Tryd.params10] at hA hval
  obtain ⟨v0, vs0, d0, ds0, p0, q0, hargs, rfl, rfl, h0, r0⟩ := trodAll_cons hA
  obtain ⟨v1, vs1, d1, ds1, p1, q1, rfl, rfl, rfl, h1, r1⟩ := trodAll_cons r0
  obtain ⟨v2, vs2, d2, ds2, p2, q2, rfl, rfl, rfl, h2, r2⟩ := trodAll_cons r1
  obtain ⟨v3, vs3, d3, ds3, p3, q3, rfl, rfl, rfl, h3, r3⟩ := trodAll_cons r2
  obtain ⟨rfl, rfl, rfl⟩ := trodAll_nil r3
  obtain rfl : args = #[v0, v1, v2, v3] := by cases args; simp_all
  obtain ⟨rfl, rfl⟩ := trodVars_none hV
  have k0 := hval 0 9 v0 rfl rfl
  have k1 := hval 1 9 v1 rfl rfl
  have k2 := hval 2 22 v2 rfl rfl
  have k3 := hval 3 22 v3 rfl rfl
  clear hval
  obtain ⟨s0, rfl, rfl, rfl, _⟩ := ChangeMaps.open_string Tryd.underlying9 k0 h0
  obtain ⟨s1, rfl, rfl, rfl, _⟩ := ChangeMaps.open_string Tryd.underlying9 k1 h1
  obtain ⟨pa2, raw2, cap2, rfl, hlc2, hby2, hds2⟩ := open_bytes_d k2 h2
  obtain ⟨pa3, raw3, cap3, rfl, hlc3, hby3, hds3⟩ := open_bytes_d k3 h3
  clear hA0
  refine (determined_walk s0 s1 pa2 raw2.length cap2 raw2 pa3 raw3.length cap3 raw3 W (table hL) rfl hlc2 hby2 rfl hlc3 hby3 (string_sized (j := 0) hsz0 (by rw [Tryd.params10]; rfl) rfl) (string_sized (j := 1) hsz0 (by rw [Tryd.params10]; rfl) rfl) (bytes_sized (j := 2) hsz0 (by rw [Tryd.params10]; rfl) rfl hds2) (bytes_sized (j := 3) hsz0 (by rw [Tryd.params10]; rfl) rfl hds3)).mono fun e W' ⟨he, hb⟩ => ?_
  subst he
  exact ⟨_, rfl, law_post laidOut0 (by decide +kernel) Tryd.underlying4 rfl rfl rfl hW' hb⟩

theorem determined_reads (os : Os) {H : Type} (enc : TypeId × Value → H) : ∃ places, DataW.whole enc Tryd.prog ((laidWorld os).forCall (fun _ _ => 0) ⟨#[], #[.string ⟨#[]⟩, .string ⟨#[]⟩, .slice none 0 0, .slice none 0 0], []⟩).memory Tryd.f10.params.toList Rows.groupDeterminedSpec.vars false (#[.string ⟨#[]⟩, .string ⟨#[]⟩, .slice none 0 0, .slice none 0 0] : Array Value).toList 8 = some ([.lit (.string []), .lit (.string []), .nil, .nil], [], places) :=
  ⟨[], by kernel_rfl⟩

set_option maxRecDepth 100000 in
theorem determined_lifted (os : Os) (started : os.Started) (H : Type) (enc : TypeId × Value → H) (F : Stop.Interp) :
    ReturnsInHanded {} Tryd.checked os 10 .any ((OpenSpec.ofChange Rows.groupDeterminedSpec).preRow enc Tryd.prog Tryd.f10 Rows.groupDeterminedRow.domain false Rows.groupDeterminedRow.laid) (((OpenSpec.ofChange Rows.groupDeterminedSpec).at F).post enc Tryd.prog Tryd.f10 false true false false) := by
  obtain ⟨places, hx⟩ := determined_reads os enc
  refine returnsInHanded_of_row (C := Tryd.checked) (s := OpenSpec.ofChange Rows.groupDeterminedSpec) ownKnob0 started (by kernel_rfl) Tryd.func10
    (witness_row_at (enc := enc) (C := Tryd.checked) false (laidWorld os) #[.string ⟨#[]⟩, .string ⟨#[]⟩, .slice none 0 0, .slice none 0 0] rfl (by kernel_rfl) (by kernel_rfl) (by kernel_rfl)
      (OpenSpec.preRow_of_cond 8 hx (by kernel_rfl) (fun k hk => by cases hk) (by kernel_rfl) (laid_met os _))) ?_
  intro W base args ds gs before hval hW _ _ hsz hL _ _
  exact determined_contract H enc W base args ds gs before hval hW hL hsz

theorem determined_said : Rows.GroupDeterminedSaid :=
  OpenClaim.holds_of_cond 10 Tryd.f10 rfl rfl rfl rfl rfl rfl rfl ⟨rfl, rfl, rfl, rfl, rfl⟩ rfl rfl rfl rfl rfl (by kernel_rfl) Tryd.func10 (by kernel_rfl)
    (of_decide_eq_true (by kernel_rfl)) (by unfold Func.isWrapper; first | (rw [if_pos (by decide +kernel)]; kernel_rfl) | (rw [if_neg (by decide +kernel)]; exact ⟨rfl, rfl⟩))
    (fun os started H enc _ F => by rw [OpenClaim.pre_eq_preRow]; exact determined_lifted os started H enc F)

theorem determined_plain (f : FuncId) (fn : Func) (hf : Tryd.pinned.checked.prog.funcNamed "overflight/overflightlaw03.GroupDetermined" = some f) (hfn : Tryd.pinned.checked.prog.funcs[f]? = some fn) :
    false = Tryd.pinned.checked.prog.looks [] ∧ ∀ (j : Nat) t, fn.params[j]? = some t → Tryd.pinned.checked.prog.wantsStandIn t = false := by
  obtain rfl : f = 10 := Option.some.inj ((show Tryd.prog.funcNamed "overflight/overflightlaw03.GroupDetermined" = some 10 by kernel_rfl).symm.trans hf) |>.symm
  obtain rfl : fn = Tryd.f10 := (Option.some.inj (Tryd.func10.symm.trans hfn)).symm
  refine ⟨by kernel_rfl, fun j t ht => ?_⟩
  rw [Tryd.params10] at ht
  have hm : t = 9 ∨ t = 22 := by simpa using Array.mem_of_getElem? ht
  rcases hm with rfl | rfl
  · exact (show Tryd.prog.wantsStandIn 9 = false by kernel_rfl)
  · exact (show Tryd.prog.wantsStandIn 22 = false by kernel_rfl)

theorem determined_card : Rows.GroupDeterminedCardSaid :=
  Claim7.holds_tied_plain_at .later [] _ _ _ _ determined_said (fun _ h => by cases h) (by kernel_rfl) (fun _ h => by cases h) groupDetermined_row_tie rfl ⟨rfl, rfl⟩ (by kernel_rfl) rfl determined_plain (by kernel_rfl)

#print axioms determined_card
end Go.Proofs.YtaamifgneopocaaDoor
