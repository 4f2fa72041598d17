/- CodecDecodeSpec holds: for all bytes, Decode and the specification's Decode hand back the same value and the same error. No condition. -/
import Derived.Test.YtmhchpdogjbpmaaRDecode
namespace Go.Proofs.Ytmhchpdogjbpmaa
open Go.ChangeShapes Go.WideShapes Go.ChangeAt Go.RowKit

/-- The reference's Same, at two zero values. -/
theorem rsame_zero (w : World) : Calls Try.prog 20 #[.agg #[.int .i64 0, .int .i64 0, .string ⟨#[]⟩, .slice none 0 0], .agg #[.int .i64 0, .int .i64 0, .string ⟨#[]⟩, .slice none 0 0]] w fun r w' => r = .returned (.bool true) ∧ Below w.heap.size w w' := by
  have hz : Rep w.heap.size w 1 (0, 0, ⟨#[]⟩, []) (.agg #[.int .i64 0, .int .i64 0, .string ⟨#[]⟩, .slice none 0 0]) := ⟨by omega, by omega, Nat.zero_le _, Nat.zero_le _, none, 0, rfl, .inl rfl⟩
  have := rsame_any 1 (0, 0, ⟨#[]⟩, []) 1 (0, 0, ⟨#[]⟩, []) _ _ w hz hz
  have h : M.same 1 (0, 0, ⟨#[]⟩, []) 1 (0, 0, ⟨#[]⟩, []) = true := M.same_refl 1 (0, 0, ⟨#[]⟩, [])
  rw [h] at this; exact this

set_option maxRecDepth 100000 in
set_option maxHeartbeats 4000000 in
theorem decodeSpec_walk (pa : Option Addr) (raw : List UInt8) (nr capr : Nat) (w : World) (hby : BytesAt w pa raw) (hn : raw.length = nr) (hnc : nr ≤ capr) :
    Calls Try.prog 4 #[.slice pa nr capr] w fun e w' => e = .returned (.bool true) ∧ Below w.heap.size w w' := by
  have HN := Lib.hid hn
  clear hn
  go_enter Try.func4, Try.ntmps4
  go_wp2_with fail
  refine (sane_any w).mono ?_
  rintro e w1 ⟨rfl, g1⟩
  have HBY1 := Lib.hid (hby.kept g1)
  clear hby
  by_cases hlt : 2000 < nr
  · go_wp2_with fail
    go_ret
    exact ⟨rfl, g1⟩
  have hle : nr ≤ 2000 := by omega
  clear hlt
  go_wp2_with fail
  cases hd : M.dec raw with
  | none =>
    have HD := Lib.hid hd
    clear hd
    refine (decode_no pa nr capr raw w1 HN.out (by omega) hnc HBY1.out HD.out).mono ?_
    rintro e w2 ⟨rfl, hb2⟩
    have hbA : Below w2.heap.size w2 (w2.alloc (.cells #[.int .i64 0, .int .i64 0, .string ⟨#[]⟩, .slice none 0 0] 24)) := (Below.refl _ _).alloc (Nat.le_refl _) _
    have hbx := heap_alloc_new w2 (.cells #[.int .i64 0, .int .i64 0, .string ⟨#[]⟩, .slice none 0 0] 24)
    have hb2A := hb2.trans (hbA.mono hb2.size)
    have HBY3 := Lib.hid (HBY1.out.kept hb2A)
    have hb3 := g1.trans (hb2A.mono g1.size)
    have hsz3 : (w2.alloc (.cells #[.int .i64 0, .int .i64 0, .string ⟨#[]⟩, .slice none 0 0] 24)).heap.size = w2.heap.size + 1 := by simp
    clear g1 hb2 hb2A HBY1 hbA
    go_wp2_with fail
    generalize w2.alloc (.cells #[.int .i64 0, .int .i64 0, .string ⟨#[]⟩, .slice none 0 0] 24) = w3 at *
    generalize w2.heap.size = B2 at *
    clear w2
    refine (rdecode_no pa nr capr raw w3 HN.out (by omega) hnc HBY3.out HD.out).mono ?_
    rintro e w5 ⟨rfl, hb5⟩
    have hbx5 := box_stays hbx hb5
    have hbA : Below w5.heap.size w5 (w5.alloc (.cells #[.int .i64 0, .int .i64 0, .string ⟨#[]⟩, .slice none 0 0] 24)) := (Below.refl _ _).alloc (Nat.le_refl _) _
    have hbx6 := box_stays hbx5 hbA
    have hbz6 := heap_alloc_new w5 (.cells #[.int .i64 0, .int .i64 0, .string ⟨#[]⟩, .slice none 0 0] 24)
    have hb35 := hb5.trans (hbA.mono hb5.size)
    have hb6 := hb3.trans (hb35.mono hb3.size)
    clear hb3 hb5 hb35 HBY3 hbA hbx
    obtain ⟨⟨b0, b1, b2, b3⟩, gg⟩ := cells4 hbx6
    obtain ⟨⟨d0, d1, d2, d3⟩, gg2⟩ := cells4 hbz6
    obtain ⟨⟨m0, m1, m2, m3⟩, gg3⟩ := cells4 hbx5
    have hlt2 : B2 < w5.heap.size := (Array.getElem?_eq_some_iff.1 hbx5).1
    clear gg gg2 gg3 hbx6 hbz6 hbx5
    go_wp2_with fail
    refine (rsame_zero _).mono ?_
    rintro e w7 ⟨rfl, hb7⟩
    clear b0 b1 b2 b3 d0 d1 d2 d3 m0 m1 m2 m3
    go_wp2_with fail
    go_ret
    exact ⟨rfl, hb6.trans (hb7.mono hb6.size)⟩
  | some t =>
    have HD := Lib.hid hd
    clear hd
    refine (decode_at pa nr capr raw w1 t HN.out (by omega) hnc HBY1.out HD.out).mono ?_
    rintro e w2 ⟨k, n, s, a, len, cap, rfl, hr2, hb2⟩
    have hbA : Below w2.heap.size w2 (w2.alloc (.cells #[.int .i64 k, .int .i64 n, .string s, .slice a len cap] 24)) := (Below.refl _ _).alloc (Nat.le_refl _) _
    have hbx := heap_alloc_new w2 (.cells #[.int .i64 k, .int .i64 n, .string s, .slice a len cap] 24)
    have hb2A := hb2.trans (hbA.mono hb2.size)
    have HBY3 := Lib.hid (HBY1.out.kept hb2A)
    have hb3 := g1.trans (hb2A.mono g1.size)
    have hsz3 : (w2.alloc (.cells #[.int .i64 k, .int .i64 n, .string s, .slice a len cap] 24)).heap.size = w2.heap.size + 1 := by simp
    have HR3 := Lib.hid (hr2.later hbA)
    clear g1 hb2 hb2A HBY1 hbA hr2
    go_wp2_with fail
    generalize w2.alloc (.cells #[.int .i64 k, .int .i64 n, .string s, .slice a len cap] 24) = w3 at *
    generalize w2.heap.size = B2 at *
    clear w2
    refine (rdecode_at pa nr capr raw w3 t HN.out (by omega) hnc HBY3.out HD.out).mono ?_
    rintro e w5 ⟨k', n', s', a', len', cap', rfl, hr5, hb5⟩
    have hbx5 := box_stays hbx hb5
    have hbA : Below w5.heap.size w5 (w5.alloc (.cells #[.int .i64 k', .int .i64 n', .string s', .slice a' len' cap'] 24)) := (Below.refl _ _).alloc (Nat.le_refl _) _
    have hbx6 := box_stays hbx5 hbA
    have hbz6 := heap_alloc_new w5 (.cells #[.int .i64 k', .int .i64 n', .string s', .slice a' len' cap'] 24)
    have hb35 := hb5.trans (hbA.mono hb5.size)
    have hb6 := hb3.trans (hb35.mono hb3.size)
    have HR6 := Lib.hid (HR3.out.later hb35)
    have HS6 := Lib.hid (hr5.later hbA)
    clear hb3 hb5 hb35 HBY3 hbA hbx hr5 HR3
    obtain ⟨⟨b0, b1, b2, b3⟩, gg⟩ := cells4 hbx6
    obtain ⟨⟨d0, d1, d2, d3⟩, gg2⟩ := cells4 hbz6
    obtain ⟨⟨m0, m1, m2, m3⟩, gg3⟩ := cells4 hbx5
    have hlt2 : B2 < w5.heap.size := (Array.getElem?_eq_some_iff.1 hbx5).1
    clear gg gg2 gg3 hbx6 hbz6 hbx5
    go_wp2_with fail
    have hS := rsame_any 17 t 17 t _ _ _ HR6.out HS6.out
    rw [M.same_refl] at hS
    refine hS.mono ?_
    clear hS HR6 HS6
    rintro e w7 ⟨rfl, hb7⟩
    clear b0 b1 b2 b3 d0 d1 d2 d3 m0 m1 m2 m3
    go_wp2_with fail
    go_ret
    exact ⟨rfl, hb6.trans (hb7.mono hb6.size)⟩

set_option maxRecDepth 100000 in
theorem decodeSpec_lifted (os : Os) (started : os.Started) (H : Type) (enc : TypeId × Value → H) :
    ReturnsInHanded {} Try.checked os 4 .any (Rows.codecDecodeSpecSpec.pre6 enc Try.prog Try.f4 Rows.codecDecodeSpecRow.domain false) (Rows.codecDecodeSpecSpec.post enc Try.prog Try.f4 false true false false) := by
  refine returnsInHanded_of_change_sized (C := Try.checked) Try.ownKnob0 started (by kernel_rfl) Try.func4
    (ChangeSpec.witness6 (enc := enc) (C := Try.checked) false ⟨#[], #[.slice none 0 0], []⟩ 8 (by kernel_rfl) (by kernel_rfl) (by kernel_rfl) (by kernel_rfl)) ?_
  intro W base args ds gs before hval0 hW hcnd hsz0 _
  have hval : ∀ (j : Nat) t v, Try.f4.params[j]? = some t → args[j]? = some v → Value.okWide Try.prog W .any base t v := hval0
  have hW' := hW
  obtain ⟨p, q, hA0, hV, rfl, _, _⟩ := hW
  have hA : DataW.TrodAll enc Try.prog W 0 (fun _ => true) true Try.f4.params.toList args.toList ds p := hA0
  obtain ⟨rfl, rfl⟩ := trodVars_none hV
  have hsz : (DataW.weightsEach Try.prog (Try.f4.params.toList ++ []) (ds ++ [])).all (fun x => decide (x ≤ reachBytes)) = true := hsz0
  rw [List.append_nil, List.append_nil] at hsz
  rw [Try.params4] at hA hval hsz
  obtain ⟨v0, d0, rfl, rfl, h0⟩ := trodAll_one hA
  obtain ⟨pa, raw, capr, rfl, hlc, hby⟩ := open_bytes (hval 0 27 v0 rfl rfl) h0
  clear hA0 hval0
  refine (decodeSpec_walk pa raw raw.length capr W hby rfl hlc).mono fun e W' ⟨he, hb⟩ => ?_
  subst he
  exact ⟨_, rfl, law_post Try.laidOut0 (by decide +kernel) Try.underlying4 rfl rfl (rfl) hW' hb⟩

theorem decodeSpec_holds : Rows.CodecDecodeSpecSaid :=
  OpenClaim.holds_of_wide 4 Try.f4 rfl rfl rfl rfl rfl rfl rfl ⟨rfl, rfl, rfl, rfl, rfl⟩ rfl rfl rfl rfl rfl (by kernel_rfl) Try.func4 (by kernel_rfl)
    (of_decide_eq_true (by kernel_rfl)) (by unfold Func.isWrapper; first | (rw [if_pos (by decide +kernel)]; kernel_rfl) | (rw [if_neg (by decide +kernel)]; exact ⟨rfl, rfl⟩))
    (fun os started H enc _ => decodeSpec_lifted os started H enc)

#print axioms decodeSpec_holds
end Go.Proofs.Ytmhchpdogjbpmaa
