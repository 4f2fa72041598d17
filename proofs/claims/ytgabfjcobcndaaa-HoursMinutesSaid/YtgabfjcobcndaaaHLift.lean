/- From the walk of a law to its given statement: the law hands back true, what came in is left as it was (in my own words; the claim's form is the kit's). -/
import Derived.Test.YtgabfjcobcndaaaRows
import Derived.WalkKit
import Derived.ProofKit
import Derived.OpenShut
import Derived.Carry
import Derived.ChangeSame
import Derived.ChangeArms
import Derived.SizedLaws
import Derived.Deep.Slices
import Derived.Lib.SmallJoins
import Derived.Test.YtgabfjcobcndaaaHSane
namespace Go.Proofs.Ytgabfjcobcndaaa
open Go.ChangeShapes Go.WideShapes Go.ChangeAt Go.RowKit

theorem Try.ownKnob0 : ownKnob Try.prog.godebug = none := by kernel_rfl
theorem Try.laidOut0 : laidOutB Try.prog = true := by kernel_rfl

theorem i64_bounds {n : Int} (h : (Lit.int .i64 n).wf = true) : -9223372036854775808 ≤ n ∧ n ≤ 9223372036854775807 := by
  simp only [Lit.wf, Bool.and_eq_true, decide_eq_true_eq] at h; exact h

theorem u64_nat {n : Int} (h : (Lit.int .u64 n).wf = true) : ∃ m : Nat, n = m ∧ m < 18446744073709551616 := by
  simp only [Lit.wf, Bool.and_eq_true, decide_eq_true_eq] at h
  obtain ⟨h1, h2⟩ := h
  have h3 : 0 ≤ n := h1
  have h4 : n ≤ 18446744073709551615 := h2
  exact ⟨n.toNat, by omega, by omega⟩

section
variable {H : Type} {enc : TypeId × Value → H} {P : Program}

/-- Arguments that were read read as they did, wherever old memory is as it was. -/
theorem args_stay (hl : laidOutB P = true) {W W' : World} (hb : Below W.heap.size W W') (sp : Nat → Bool) :
    ∀ (ts : List TypeId) (vs : List Value) (ds : List (DataW H)) (ps : List MemPlace), (∀ t ∈ ts, P.readableRec t = true ∧ t < P.types.size) → (∀ p ∈ ps, p.block < W.heap.size) → (∀ p ∈ ps, sp p.block = true) →
      DataW.TrodAll enc P W 0 (fun _ => true) true ts vs ds ps → DataW.TrodAll enc P W' 0 sp true ts vs ds ps
  | [], vs, ds, ps, _, _, _, h => by
    obtain ⟨rfl, rfl, rfl⟩ := trodAll_nil h
    exact trodAll_mk0
  | t :: ts, vs, ds, ps, ht, hlt, hsp, h => by
    obtain ⟨v, vs', d, ds', p, q, rfl, rfl, rfl, h0, hr⟩ := trodAll_cons h
    have h1 := ht t (List.mem_cons_self ..)
    exact trodAll_cons_mk (WideElems.Trod_stays hl h1.1 h1.2 h0 (fun x hx => hb.same (hlt x (List.mem_append_left _ hx))) (fun x hx => hsp x (List.mem_append_left _ hx)))
      (args_stay hl hb sp ts vs' ds' q (fun t' h' => ht t' (List.mem_cons_of_mem _ h')) (fun x hx => hlt x (List.mem_append_right _ hx)) (fun x hx => hsp x (List.mem_append_right _ hx)) hr)

/-- A law's statement, out of its walk. -/
theorem law_post {f : Func} {s : ChangeSpec} {tb : TypeId} {apart fresh handsOn again : Bool} {W W' : World} {args : Array Value} {ds gs : List (DataW H)} {before : List MemPlace}
    (hl : laidOutB P = true) (hts : ∀ t ∈ f.params.toList, P.readableRec t = true ∧ t < P.types.size) (htb : P.underlying tb = some .bool) (hrt : f.resultTypes = #[tb]) (hvs : s.vars = [])
    (hfn : s.fn H (ds ++ gs) = { results := [.lit (.bool true)], args := ds })
    (hW : DataW.Whole enc P f.params.toList s.vars apart W args.toList ds gs before) (hb : Below W.heap.size W W') :
    s.post enc P f apart fresh handsOn again W args (.bool true) W' := by
  have hW0 := hW
  have hold : ∀ p ∈ before, p.block < W.heap.size := fun p hp => hW.lt p hp
  obtain ⟨pa, pv, hA, hV, hps, hz, hn⟩ := hW
  rw [hvs] at hV
  obtain ⟨rfl, rfl⟩ := trodVars_none hV
  rw [List.append_nil] at hps
  subst hps
  have hA' : ∀ sp : Nat → Bool, (∀ p ∈ before, sp p.block = true) → DataW.TrodAll enc P W' 0 sp true f.params.toList args.toList ds before := fun sp hsp => args_stay hl hb sp _ _ _ _ hts hold hsp hA
  have hlist : (Value.bool true).resultList f.resultTypes.size = [.bool true] := by rw [hrt]; rfl
  have hR : ∀ (b : Nat) (sp : Nat → Bool) (hd : Bool), DataW.TrodAll enc P W' b sp hd f.resultTypes.toList ((Value.bool true).resultList f.resultTypes.size) [.lit (.bool true)] [] := fun b sp hd => by
    rw [hlist, hrt]; exact trodAll_mk1 (shut_bool htb true)
  have hlts : ∀ p ∈ before, (fun b => decide (b < W.heap.size)) p.block = true := fun p hp => by simpa using hold p hp
  refine ⟨ds, [], before, [], before, [], hW0, ?_, ?_, ?_, World.keptBut_mono (fun p hp => ⟨hp, .inr (.inl hp)⟩) (hb.frame (· ∈ before)), fun _ => ⟨?_, [.lit (.bool true)] ++ ds, [], before, ⟨before, [], ?_, ?_, by simp, ?_, ?_⟩, fun p hp _ => hp⟩⟩
  · rw [hfn]; exact hR _ _ _
  · rw [hfn]; exact hA' _ hlts
  · rw [hfn, hvs]; exact rfl
  · exact ok_one hrt rfl (okWide_bool_mk htb true)
  · have := trodAll_append (hA' (fun _ => true) (fun _ _ => rfl)) (hR 0 (fun _ => true) true)
    simpa using this
  · rw [hvs]; exact rfl
  · intro b off hp
    rw [hb.frozen (hold _ hp)]
    exact hz b off hp
  · exact hn
end

theorem list_of_lt {α : Type} {p : Nat → α → Prop} : ∀ n, (∀ i, i < n → ∃ x, p i x) → ∃ l : List α, l.length = n ∧ ∀ (i : Nat) (x : α), l[i]? = some x → p i x
  | 0, _ => ⟨[], rfl, fun i x h => by simp at h⟩
  | n + 1, h => by
    obtain ⟨l, hl, hp⟩ := list_of_lt n (fun i hi => h i (by omega))
    obtain ⟨x, hx⟩ := h n (by omega)
    refine ⟨l ++ [x], by simp [hl], fun i y hy => ?_⟩
    rcases Nat.lt_or_ge i l.length with hi | hi
    · rw [List.getElem?_append_left hi] at hy; exact hp i y hy
    · have hi2 : i = l.length := by
        have := (List.getElem?_eq_some_iff.1 hy).1; simp at this; omega
      subst hi2
      simp at hy; subst hy; rw [hl]; exact hx

theorem Try.bytesSpan : Try.prog.bytesOf 32 = 16 := by kernel_rfl
theorem Try.cellsSpan : Try.prog.cellsOf 32 = 2 := by kernel_rfl
theorem Try.cellsInt : Try.prog.cellsOf 3 = 1 := by kernel_rfl
theorem all_append {p : Nat → Bool} {l m : List Nat} (h : (l ++ m).all p = true) : l.all p = true ∧ m.all p = true := by rw [List.all_append, Bool.and_eq_true] at h; exact h

/-- The cells of two that were read. -/
theorem cells2_read {W : World} {a : Addr} {cs : List Value} (h : W.cells? 0 a 2 = some cs) : ∃ c0 c1 b off, a = ⟨b, off, none⟩ ∧ cs = [c0, c1] ∧ W.cell? ⟨b, off, none⟩ = some c0 ∧ W.cell? ⟨b, off + 1, none⟩ = some c1 := by
  obtain ⟨_, hl, hc⟩ := World.cells?_some h
  match cs, hl with
  | [c0, c1], _ =>
    have h0 := hc 0 (by omega); have h1 := hc 1 (by omega)
    simp at h0 h1
    obtain ⟨b, off, spot⟩ := a
    have hs : spot = none := by
      cases spot with
      | none => rfl
      | some s => simp only [World.cell?, Addr.add] at h0; split at h0 <;> simp at h0
    subst hs
    exact ⟨c0, c1, b, off, rfl, rfl, by simpa [Addr.add] using h0, by simpa [Addr.add] using h1⟩

theorem open_span {H : Type} {enc : TypeId × Value → H} {W : World} {sp : Nat → Bool} {held : Bool} {fuel : Nat} {cs : List Value} {x : DataW H × List MemPlace} (h : DataW.trod enc Try.prog W 0 sp held fuel 32 cs = some x) : ∃ p q, cs = [.int .i64 p, .int .i64 q] := by
  cases fuel with
  | zero => simp [DataW.trod] at h
  | succ fuel =>
    obtain ⟨d, ps⟩ := x
    obtain ⟨xs, n, hn, hx, hl, hlen, hf⟩ := DataW.trod_struct Try.underlying32 h
    rw [Try.cellsSpan] at hl
    match cs, hl, xs, hlen with
    | [c0, c1], _, [y0, y1], _ =>
      have f0 : DataW.trod enc Try.prog W 0 sp held n 3 [c0] = some y0 := by simpa [Try.cellsInt] using hf 0 _ rfl
      have f1 : DataW.trod enc Try.prog W 0 sp held n 3 [c1] = some y1 := by simpa [Try.cellsInt] using hf 1 _ rfl
      obtain ⟨k, hk, _, _⟩ := DataW.trod_int Try.underlying3 f0
      obtain ⟨m, hm, _, _⟩ := DataW.trod_int Try.underlying3 f1
      simp only [List.cons.injEq, and_true] at hk hm
      exact ⟨k, m, by rw [hk, hm]⟩

/-- An argument of type []api.Span. -/
theorem open_spans {H : Type} {enc : TypeId × Value → H} {W : World} {b0 : Nat} {sp : Nat → Bool} {held : Bool} {v : Value} {d : DataW H} {ps : List MemPlace} (hv : Value.okWide Try.prog W .any b0 22 v) (h : DataW.Trod enc Try.prog W 0 sp held 22 v d ps) (hw : (d.weights Try.prog 22).all (fun x => decide (x ≤ reachBytes)) = true) :
    ∃ l : List M.Sp, SL W v l := by
  obtain ⟨n, f3⟩ := h
  obtain ⟨a0, len0, cap0, rfl⟩ := okWide_slice Try.underlying22 hv
  have hvc : (Value.slice a0 len0 cap0).cells.toList = [.slice a0 len0 cap0] := rfl
  rw [hvc] at f3
  rcases DataW.trod_slice Try.underlying22 f3 with ⟨h0, _⟩ | ⟨a, len, cap, elems, rest, n', hn', h0, hy3, _, hlc, hcm, hel, hat, _⟩
  · simp only [List.cons.injEq, and_true] at h0
    rw [h0]
    exact ⟨[], none, 0, rfl, .inl rfl, by decide⟩
  · simp only [List.cons.injEq, and_true] at h0
    rw [h0]
    simp only [Prod.mk.injEq] at hy3
    obtain ⟨rfl, _⟩ := hy3
    simp only [DataW.weights, Try.underlying22, List.all_cons, Bool.and_eq_true, Try.bytesSpan, List.length_map, decide_eq_true_eq] at hw
    have hln : len ≤ 8796093022208 := by have := hw.1; unfold reachBytes at this; omega
    rcases Nat.eq_zero_or_pos len with h00 | h00
    · subst h00
      exact ⟨[], some a, cap, rfl, .inl rfl, by decide⟩
    have ha : ∃ b off, a = ⟨b, off, none⟩ := by
      have h1 := hat 0 h00
      rw [Try.cellsSpan, List.getElem?_eq_getElem (by omega)] at h1
      obtain ⟨cs', h2, _⟩ := Option.bind_eq_some_iff.1 h1
      obtain ⟨_, _, b, off, hab, _⟩ := cells2_read h2
      exact ⟨b, off, by simpa [Addr.add] using hab⟩
    obtain ⟨b, off, rfl⟩ := ha
    have he : ∀ i, i < len → ∃ x : M.Sp, W.cell? ⟨b, off + i * 2, none⟩ = some (.int .i64 x.1) ∧ W.cell? ⟨b, off + i * 2 + 1, none⟩ = some (.int .i64 x.2) := by
      intro i hi
      have h1 := hat i hi
      rw [Try.cellsSpan, List.getElem?_eq_getElem (by omega)] at h1
      obtain ⟨cs', h2, h3⟩ := Option.bind_eq_some_iff.1 h1
      rw [addr_add] at h2
      obtain ⟨c0, c1, b', off', hab, rfl, e0, e1⟩ := cells2_read h2
      simp only [Addr.mk.injEq, and_true] at hab
      obtain ⟨rfl, rfl⟩ := hab
      obtain ⟨p, q, hpq⟩ := open_span h3
      simp only [List.cons.injEq, and_true] at hpq
      obtain ⟨rfl, rfl⟩ := hpq
      exact ⟨(p, q), e0, e1⟩
    obtain ⟨l, hll, hlp⟩ := list_of_lt len he
    refine ⟨l, some ⟨b, off, none⟩, cap, by rw [hll], .inr ⟨b, off, rfl, ?_, hlp⟩, by rw [hll]; exact hln⟩
    obtain ⟨_, e0, _⟩ := he 0 h00
    exact cell_block e0

end Go.Proofs.Ytgabfjcobcndaaa
