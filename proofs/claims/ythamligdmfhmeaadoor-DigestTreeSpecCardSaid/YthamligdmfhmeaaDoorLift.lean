/- From the walk of a law to its given statement, over a world in which the table of constants is laid. -/
import Derived.Test.YthamligdmfhmeaaDoorCards
import Derived.Test.YthamligdmfhmeaaDoorTie
import Derived.Test.YthamligdmfhmeaaDoorAbsorb
import Derived.Test.YthamligdmfhmeaaDoorBytes
import Derived.Deep.Slices
import Derived.WalkKit
import Derived.ProofKit
import Derived.OpenShut
import Derived.Carry
import Derived.ChangeSame
import Derived.SizedLaws
import Derived.ChangeMaps5
import Derived.Deep.DeepHandedRow
import Derived.Lib.LaidTab
namespace Go.Proofs.YthamligdmfhmeaaDoor
open Go.ChangeShapes Go.WideShapes Go.ChangeAt Go.RowKit

set_option maxRecDepth 100000 in
theorem ownKnob0 : ownKnob Tryd.prog.godebug = none := by kernel_rfl
theorem laidOut0 : laidOutB Tryd.prog = true := by kernel_rfl
set_option maxRecDepth 100000 in
theorem gTab : Tryd.prog.globalNamed "overflight/digest.constants" = some 0 := by kernel_rfl
theorem gTabType : (Tryd.prog.globals[0]?).map (·.type) = some 67 := by kernel_rfl
set_option maxRecDepth 100000 in
theorem cells64 : Tryd.prog.cellsOf 67 = 64 := by kernel_rfl
theorem cellsWord : Tryd.prog.cellsOf 52 = 1 := by kernel_rfl
set_option maxRecDepth 100000 in
theorem cellsByte : Tryd.prog.cellsOf 5 = 1 := by kernel_rfl

set_option maxRecDepth 100000 in
/-- What the row's list gives. -/
theorem table {W : World} (h : laidMetH Tryd.prog [("overflight/digest.constants", Rows.laid_overflight_digest_constants)] W) : KT W := fun i hi => by
  have hT : Lib.TabIs Tryd.prog W "overflight/digest.constants" .u32 (H.K.map fun n : Nat => (n : Int)) :=
    Lib.tabIs_of_head (rest := []) gTab gTabType Tryd.underlying67 Tryd.underlying52 cellsWord cells64 h
  have hl : H.K.length = 64 := rfl
  rw [hT.cell gTab i (by simpa [hl] using hi)]
  simp [List.getD, hl, hi]

/-- A world for the witness. -/
noncomputable def laidWorld (os : Os) : World :=
  { World.holding Tryd.prog os ⟨#[], #[], []⟩ with heap := (World.holding Tryd.prog os ⟨#[], #[], []⟩).heap.modify 0 fun
      | .cells _ t frozen => .cells (words H.K) t frozen
      | o => o }
set_option maxRecDepth 100000 in
theorem laid_met (os : Os) (args : Array Value) : laidMet Tryd.prog [("overflight/digest.constants", Rows.laid_overflight_digest_constants)] ((laidWorld os).forCall (fun _ _ => 0) ⟨#[], args, []⟩).memory :=
  laidMet_of_run' 8 (by kernel_rfl) (by kernel_rfl)

set_option maxRecDepth 100000 in
theorem byte_of_nat (x : Nat) (h : x < 256) : (UInt8.ofNat x).toNat = x := by simp; omega
theorem list_of_lt {α : Type} {p : Nat → α → Prop} : ∀ n, (∀ i, i < n → ∃ x, p i x) → ∃ l : List α, l.length = n ∧ ∀ (i : Nat) (x : α), l[i]? = some x → p i x
  | 0, _ => ⟨[], rfl, fun i x h => by simp at h⟩
  | n + 1, h => by
    obtain ⟨l, hl, hp⟩ := list_of_lt n (fun i hi => h i (by omega))
    obtain ⟨x, hx⟩ := h n (by omega)
    refine ⟨l ++ [x], by simp [hl], fun i y hy => ?_⟩
    rcases Nat.lt_or_ge i l.length with hi | hi
    · rw [List.getElem?_append_left hi] at hy; exact hp i y hy
    · have hi2 : i = l.length := by
        have := (List.getElem?_eq_some_iff.1 hy).1; simp at this; omega
      subst hi2
      simp at hy; subst hy; rw [hl]; exact hx

section
variable {H : Type} {enc : TypeId × Value → H} {P : Program}

set_option maxRecDepth 100000 in
/-- Arguments that were read read as they did, wherever old memory is as it was. -/
theorem args_stay (hl : laidOutB P = true) {W W' : World} (hb : Below W.heap.size W W') (sp : Nat → Bool) :
    ∀ (ts : List TypeId) (vs : List Value) (ds : List (DataW H)) (ps : List MemPlace), (∀ t ∈ ts, P.readableRec t = true ∧ t < P.types.size) → (∀ p ∈ ps, p.block < W.heap.size) → (∀ p ∈ ps, sp p.block = true) →
      DataW.TrodAll enc P W 0 (fun _ => true) true ts vs ds ps → DataW.TrodAll enc P W' 0 sp true ts vs ds ps
  | [], vs, ds, ps, _, _, _, h => by
    obtain ⟨rfl, rfl, rfl⟩ := trodAll_nil h
    exact trodAll_mk0
  | t :: ts, vs, ds, ps, ht, hlt, hsp, h => by
    obtain ⟨v, vs', d, ds', p, q, rfl, rfl, rfl, h0, hr⟩ := trodAll_cons h
    have h1 := ht t (List.mem_cons_self ..)
    exact trodAll_cons_mk (WideElems.Trod_stays hl h1.1 h1.2 h0 (fun x hx => hb.same (hlt x (List.mem_append_left _ hx))) (fun x hx => hsp x (List.mem_append_left _ hx)))
      (args_stay hl hb sp ts vs' ds' q (fun t' h' => ht t' (List.mem_cons_of_mem _ h')) (fun x hx => hlt x (List.mem_append_right _ hx)) (fun x hx => hsp x (List.mem_append_right _ hx)) hr)

set_option maxRecDepth 100000 in
/-- A law's statement, out of its walk. -/
theorem law_post {f : Func} {s : ChangeSpec} {tb : TypeId} {apart fresh handsOn again : Bool} {W W' : World} {args : Array Value} {ds gs : List (DataW H)} {before : List MemPlace}
    (hl : laidOutB P = true) (hts : ∀ t ∈ f.params.toList, P.readableRec t = true ∧ t < P.types.size) (htb : P.underlying tb = some .bool) (hrt : f.resultTypes = #[tb]) (hvs : s.vars = [])
    (hfn : s.fn H (ds ++ gs) = { results := [.lit (.bool true)], args := ds })
    (hW : DataW.Whole enc P f.params.toList s.vars apart W args.toList ds gs before) (hb : Below W.heap.size W W') :
    s.post enc P f apart fresh handsOn again W args (.bool true) W' := by
  have hW0 := hW
  have hold : ∀ p ∈ before, p.block < W.heap.size := fun p hp => hW.lt p hp
  obtain ⟨pa, pv, hA, hV, hps, hz, hn⟩ := hW
  rw [hvs] at hV
  obtain ⟨rfl, rfl⟩ := trodVars_none hV
  rw [List.append_nil] at hps
  subst hps
  have hA' : ∀ sp : Nat → Bool, (∀ p ∈ before, sp p.block = true) → DataW.TrodAll enc P W' 0 sp true f.params.toList args.toList ds before := fun sp hsp => args_stay hl hb sp _ _ _ _ hts hold hsp hA
  have hlist : (Value.bool true).resultList f.resultTypes.size = [.bool true] := by rw [hrt]; rfl
  have hR : ∀ (b : Nat) (sp : Nat → Bool) (hd : Bool), DataW.TrodAll enc P W' b sp hd f.resultTypes.toList ((Value.bool true).resultList f.resultTypes.size) [.lit (.bool true)] [] := fun b sp hd => by
    rw [hlist, hrt]; exact trodAll_mk1 (shut_bool htb true)
  have hlts : ∀ p ∈ before, (fun b => decide (b < W.heap.size)) p.block = true := fun p hp => by simpa using hold p hp
  refine ⟨ds, [], before, [], before, [], hW0, ?_, ?_, ?_, World.keptBut_mono (fun p hp => ⟨hp, .inr (.inl hp)⟩) (hb.frame (· ∈ before)), fun _ => ⟨?_, [.lit (.bool true)] ++ ds, [], before, ⟨before, [], ?_, ?_, by simp, ?_, ?_⟩, fun p hp _ => hp⟩⟩
  · rw [hfn]; exact hR _ _ _
  · rw [hfn]; exact hA' _ hlts
  · rw [hfn, hvs]; exact rfl
  · exact ok_one hrt rfl (okWide_bool_mk htb true)
  · have := trodAll_append (hA' (fun _ => true) (fun _ _ => rfl)) (hR 0 (fun _ => true) true)
    simpa using this
  · rw [hvs]; exact rfl
  · intro b off hp
    rw [hb.frozen (hold _ hp)]
    exact hz b off hp
  · exact hn
end


set_option maxRecDepth 100000 in
/-- An argument of type []byte. -/
theorem open_bytes {H : Type} {enc : TypeId × Value → H} {W : World} {b0 : Nat} {sp : Nat → Bool} {held : Bool} {v : Value} {d : DataW H} {ps : List MemPlace} (hv : Value.okWide Tryd.prog W .any b0 22 v) (h : DataW.Trod enc Tryd.prog W 0 sp held 22 v d ps) :
    ∃ (pa : Option Addr) (raw : List UInt8) (cap : Nat), v = .slice pa raw.length cap ∧ raw.length ≤ cap ∧ BytesAt W pa raw := by
  obtain ⟨fuel, hf⟩ := h
  obtain ⟨a0, len0, cap0, rfl⟩ := okWide_slice Tryd.underlying22 hv
  have hvc : (Value.slice a0 len0 cap0).cells.toList = [.slice a0 len0 cap0] := rfl
  rw [hvc] at hf
  rcases Deep.open_slice1 Tryd.underlying22 cellsByte hf with ⟨h0, _⟩ | ⟨a, len, cap, m, n, V, D, Pl, h0, _, hlc, _, hm, _, hx⟩
  · simp only [List.cons.injEq, and_true] at h0
    rw [h0]
    exact ⟨none, [], 0, rfl, Nat.le_refl _, fun i hi => by simp at hi⟩
  · simp only [List.cons.injEq, and_true] at h0
    rw [h0]
    have hle : len ≤ m := by rw [hm]; split <;> omega
    have he : ∀ i, i < len → ∃ c : UInt8, W.cell? (a.add i) = some (.int .u8 c.toNat) := by
      intro i hi
      obtain ⟨h1, h2⟩ := hx i (by omega)
      obtain ⟨q, hq, _, wq⟩ := DataW.trod_int Tryd.underlying5 h2
      simp only [List.cons.injEq, and_true] at hq
      simp only [Lit.wf, Bool.and_eq_true, decide_eq_true_eq] at wq
      have w1 : 0 ≤ q := wq.1
      have w2 : q ≤ 255 := wq.2
      refine ⟨UInt8.ofNat q.toNat, ?_⟩
      rw [h1, hq, byte_of_nat _ (by omega), show (q.toNat : Int) = q from by omega]
    obtain ⟨raw, hl, hp⟩ := list_of_lt len he
    refine ⟨some a, raw, cap, by rw [hl], by omega, fun i hi => ⟨a, rfl, hp i raw[i] (List.getElem?_eq_getElem hi)⟩⟩

set_option maxRecDepth 100000 in
/-- An argument of type []byte, and how it reads. -/
theorem open_bytes_d {H : Type} {enc : TypeId × Value → H} {W : World} {b0 : Nat} {sp : Nat → Bool} {held : Bool} {v : Value} {d : DataW H} {ps : List MemPlace} (hv : Value.okWide Tryd.prog W .any b0 22 v) (h : DataW.Trod enc Tryd.prog W 0 sp held 22 v d ps) :
    ∃ (pa : Option Addr) (raw : List UInt8) (cap : Nat), v = .slice pa raw.length cap ∧ raw.length ≤ cap ∧ BytesAt W pa raw ∧ (raw = [] ∨ ∃ elems spare, d = .slice elems spare ∧ elems.length = raw.length) := by
  obtain ⟨fuel, hf⟩ := h
  obtain ⟨a0, len0, cap0, rfl⟩ := okWide_slice Tryd.underlying22 hv
  have hvc : (Value.slice a0 len0 cap0).cells.toList = [.slice a0 len0 cap0] := rfl
  rw [hvc] at hf
  rcases Deep.open_slice1 Tryd.underlying22 cellsByte hf with ⟨h0, _⟩ | ⟨a, len, cap, m, n, V, D, Pl, h0, _, hlc, _, hm, hd0, hx⟩
  · simp only [List.cons.injEq, and_true] at h0
    rw [h0]
    exact ⟨none, [], 0, rfl, Nat.le_refl _, fun i hi => by (simp at hi), .inl rfl⟩
  · simp only [List.cons.injEq, and_true] at h0
    rw [h0]
    have hle : len ≤ m := by rw [hm]; split <;> omega
    have he : ∀ i, i < len → ∃ c : UInt8, W.cell? (a.add i) = some (.int .u8 c.toNat) := by
      intro i hi
      obtain ⟨h1, h2⟩ := hx i (by omega)
      obtain ⟨q, hq, _, wq⟩ := DataW.trod_int Tryd.underlying5 h2
      simp only [List.cons.injEq, and_true] at hq
      simp only [Lit.wf, Bool.and_eq_true, decide_eq_true_eq] at wq
      have w1 : 0 ≤ q := wq.1
      have w2 : q ≤ 255 := wq.2
      refine ⟨UInt8.ofNat q.toNat, ?_⟩
      rw [h1, hq, byte_of_nat _ (by omega), show (q.toNat : Int) = q from by omega]
    obtain ⟨raw, hl, hp⟩ := list_of_lt len he
    refine ⟨some a, raw, cap, by rw [hl], by omega, fun i hi => ⟨a, rfl, hp i raw[i] (List.getElem?_eq_getElem hi)⟩, .inr ⟨_, _, (congrArg Prod.fst hd0 : _), by rw [hl]; simp⟩⟩

set_option maxRecDepth 100000 in
/-- How long an argument of type []byte can be. -/
theorem bytes_sized {H : Type} {ts : List TypeId} {ds : List (DataW H)} (h : (DataW.weightsEach Tryd.prog ts ds).all (· ≤ reachBytes) = true) {j : Nat} {raw : List UInt8} {d : DataW H} (ht : ts[j]? = some 22) (hd : ds[j]? = some d)
    (hr : raw = [] ∨ ∃ elems spare, d = .slice elems spare ∧ elems.length = raw.length) : raw.length ≤ 140737488351232 := by
  rcases hr with rfl | ⟨elems, spare, rfl, hl⟩
  · exact Nat.zero_le _
  · have h1 := sized_slice h ht hd Tryd.underlying22
    have h2 : Tryd.prog.bytesOf 5 = 1 := by kernel_rfl
    rw [h2, hl] at h1
    have h3 : reachBytes = 140737488351232 := rfl
    omega
set_option maxRecDepth 100000 in
theorem string_sized {H : Type} {ts : List TypeId} {ds : List (DataW H)} (h : (DataW.weightsEach Tryd.prog ts ds).all (· ≤ reachBytes) = true) {j : Nat} {t : TypeId} {s : ByteArray} (ht : ts[j]? = some t) (hd : ds[j]? = some (.lit (.string s.data.toList))) : s.size ≤ 140737488351232 := by
  have h1 := sized_string h ht hd
  have h3 : reachBytes = 140737488351232 := rfl
  rw [Array.length_toList] at h1
  have h4 : s.data.size = s.size := rfl
  omega

set_option maxRecDepth 100000 in
theorem int_bounds {n : Int} (h : (Lit.int .i64 n).wf = true) : -9223372036854775808 ≤ n ∧ n ≤ 9223372036854775807 := by
  simp only [Lit.wf, Bool.and_eq_true, decide_eq_true_eq] at h; exact h
set_option maxRecDepth 100000 in
theorem int_bounds8 {n : Int} (h : (Lit.int .u8 n).wf = true) : 0 ≤ n ∧ n ≤ 255 := by
  simp only [Lit.wf, Bool.and_eq_true, decide_eq_true_eq] at h; exact h

end Go.Proofs.YthamligdmfhmeaaDoor
