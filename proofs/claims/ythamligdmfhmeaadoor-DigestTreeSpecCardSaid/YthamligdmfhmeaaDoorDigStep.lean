/- Appends of digests at a step of a region that draws its order, beside a box of the region's own. -/
import Derived.Test.YthamligdmfhmeaaDoorSibs
namespace Go.Proofs.YthamligdmfhmeaaDoor
open Go.RowKit

theorem below_new (w : World) (o : Obj) : Below w.heap.size w (w.alloc o) := (Below.refl _ _).alloc (Nat.le_refl _) _
theorem z_at (V : World) (k : Nat) (h : k = V.heap.size) : Dig (V.alloc (.cells #[.int .u8 0, .int .u8 0, .int .u8 0, .int .u8 0, .int .u8 0, .int .u8 0, .int .u8 0, .int .u8 0, .int .u8 0, .int .u8 0, .int .u8 0, .int .u8 0, .int .u8 0, .int .u8 0, .int .u8 0, .int .u8 0, .int .u8 0, .int .u8 0, .int .u8 0, .int .u8 0, .int .u8 0, .int .u8 0, .int .u8 0, .int .u8 0, .int .u8 0, .int .u8 0, .int .u8 0, .int .u8 0, .int .u8 0, .int .u8 0, .int .u8 0, .int .u8 0] 24)) k zero32 := h ▸ Dig.new V zero32_len
theorem d_at (V : World) (k : Nat) {d : List UInt8} (hd : d.length = 32) (h : k = V.heap.size) : Dig (V.alloc (.cells (byts d) 24)) k d := h ▸ Dig.new V hd
theorem d_at' (V : World) (k : Nat) {d : List UInt8} {cd : List Value} (hd : d.length = 32) (hc : byts d = cd.toArray) (h : k = V.heap.size) : Dig (V.alloc (.cells cd.toArray 24)) k d := hc ▸ d_at V k hd h
theorem e_at (V : World) (k : Nat) (h : k = V.heap.size) : (V.alloc (.cells #[] 24 (0, 0))).heap[k]? = some (.cells #[] 24 (0, 0)) := h ▸ heap_alloc_new V _
theorem e_lift {V : World} {k : Nat} {o : Obj} (h : V.heap[k]? = some o) (o' : Obj) : (V.alloc o').heap[k]? = some o := (Below.heap_alloc _ _ _ (Array.getElem?_eq_some_iff.1 h).1).trans h
theorem own_lt {w : World} {base n k : Nat} {v : Value} {xs : List Value} (h : w.ownsRow base 24 32 v n xs) (hk : v.ownBlock = some k) : k < w.heap.size := by
  rcases h.2 with ⟨hu, _⟩ | ⟨g, c1, cur, hu, _, hgb, _⟩
  · rw [hu] at hk; simp [Value.ownBlock] at hk
  · rw [hu] at hk
    obtain rfl : g = k := by simpa [Value.ownBlock] using hk
    exact (Array.getElem?_eq_some_iff.1 hgb).1

theorem run_digs2 {w : World} (base : Nat) (v : Value) (n : Nat) (ds : List (List UInt8)) (hown : w.ownsRow base 24 32 v n (bytes ds.flatten)) (A : Option Addr) (m c : Nat) (es : List (List UInt8))
    (hm : es.length = m) (hy : DigsAt w A es) (hn : n + m ≤ 2199023255552) (hb : base ≤ w.heap.size) (ty : TypeId) :
    ∃ v' w', (Builtin.append_ #[26, 26] ty #[v, .slice A m c]).run Tryd.prog w = .ok v' w' ∧ w'.ownsRow base 24 32 v' (n + m) (bytes (ds ++ es).flatten) ∧ Below base w w' ∧
      (∀ k, k < w.heap.size → v.ownBlock ≠ some k → w'.heap[k]? = w.heap[k]?) ∧ (v'.ownBlock = v.ownBlock ∨ v'.ownBlock = some w.heap.size) ∧ w.heap.size ≤ w'.heap.size := by
  obtain ⟨i0, hi, hz0, hz1, hz2⟩ := info_parts infoDig
  have hfl := H.flat_len hy.1
  cases A with
  | none =>
    have hy0 : es = [] := by
      rcases Nat.eq_zero_or_pos es.length with h0 | h0
      · exact List.length_eq_zero_iff.1 h0
      · obtain ⟨ad, ha, _⟩ := hy.2 0 (by rw [hfl]; omega); simp at ha
    subst hy0
    obtain rfl : m = 0 := by simpa using hm.symm
    refine ⟨v, w, ?_, by simpa using hown, Below.refl _ _, fun _ _ _ => rfl, .inl rfl, Nat.le_refl _⟩
    rcases hown.2 with ⟨rfl, rfl⟩ | ⟨g, cap, cur, rfl, _, _, hnc, _⟩
    · simp [Builtin.append_, run_underlying Tryd.underlying26, sizeOf, typeInfo, hi, Builtin.lenOf, Builtin.firstCells]
    · simp [Builtin.append_, run_underlying Tryd.underlying26, sizeOf, typeInfo, hi, Builtin.lenOf, Builtin.firstCells, hnc, storeCells]
  | some ad =>
    obtain ⟨v', w', hr, h2, h3, _, h5⟩ := run_append_own_at (P := Tryd.prog) (w := w) base 26 ty 24 i0 _ 32 32 Tryd.underlying26 hi hz0 hz1 hz2 (by rfl) (by decide) v n (bytes ds.flatten) hown ad m c (bytes es.flatten) (by rw [bytes_len, hfl, hm, Nat.mul_comm]) (fun j u hj => by
      have hjl : j < es.flatten.length := by have := (List.getElem?_eq_some_iff.1 hj).1; rwa [bytes_len] at this
      obtain ⟨ad', ha, hc⟩ := hy.2 j hjl
      simp only [Option.some.injEq] at ha
      subst ha
      rw [hc]
      rw [bytes, List.getElem?_map, List.getElem?_eq_getElem hjl] at hj
      rw [← hj]; rfl) (bytes_cells _) (by unfold maxLen; omega) (by omega) hb
    refine ⟨v', w', hr, by rw [List.flatten_append, bytes_append]; exact h2, ⟨h3.os, h3.tape, h3.output, h3.size, fun k hk => h3.block k (by omega) fun hv => ?_⟩, fun k hk hne => h3.block k hk (fun e => hne e.symm), h5, h3.size⟩
    rcases hown.2 with ⟨hu, _⟩ | ⟨g, c1, cur, hu, hgb, _⟩
    · rw [hu] at hv; simp [Value.ownBlock] at hv
    · rw [hu] at hv; simp [Value.ownBlock] at hv; omega

set_option maxRecDepth 100000 in
/-- The first append onto '[]Digest{}'. -/
theorem step_first {ops : Array Oper} {o : Oper} {a : Act} {K : Act → World → Prop} {Q : Exit → Act → World → Prop} {E : Prop} {w : World} (t : Option Tmp) (hdst : o.dst = t) (hgd : o.guard = none) (s x : Operand)
    (ho : o.op = .call { callee := .builtin .append, args := #[s, x], argTypes := #[26, 26] })
    (base gA : Nat) (hs : a.eval s = .slice (some ⟨gA, 0, none⟩) 0 0) (hA : w.heap[gA]? = some (.cells #[] 24 (0, 0))) (hbA : base ≤ gA) (A : Option Addr) (m c : Nat) (es : List (List UInt8))
    (hx : a.eval x = .slice A m c) (hm : es.length = m) (hy : DigsAt w A es) (hn : m ≤ 1099511627776) (hb : base ≤ w.heap.size)
    (h : ∀ A' c' w', w'.ownsRow base 24 32 (.slice A' m c') m (bytes es.flatten) → Below base w w' → (∀ B e, Dig w B e → Dig w' B e ∧ (Value.slice A' m c').ownBlock ≠ some B) → K (a.put t (.slice A' m c')) w') :
    if Region.wanted o (yielded ops a.tmps) = true then Oper.wp Tryd.prog o a w K Q else E := by
  subst hdst
  have hown : w.ownsRow base 24 32 (.slice (some ⟨gA, 0, none⟩) 0 0) 0 (bytes ([] : List (List UInt8)).flatten) := ⟨rfl, .inr ⟨gA, 0, #[], rfl, hbA, hA, Nat.le_refl _, by decide, rfl, rfl⟩⟩
  obtain ⟨v', w', hr, h2, h3, h4, h5, _⟩ := run_digs2 base _ 0 [] hown A m c es hm hy (by omega) hb o.type
  rw [Nat.zero_add, List.nil_append] at h2
  have hw : Region.wanted o (yielded ops a.tmps) = true := by simp [Region.wanted, hgd]
  rw [if_pos hw]
  obtain ⟨A', c', rfl, _, _⟩ := owns_digs h2 hy.1
  unfold Oper.wp execOp
  simp only [ho, resolve, invoke, builtin, Sem.run_bind, Sem.run_pure, Result.andThen_ok, List.map_toArray, List.map_cons, List.map_nil, hs, hx, hr]
  refine h A' c' w' h2 h3 fun B e hB => ?_
  have hne : B ≠ gA := by
    rintro rfl
    have h6 := hB.1
    rw [hA] at h6
    have h7 : (#[] : Array Value) = byts e := by injection h6 with h6; injection h6
    have h8 : (byts e).size = 32 := by rw [byts_size, hB.2]
    rw [← h7] at h8
    simp at h8
  refine ⟨⟨(h4 B hB.lt (fun e => hne (by simpa [Value.ownBlock] using e.symm))).trans hB.1, hB.2⟩, ?_⟩
  rcases h5 with h5 | h5
  · rw [h5]; intro e; exact hne (by simpa [Value.ownBlock] using e.symm)
  · rw [h5]; intro e
    have := hB.lt
    have e' : w.heap.size = B := by simpa using e
    omega

set_option maxRecDepth 100000 in
/-- An append of one element. -/
theorem step_more {ops : Array Oper} {o : Oper} {a : Act} {K : Act → World → Prop} {Q : Exit → Act → World → Prop} {E : Prop} {w : World} (t : Option Tmp) (hdst : o.dst = t) (hgd : o.guard = none) (s x : Operand)
    (ho : o.op = .call { callee := .builtin .append, args := #[s, x], argTypes := #[26, 26] })
    (base : Nat) (A1 : Option Addr) (n c1 : Nat) (ds : List (List UInt8)) (hs : a.eval s = .slice A1 n c1) (hown : w.ownsRow base 24 32 (.slice A1 n c1) n (bytes ds.flatten)) (hd : ∀ d ∈ ds, d.length = 32) (gC : Nat) (d : List UInt8)
    (hx : a.eval x = .slice (some ⟨gC, 0, none⟩) 1 1) (hC : Dig w gC d) (hn : n ≤ 1099511627776) (hb : base ≤ w.heap.size)
    (h : ∀ A' c' w', w'.ownsRow base 24 32 (.slice A' (n + 1) c') (n + 1) (bytes (ds ++ [d]).flatten) → Below base w w' → (∀ B e, Dig w B e → (Value.slice A1 n c1).ownBlock ≠ some B → Dig w' B e) → K (a.put t (.slice A' (n + 1) c')) w') :
    if Region.wanted o (yielded ops a.tmps) = true then Oper.wp Tryd.prog o a w K Q else E := by
  subst hdst
  have hy : DigsAt w (some ⟨gC, 0, none⟩) [d] := ⟨fun e he => by rw [List.mem_singleton.1 he]; exact hC.2, by simpa using hC.bytes⟩
  obtain ⟨v', w', hr, h2, h3, h4, h5, _⟩ := run_digs2 base _ n ds hown (some ⟨gC, 0, none⟩) 1 1 [d] rfl hy (by omega) hb o.type
  have hw : Region.wanted o (yielded ops a.tmps) = true := by simp [Region.wanted, hgd]
  rw [if_pos hw]
  obtain ⟨A', c', rfl, _, _⟩ := owns_digs h2 (fun e he => by
    rcases List.mem_append.1 he with he | he
    · exact hd e he
    · exact hy.1 e he)
  unfold Oper.wp execOp
  simp only [ho, resolve, invoke, builtin, Sem.run_bind, Sem.run_pure, Result.andThen_ok, List.map_toArray, List.map_cons, List.map_nil, hs, hx, hr]
  exact h A' c' w' h2 h3 fun B e hB hne => ⟨(h4 B hB.lt hne).trans hB.1, hB.2⟩

/-- '[]Digest{}'. -/
theorem step_empty {ops : Array Oper} {o : Oper} {a : Act} {K : Act → World → Prop} {Q : Exit → Act → World → Prop} {E : Prop} {w : World} (t : Option Tmp) (hdst : o.dst = t) (hgd : o.guard = none)
    (ho : o.op = .buildSlice 26 0 #[])
    (h : ∀ gA w', w.heap.size ≤ gA → Below w.heap.size w w' → w'.heap[gA]? = some (.cells #[] 24 (0, 0)) → K (a.put t (.slice (some ⟨gA, 0, none⟩) 0 0)) w') :
    if Region.wanted o (yielded ops a.tmps) = true then Oper.wp Tryd.prog o a w K Q else E := by
  subst hdst
  have hw : Region.wanted o (yielded ops a.tmps) = true := by simp [Region.wanted, hgd]
  rw [if_pos hw]
  have hr : (Instr.buildSlice 26 0 #[]).run Tryd.prog w = .ok (.slice (some ⟨w.heap.size, 0, none⟩) 0 0) (w.alloc (.cells #[] 24)) := by kernel_rfl
  unfold Oper.wp execOp
  simp only [ho, List.map_toArray, List.map_nil, hr, Sem.run_bind, Result.andThen_ok, Sem.run_pure]
  exact h _ _ (Nat.le_refl _) (below_new _ _) (heap_alloc_new w _)
/-- '[]Digest{d}'. -/
theorem step_single {ops : Array Oper} {o : Oper} {a : Act} {K : Act → World → Prop} {Q : Exit → Act → World → Prop} {E : Prop} {w : World} (t : Option Tmp) (hdst : o.dst = t) (hgd : o.guard = none) (x : Operand)
    (ho : o.op = .buildSlice 26 1 #[(0, x)]) (d : List UInt8) (hd : d.length = 32) (hx : a.eval x = .agg (bytes d).toArray)
    (h : ∀ gC w', w.heap.size ≤ gC → Below w.heap.size w w' → Dig w' gC d → K (a.put t (.slice (some ⟨gC, 0, none⟩) 1 1)) w') :
    if Region.wanted o (yielded ops a.tmps) = true then Oper.wp Tryd.prog o a w K Q else E := by
  subst hdst
  have hw : Region.wanted o (yielded ops a.tmps) = true := by simp [Region.wanted, hgd]
  rw [if_pos hw]
  unfold Oper.wp execOp
  rw [bytes_toArray] at hx
  simp only [ho, List.map_toArray, List.map_cons, List.map_nil, hx, run_one hd, Sem.run_bind, Result.andThen_ok, Sem.run_pure]
  exact h _ _ (Nat.le_refl _) (below_new _ _) (Dig.new w hd)
/-- A box for a digest. -/
theorem step_box {ops : Array Oper} {o : Oper} {a : Act} {K : Act → World → Prop} {Q : Exit → Act → World → Prop} {E : Prop} {w : World} (t : Option Tmp) (hdst : o.dst = t) (hgd : o.guard = none)
    (ho : o.op = .alloc 24)
    (h : ∀ gF w', w.heap.size ≤ gF → Below w.heap.size w w' → Dig w' gF zero32 → K (a.put t (.pointer (some ⟨gF, 0, none⟩))) w') :
    if Region.wanted o (yielded ops a.tmps) = true then Oper.wp Tryd.prog o a w K Q else E := by
  subst hdst
  have hw : Region.wanted o (yielded ops a.tmps) = true := by simp [Region.wanted, hgd]
  rw [if_pos hw]
  have hz : ∀ w, (zeroValue 24).run Tryd.prog w = .ok (.agg (byts zero32)) w := fun _ => by kernel_rfl
  unfold Oper.wp execOp
  simp [ho, go_sem, hz]
  exact h _ _ (Nat.le_refl _) (below_new _ _) (Dig.new w zero32_len)
/-- A digest stored into a box. -/
theorem step_put {ops : Array Oper} {o : Oper} {a : Act} {K : Act → World → Prop} {Q : Exit → Act → World → Prop} {E : Prop} {w : World} (t : Option Tmp) (hdst : o.dst = t) (hgd : o.guard = none) (x y : Operand) (ho : o.op = .store 24 x y)
    (B : Nat) (d e : List UInt8) (hx : a.eval x = .pointer (some ⟨B, 0, none⟩)) (hy : a.eval y = .agg (byts e)) (hd : Dig w B d) (he : e.length = 32)
    (h : K (a.put t undef) (w.setRow B (byts e))) :
    if Region.wanted o (yielded ops a.tmps) = true then Oper.wp Tryd.prog o a w K Q else E := by
  subst hdst
  have hw : Region.wanted o (yielded ops a.tmps) = true := by simp [Region.wanted, hgd]
  rw [if_pos hw]
  have hi := byts_size32 he
  have hr := run_storeVar_row (P := Tryd.prog) w B 24 24 _ (byts e) hd.1 hi (by rw [byts_size, byts_size, hd.2, he]) (byts_one _)
  unfold Oper.wp execOp
  simp only [ho, hx, hy, Instr.storeAt, Instr.sureAddr, Sem.run_bind, Sem.run_pure, Result.andThen_ok, hr]
  simpa [go_sem] using h

theorem wpAnyH_put {ops : Array Oper} {Q : Exit → Act → World → Prop} {md : Region.Mode} {S : World → Prop} (i t : Nat) {oi : Oper} {v : Value} {fuel : Nat} {listed : Array Bool} {a : Act} {w : World} (hi : ops[i]? = some oi) (ht : oi.dst = some t)
    (hs : Region.noSelect ops = true) (hf : Region.free md ops listed i = true) (hr : (Region.ready md ops listed).contains i = true)
    (hQ : ∀ c a w, Q (.panic c) (a.put (some t) v) w → Q (.panic c) a w) (hy : YieldsIf Tryd.prog ops S oi v a) (hS : S w)
    (h : wpAnyH Tryd.prog md ops Q S fuel (listed.setIfInBounds i true) (a.put (some t) v) w) : wpAnyH Tryd.prog md ops Q S (fuel + 1) listed a w :=
  wpAnyH_take hi hs hf hr (by rw [ht]; exact hQ) hy hS (by rw [ht]; exact h)

theorem step_call {ops : Array Oper} {o : Oper} {a : Act} {K : Act → World → Prop} {Q : Exit → Act → World → Prop} {E : Prop} {w : World} (t : Option Tmp) (hdst : o.dst = t) (hgd : o.guard = none) (f : Nat) (args : Array Operand) (tys : Array TypeId)
    (ho : o.op = .call { callee := .value (.func f), args := args, argTypes := tys }) (vs : Array Value) (hv0 : args.toList.map a.eval = vs.toList) (R : Ending → World → Prop) (hen : ∀ args w, (callFunc f args).run Tryd.prog w = .ok (.enter f args) w) (hc : Calls Tryd.prog f vs w R)
    (h : ∀ e w', R e w' → ∃ v, e = .returned v ∧ K (a.put t v) w') :
    if Region.wanted o (yielded ops a.tmps) = true then Oper.wp Tryd.prog o a w K Q else E := by
  subst hdst
  have hw : Region.wanted o (yielded ops a.tmps) = true := by simp [Region.wanted, hgd]
  rw [if_pos hw]
  unfold Oper.wp execOp
  have hv : args.map a.eval = vs := by rw [← Array.toList_inj]; simpa using hv0
  simp [ho, hv, go_sem]
  rw [hen, Oper.upon_enter]
  refine hc.mono ?_
  intro e w' hR
  obtain ⟨v, rfl, hk⟩ := h e w' hR
  exact hk

end Go.Proofs.YthamligdmfhmeaaDoor
