/- An argument of type api.Value, read as data, is a tree of values. -/
import Derived.Test.YtmhchpdogjbpmaaRep
import Derived.ChangeArms
import Derived.SizedLaws
import Derived.Deep.Slices
import Derived.Lib.SmallJoins
namespace Go.Proofs.Ytmhchpdogjbpmaa
open Go.ChangeShapes Go.WideShapes Go.ChangeAt Go.RowKit

theorem list_of_lt {α : Type} {p : Nat → α → Prop} : ∀ n, (∀ i, i < n → ∃ x, p i x) → ∃ l : List α, l.length = n ∧ ∀ (i : Nat) (x : α), l[i]? = some x → p i x
  | 0, _ => ⟨[], rfl, fun i x h => by simp at h⟩
  | n + 1, h => by
    obtain ⟨l, hl, hp⟩ := list_of_lt n (fun i hi => h i (by omega))
    obtain ⟨x, hx⟩ := h n (by omega)
    refine ⟨l ++ [x], by simp [hl], fun i y hy => ?_⟩
    rcases Nat.lt_or_ge i l.length with hi | hi
    · rw [List.getElem?_append_left hi] at hy; exact hp i y hy
    · have hi2 : i = l.length := by
        have := (List.getElem?_eq_some_iff.1 hy).1; simp at this; omega
      subst hi2
      simp at hy; subst hy; rw [hl]; exact hx

theorem Try.bytesValue : Try.prog.bytesOf 24 = 56 := by kernel_rfl
theorem Try.cellsValue : Try.prog.cellsOf 24 = 4 := by kernel_rfl
theorem Try.cellsInt : Try.prog.cellsOf 3 = 1 := by kernel_rfl
theorem Try.cellsString : Try.prog.cellsOf 9 = 1 := by kernel_rfl
theorem Try.cellsValues : Try.prog.cellsOf 22 = 1 := by kernel_rfl

theorem i64_of_wf {n : Int} (h : (Lit.int .i64 n).wf = true) : -9223372036854775808 ≤ n ∧ n ≤ 9223372036854775807 := by
  simp only [Lit.wf, Bool.and_eq_true, decide_eq_true_eq] at h; exact h

section
variable {H : Type} {enc : TypeId × Value → H} {W : World} {sp : Nat → Bool} {held : Bool}

/-- The cells of four that were read. -/
theorem cells4_read {a : Addr} {cs : List Value} (h : W.cells? 0 a 4 = some cs) : ∃ c0 c1 c2 c3 b off, a = ⟨b, off, none⟩ ∧ cs = [c0, c1, c2, c3] ∧ W.cell? ⟨b, off, none⟩ = some c0 ∧ W.cell? ⟨b, off + 1, none⟩ = some c1 ∧ W.cell? ⟨b, off + 2, none⟩ = some c2 ∧ W.cell? ⟨b, off + 3, none⟩ = some c3 := by
  obtain ⟨_, hl, hc⟩ := World.cells?_some h
  match cs, hl with
  | [c0, c1, c2, c3], _ =>
    have h0 := hc 0 (by omega); have h1 := hc 1 (by omega); have h2 := hc 2 (by omega); have h3 := hc 3 (by omega)
    simp at h0 h1 h2 h3
    obtain ⟨b, off, spot⟩ := a
    have hs : spot = none := by
      cases spot with
      | none => rfl
      | some s => simp only [World.cell?, Addr.add] at h0; split at h0 <;> simp at h0
    subst hs
    exact ⟨c0, c1, c2, c3, b, off, rfl, rfl, by simpa [Addr.add] using h0, by simpa [Addr.add] using h1, by simpa [Addr.add] using h2, by simpa [Addr.add] using h3⟩

theorem all_append {p : Nat → Bool} {l m : List Nat} (h : (l ++ m).all p = true) : l.all p = true ∧ m.all p = true := by rw [List.all_append, Bool.and_eq_true] at h; exact h

theorem weights_at {P : Program} {e : TypeId} {b : Nat → Bool} : ∀ (l : List (DataW H)) (i : Nat) (d : DataW H), l[i]? = some d → (DataW.weightsAll P e l).all b = true → (d.weights P e).all b = true
  | [], i, d, h, _ => by simp at h
  | x :: l, 0, d, h, hw => by
    simp at h; subst h
    rw [DataW.weightsAll] at hw; exact (all_append hw).1
  | x :: l, i + 1, d, h, hw => by
    rw [DataW.weightsAll] at hw
    exact weights_at l i d (by simpa using h) (all_append hw).2

theorem open_rep : ∀ (fuel : Nat) (cs : List Value) (d : DataW H) (ps : List MemPlace), DataW.trod enc Try.prog W 0 sp held fuel 24 cs = some (d, ps) → (d.weights Try.prog 24).all (fun x => decide (x ≤ reachBytes)) = true →
    ∃ t : M.T fuel, Rep W.heap.size W fuel t (.agg cs.toArray)
  | 0, cs, d, ps, h, _ => by simp [DataW.trod] at h
  | fuel + 1, cs, d, ps, h, hw => by
    obtain ⟨xs, n, hn, hx, hl, hlen, hf⟩ := DataW.trod_struct Try.underlying24 h
    obtain rfl : n = fuel := by omega
    rw [Try.cellsValue] at hl
    simp only [Prod.mk.injEq] at hx
    obtain ⟨rfl, _⟩ := hx
    match cs, hl, xs, hlen with
    | [c0, c1, c2, c3], _, [y0, y1, y2, y3], _ =>
      have f0 : DataW.trod enc Try.prog W 0 sp held n 3 [c0] = some y0 := by simpa [Try.cellsInt] using hf 0 _ rfl
      have f1 : DataW.trod enc Try.prog W 0 sp held n 3 [c1] = some y1 := by simpa [Try.cellsInt] using hf 1 _ rfl
      have f2 : DataW.trod enc Try.prog W 0 sp held n 9 [c2] = some y2 := by simpa [Try.cellsString] using hf 2 _ rfl
      have f3 : DataW.trod enc Try.prog W 0 sp held n 22 [c3] = some y3 := by simpa [Try.cellsValues] using hf 3 _ rfl
      clear hf
      obtain ⟨k, hk, hy0, wk⟩ := DataW.trod_int Try.underlying3 f0
      obtain ⟨m, hm, hy1, wm⟩ := DataW.trod_int Try.underlying3 f1
      obtain ⟨s, hs, hy2, _⟩ := DataW.trod_string Try.underlying9 f2
      simp only [List.cons.injEq, and_true] at hk hm hs
      subst hk hm hs hy0 hy1 hy2
      have hws : s.size ≤ reachBytes ∧ (y3.1.weights Try.prog 22).all (fun x => decide (x ≤ reachBytes)) = true := by
        simp only [DataW.weights, Try.underlying24, List.map_cons, List.map_nil, DataW.weightsEach, List.nil_append, List.append_nil] at hw
        rw [List.cons_append, List.all_cons, Bool.and_eq_true, List.nil_append] at hw
        exact ⟨by simpa using hw.1, hw.2⟩
      have hss : s.size ≤ 140737488351232 := hws.1
      rcases DataW.trod_slice Try.underlying22 f3 with ⟨h0, _⟩ | ⟨a, len, cap, elems, rest, n', hn', h0, hy3, _, hlc, hcm, hel, hat, _⟩
      · simp only [List.cons.injEq, and_true] at h0
        subst h0
        exact ⟨(k, m, s, []), i64_of_wf wk, i64_of_wf wm, hss, Nat.zero_le _, none, 0, rfl, .inl rfl⟩
      · simp only [List.cons.injEq, and_true] at h0
        subst h0
        have hw3 := hws.2
        rw [hy3] at hw3
        simp only [DataW.weights, Try.underlying22, List.all_cons, Bool.and_eq_true, Try.bytesValue, List.length_map, decide_eq_true_eq] at hw3
        have hln : len ≤ 70368744177664 := by have := hw3.1; unfold reachBytes at this; omega
        have hwe := (all_append hw3.2).1
        rcases Nat.eq_zero_or_pos len with h0 | h0
        · subst h0
          exact ⟨(k, m, s, []), i64_of_wf wk, i64_of_wf wm, hss, Nat.zero_le _, some a, cap, rfl, .inl rfl⟩
        have ha : ∃ b off, a = ⟨b, off, none⟩ := by
          have h1 := hat 0 h0
          rw [Try.cellsValue, List.getElem?_eq_getElem (by omega)] at h1
          obtain ⟨cs', h2, _⟩ := Option.bind_eq_some_iff.1 h1
          obtain ⟨_, _, _, _, b, off, hab, _⟩ := cells4_read h2
          exact ⟨b, off, by simpa [Addr.add] using hab⟩
        obtain ⟨b, off, rfl⟩ := ha
        have he : ∀ i, i < len → ∃ x : M.T n, ∃ c0 c1 c2 c3, W.cell? ⟨b, off + i * 4, none⟩ = some c0 ∧ W.cell? ⟨b, off + i * 4 + 1, none⟩ = some c1 ∧ W.cell? ⟨b, off + i * 4 + 2, none⟩ = some c2 ∧ W.cell? ⟨b, off + i * 4 + 3, none⟩ = some c3 ∧ Rep W.heap.size W n x (.agg #[c0, c1, c2, c3]) := by
          intro i hi
          have h1 := hat i hi
          rw [Try.cellsValue, List.getElem?_eq_getElem (by omega)] at h1
          obtain ⟨cs', h2, h3⟩ := Option.bind_eq_some_iff.1 h1
          have hai : (⟨b, off, none⟩ : Addr).add (i * 4) = ⟨b, off + i * 4, none⟩ := by unfold Addr.add; split <;> simp_all
          rw [hai] at h2
          obtain ⟨c0, c1, c2, c3, b', off', hab, rfl, e0, e1, e2, e3⟩ := cells4_read h2
          simp only [Addr.mk.injEq, and_true] at hab
          obtain ⟨rfl, rfl⟩ := hab
          obtain ⟨x, hx⟩ := open_rep n _ elems[i].1 elems[i].2 (DataW.trod_le (by omega) h3) (weights_at (elems.map (·.1)) i _ (by simp [hel, hi]) hwe)
          exact ⟨x, c0, c1, c2, c3, e0, e1, e2, e3, hx⟩
        obtain ⟨l, hll, hlp⟩ := list_of_lt len he
        have hlt : b < W.heap.size := by
          obtain ⟨_, _, _, _, _, e0, _⟩ := he 0 h0
          exact block_lt_of_cell e0
        refine ⟨(k, m, s, l), i64_of_wf wk, i64_of_wf wm, hss, by rw [hll]; exact hln, some ⟨b, off, none⟩, cap, by rw [hll], .inr ⟨b, off, rfl, hlt, fun i x hx => ?_⟩⟩
        obtain ⟨c0, c1, c2, c3, e0, e1, e2, e3, hr⟩ := hlp i x hx
        exact ⟨c0, c1, c2, c3, e0, e1, e2, e3, hr⟩

/-- An argument of type api.Value, at every depth that is great enough. -/
theorem open_value {b0 : Nat} {v : Value} {d : DataW H} {ps : List MemPlace} (hv : Value.okWide Try.prog W .any b0 24 v) (h : DataW.Trod enc Try.prog W 0 sp held 24 v d ps) (hw : (d.weights Try.prog 24).all (fun x => decide (x ≤ reachBytes)) = true) :
    ∃ N : Nat, ∀ n, N ≤ n → ∃ t : M.T n, Rep W.heap.size W n t v := by
  obtain ⟨cs, rfl, _⟩ := okWide_struct Try.underlying24 hv
  obtain ⟨fuel, hf⟩ := h
  refine ⟨fuel, fun n hn => ?_⟩
  obtain ⟨t, ht⟩ := open_rep n _ d ps (DataW.trod_le hn hf) hw
  exact ⟨t, by simpa [Value.cells] using ht⟩
end

end Go.Proofs.Ytmhchpdogjbpmaa
