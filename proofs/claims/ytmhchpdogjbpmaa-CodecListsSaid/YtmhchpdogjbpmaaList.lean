/- Contract of the reader's list. -/
import Derived.Test.YtmhchpdogjbpmaaValue
import Derived.Deep.RegionLaw
namespace Go.Proofs.Ytmhchpdogjbpmaa
open Go.RowKit

abbrev Quad := Value × Value × Value × Value
/-- The cells of values of four cells, one after the other. -/
def flat : List Quad → List Value
  | [] => []
  | (a, b, c, d) :: l => a :: b :: c :: d :: flat l
theorem flat_len : ∀ l : List Quad, (flat l).length = l.length * 4
  | [] => rfl
  | (a, b, c, d) :: l => by simp only [flat, List.length_cons, flat_len l]; omega
theorem flat_snoc : ∀ (l : List Quad) (a b c d : Value), flat (l ++ [(a, b, c, d)]) = flat l ++ [a, b, c, d]
  | [], _, _, _, _ => rfl
  | (x, y, z, u) :: l, a, b, c, d => by simp only [List.cons_append, flat, flat_snoc l]
theorem flat_at : ∀ (l : List Quad) (i : Nat) (a b c d : Value), l[i]? = some (a, b, c, d) → (flat l)[i * 4]? = some a ∧ (flat l)[i * 4 + 1]? = some b ∧ (flat l)[i * 4 + 2]? = some c ∧ (flat l)[i * 4 + 3]? = some d
  | [], i, _, _, _, _, h => by simp at h
  | (x, y, z, u) :: l, 0, a, b, c, d, h => by simp at h; obtain ⟨rfl, rfl, rfl, rfl⟩ := h; simp [flat]
  | (x, y, z, u) :: l, i + 1, a, b, c, d, h => by
    have := flat_at l i a b c d (by simpa using h)
    simpa [flat, Nat.add_mul, Nat.add_assoc] using this

/-- The elements that have been read. -/
def Got (P : Nat → Prop) (w : World) (d : Nat) (acc : List (M.T d)) (qs : List Quad) : Prop :=
  qs.length = acc.length ∧ ∀ (i : Nat) (x : M.T d) (q : Quad), acc[i]? = some x → qs[i]? = some q → RepP P w d x (.agg #[q.1, q.2.1, q.2.2.1, q.2.2.2])

theorem Got.snoc {P : Nat → Prop} {w : World} {d : Nat} {acc : List (M.T d)} {qs : List Quad} (h : Got P w d acc qs) {x : M.T d} {a b c e : Value} (hx : RepP P w d x (.agg #[a, b, c, e])) : Got P w d (acc ++ [x]) (qs ++ [(a, b, c, e)]) := by
  refine ⟨by simp [h.1], fun i y q hy hq => ?_⟩
  rcases Nat.lt_or_ge i acc.length with hi | hi
  · rw [List.getElem?_append_left hi] at hy
    rw [List.getElem?_append_left (by rw [h.1]; exact hi)] at hq
    exact h.2 i y q hy hq
  · have hi2 : i = acc.length := by
      have := (List.getElem?_eq_some_iff.1 hy).1; simp at this; omega
    subst hi2
    simp at hy
    rw [← h.1] at hq
    simp at hq
    subst hy hq
    exact hx
theorem Got.kept {P P' : Nat → Prop} {w w' : World} {d : Nat} {acc : List (M.T d)} {qs : List Quad} (h : Got P w d acc qs) (hk : ∀ k, P k → w'.heap[k]? = w.heap[k]?) (hP : ∀ k, P k → P' k) : Got P' w' d acc qs :=
  ⟨h.1, fun i x q hx hq => ((h.2 i x q hx hq).kept hk).mono hP⟩

/-- The list, whole. -/
theorem Got.rep {P : Nat → Prop} {w : World} {d base : Nat} {acc : List (M.T d)} {qs : List Quad} {v : Value} (h : Got P w d acc qs) (ho : w.ownsRow base 24 4 v acc.length (flat qs)) (hP : ∀ k, v.ownBlock = some k → P k) (hlen : acc.length ≤ 70368744177664) :
    ∃ a cap, v = .slice a acc.length cap ∧ RepP P w (d + 1) (3, 0, ⟨#[]⟩, acc) (.agg #[.int .i64 3, .int .i64 0, .string ⟨#[]⟩, .slice a acc.length cap]) := by
  have hcells := fun g hg => ho.cells (g := g) hg
  rcases ho.2 with ⟨rfl, h0⟩ | ⟨g, cap, cur, rfl, _⟩
  · refine ⟨none, 0, by rw [h0], by decide, by decide, by decide, hlen, none, 0, rfl, .inl (List.length_eq_zero_iff.1 h0)⟩
  · refine ⟨some ⟨g, 0, none⟩, cap, rfl, by decide, by decide, by decide, hlen, some ⟨g, 0, none⟩, cap, rfl, .inr ⟨g, 0, rfl, hP g rfl, fun i x hx => ?_⟩⟩
    have hi := (List.getElem?_eq_some_iff.1 hx).1
    obtain ⟨q, hq⟩ : ∃ q, qs[i]? = some q := ⟨qs[i]'(by rw [h.1]; exact hi), List.getElem?_eq_getElem (by rw [h.1]; exact hi)⟩
    obtain ⟨a, b, c, e⟩ := q
    obtain ⟨f0, f1, f2, f3⟩ := flat_at qs i a b c e hq
    have hadd : ∀ j, (⟨g, 0, none⟩ : Addr).add j = ⟨g, 0 + j, none⟩ := fun j => by unfold Addr.add; split <;> simp_all
    have hc := fun j u hj => hadd j ▸ hcells g rfl j u hj
    exact ⟨a, b, c, e, hc _ _ f0, hc _ _ f1, hc _ _ f2, hc _ _ f3, h.2 i x _ hx hq⟩

theorem Try.info24 : (Try.prog.info? 24).map (fun i => (i.zero, i.size, i.bytes)) = some (some (.agg #[.int .i64 0, .int .i64 0, .string ⟨#[]⟩, .slice none 0 0]), 4, 56) := by kernel_rfl

set_option maxRecDepth 100000 in
set_option maxHeartbeats 2000000 in
theorem list_zero (rb : Nat) (w : World) :
    Calls Try.prog 44 #[.pointer (some ⟨rb, 0, none⟩), .int .i64 0] w (ValRes rb 0 none w) := by
  go_enter Try.func44, Try.ntmps44
  go_wp2_with fail
  exact ⟨rfl, World.grownBy_alloc _ _ _, rfl⟩

theorem wrap_i64 (n : Int) (h0 : -9223372036854775808 ≤ n) (h1 : n ≤ 9223372036854775807) : IntKind.i64.wrap n = n := by rw [IntKind.wrap_i64]; omega

theorem RepP.shape {P : Nat → Prop} {w : World} : ∀ {d : Nat} {t : M.T d} {v : Value}, RepP P w d t v → ∃ k n s a len cap, v = .agg #[.int .i64 k, .int .i64 n, .string s, .slice a len cap]
  | _ + 1, (k, n, s, l), _, ⟨_, _, _, _, a, cap, hv, _⟩ => ⟨k, n, s, a, l.length, cap, hv⟩

/-- At a step of a region that draws: 'append(l, x)', l a slice of values that the call owns, x one value, which lies in a block of its own. -/
theorem step_push4 {ops : Array Oper} {o : Oper} {a : Act} {K : Act → World → Prop} {Q : Exit → Act → World → Prop} {E : Prop} {w : World} (hgd : o.guard = none) (s x : Operand)
    (ho : o.op = .call { callee := .builtin .append, args := #[s, x], argTypes := #[22, 22] })
    (base : Nat) (v : Value) (n : Nat) (xs : List Value) (hs : a.eval s = v) (hown : w.ownsRow base 24 4 v n xs) (B : Nat) (a0 a1 a2 a3 : Value)
    (hx : a.eval x = .slice (some ⟨B, 0, none⟩) 1 1) (hB : w.heap[B]? = some (.cells #[a0, a1, a2, a3] 24 (0, 0))) (h1 : a0.oneCell' = true ∧ a1.oneCell' = true ∧ a2.oneCell' = true ∧ a3.oneCell' = true) (hn : n ≤ 1099511627776) (hb : base ≤ w.heap.size)
    (h : ∀ g cap w', w'.ownsRow base 24 4 (.slice (some ⟨g, 0, none⟩) (n + 1) cap) (n + 1) (xs ++ [a0, a1, a2, a3]) → w.grownBy w' v.ownBlock → (v.ownBlock = some g ∨ g = w.heap.size) → g < w'.heap.size → K (a.put o.dst (.slice (some ⟨g, 0, none⟩) (n + 1) cap)) w') :
    if Region.wanted o (yielded ops a.tmps) = true then Oper.wp Try.prog o a w K Q else E := by
  obtain ⟨i0, hi, hz0, hz1, hz2⟩ := info_parts Try.info24
  exact step_append_lies w hgd s x 22 ho base 24 i0 _ 4 56 Try.underlying22 hi hz0 hz1 hz2 rfl (by decide) v n xs hs hown ⟨B, 0, none⟩ 1 1 [a0, a1, a2, a3] hx rfl (World.news_of_block (cs := #[a0, a1, a2, a3]) hB)
    (by intro u hu; simp at hu; obtain ⟨q0, q1, q2, q3⟩ := h1; rcases hu with rfl | rfl | rfl | rfl <;> assumption) (by decide) (by unfold maxLen; omega) (by omega) hb w.heap.size rfl h

theorem ValRes.cases {rb deep : Nat} {r : Option (M.T (deep + 1) × List UInt8)} {w w' : World} {e : Ending} (h : ValRes rb deep r w e w') :
    (r = none ∧ Bad e ∧ w.grownBy w' (some rb)) ∨ ∃ t rest v, r = some (t, rest) ∧ e = .returned v ∧ RS w' rb rest ∧ RepP (fun k => w.heap.size ≤ k ∧ k < w'.heap.size) w' (deep + 1) t v ∧ w.grownBy w' (some rb) := by
  obtain ⟨hg, h⟩ := h
  cases r with
  | none => exact .inl ⟨rfl, h, hg⟩
  | some p =>
    obtain ⟨t, rest⟩ := p
    obtain ⟨hr, v, he, hrep⟩ := h
    exact .inr ⟨t, rest, v, rfl, he, hr, hrep, hg⟩

theorem cell_past {w : World} {b i : Nat} {v : Value} (o : Obj) (h : w.cell? ⟨b, i, none⟩ = some v) : (w.alloc o).cell? ⟨b, i, none⟩ = some v :=
  (((Below.refl _ _).alloc (Nat.le_refl _) o : Below w.heap.size w _).cell (p := ⟨b, i, none⟩) (block_lt_of_cell h)).trans h

/-- The tree of a list that has been read. -/
def listOf (d : Nat) (q : Option (List (M.T (d + 1)) × List UInt8)) : Option (M.T (d + 2) × List UInt8) := q.map fun p => ((3, 0, ⟨#[]⟩, p.1), p.2)

theorem listOf_done {d : Nat} (acc : List (M.T (d + 1))) (bs : List UInt8) : listOf d ((M.rdMany (M.rdVal d) 0 bs).map fun p => (acc ++ p.1, p.2)) = some ((3, 0, ⟨#[]⟩, acc), bs) := by
  simp only [M.rdMany, listOf, Option.map_some, List.append_nil]; rfl

theorem list_bad_end {rb d m : Nat} {bs : List UInt8} {acc : List (M.T (d + 1))} {res : Option (M.T (d + 2) × List UInt8)} {w wr w3 : World}
    (hR : listOf d (((M.rdVal d bs).bind fun p => (M.rdMany (M.rdVal d) m p.2).map fun q => (p.1 :: q.1, q.2)).map fun p => (acc ++ p.1, p.2)) = res) (hx : M.rdVal d bs = none) (hg : w.grownBy wr (some rb)) (hg3 : wr.drew.grownBy w3 (some rb)) :
    ValRes rb (d + 1) res w (.panicked [{ v := .iface 28 (.int .i64 10), recovered := false }]) w3 := by
  obtain rfl : res = none := by rw [← hR, hx]; rfl
  exact ⟨grownBy_trans hg (grownBy_trans (w' := wr.drew) ⟨rfl, rfl, rfl, Nat.le_refl _, fun _ _ _ => rfl⟩ hg3), rfl⟩

/-- What holds of memory at each round's head of list. -/
def Inv (rb d : Nat) (w wr : World) (j : Nat) (acc : List (M.T (d + 1))) (qs : List Quad) (rv : Value) : Prop :=
        wr.heap[w.heap.size]? = some (.cells #[.int .i64 0, .int .i64 0, .string ⟨#[]⟩, .slice none 0 0] 24 (0, 0)) ∧
        wr.heap[w.heap.size + 1]? = some (.cells #[.int .i64 3, .int .i64 0, .string ⟨#[]⟩, rv] 24 (0, 0)) ∧ wr.ownsRow (w.heap.size + 2) 24 4 rv j (flat qs) ∧
        Got (fun k => w.heap.size + 2 ≤ k ∧ k < wr.heap.size ∧ rv.ownBlock ≠ some k) wr (d + 1) acc qs ∧ w.heap.size + 2 ≤ wr.heap.size ∧ w.grownBy wr (some rb)

theorem RS.grown {w w' : World} {rb : Nat} {row : Option Nat} {bs : List UInt8} (h : RS w rb bs) (hg : w.grownBy w' row) (hr : ∀ k, row = some k → rb < k) : RS w' rb bs := by
  have hlt := h.lt
  obtain ⟨hf, hl, a, cap, hc, hcap, hcs⟩ := h
  have hh : ∀ k, k ≤ rb → w'.heap[k]? = w.heap[k]? := fun k hk => hg.block k (by omega) (fun e => by have := hr k e.symm; omega)
  refine ⟨(World.frozen?_of_block (w := w) (hh rb (Nat.le_refl _))).trans hf, hl, a, cap, (World.cell?_of_block (w := w) (hh rb (Nat.le_refl _))).trans hc, hcap, fun i h => ?_⟩
  obtain ⟨ad, ha, hne, hcell⟩ := hcs i h
  exact ⟨ad, ha, hne, (World.cell?_of_block (w := w) (hh _ (by rw [add_block]; omega))).trans hcell⟩

theorem heap_store3 {w : World} {B : Nat} {v0 v1 v2 v3 u : Value} {t : TypeId} (h : w.heap[B]? = some (.cells #[v0, v1, v2, v3] t (0, 0))) : (w.setCell ⟨B, 3, none⟩ u).heap[B]? = some (.cells #[v0, v1, v2, u] t (0, 0)) := by
  simp [World.setCell, Array.getElem?_modify, h]

theorem Inv.step {rb d : Nat} {w wr w3 w5 : World} {j : Nat} {acc : List (M.T (d + 1))} {qs : List Quad} {rv : Value} (hI : Inv rb d w wr j acc qs rv) (hlt : rb < w.heap.size) {r1 : List UInt8} {x : M.T (d + 1)} {a b c e : Value} {g cap : Nat}
    (hg3 : wr.drew.grownBy w3 (some rb)) (hr3 : RS w3 rb r1) (hrep3 : RepP (fun k => wr.drew.heap.size ≤ k ∧ k < w3.heap.size) w3 (d + 1) x (.agg #[a, b, c, e]))
    (ho5 : w5.ownsRow (w.heap.size + 2) 24 4 (.slice (some ⟨g, 0, none⟩) (j + 1) cap) (j + 1) (flat qs ++ [a, b, c, e])) {o : Obj} (hg5 : (w3.alloc o).grownBy w5 rv.ownBlock) (hat : rv.ownBlock = some g ∨ g = (w3.alloc o).heap.size) :
    RS (w5.setCell ⟨w.heap.size + 1, 3, none⟩ (.slice (some ⟨g, 0, none⟩) (j + 1) cap)) rb r1 ∧ Inv rb d w (w5.setCell ⟨w.heap.size + 1, 3, none⟩ (.slice (some ⟨g, 0, none⟩) (j + 1) cap)) (j + 1) (acc ++ [x]) (qs ++ [(a, b, c, e)]) (.slice (some ⟨g, 0, none⟩) (j + 1) cap) := by
  obtain ⟨hR, hV, hown, hgot, hsz, hgr⟩ := hI
  have hrow : ∀ k, rv.ownBlock = some k → w.heap.size + 2 ≤ k ∧ k < wr.heap.size := hown.lt
  have hs3 : wr.heap.size ≤ w3.heap.size := hg3.size
  have hs5 : w3.heap.size + 1 ≤ w5.heap.size := by have := hg5.size; simpa using this
  have hss : (w5.setCell ⟨w.heap.size + 1, 3, none⟩ (.slice (some ⟨g, 0, none⟩) (j + 1) cap)).heap.size = w5.heap.size := by simp [World.setCell]
  -- a block of the time behind the call of value, other than the row
  have h35 : ∀ k, k < w3.heap.size → rv.ownBlock ≠ some k → w5.heap[k]? = w3.heap[k]? := fun k hk hn => (hg5.block k (by simp; omega) (Ne.symm hn)).trans (Below.heap_alloc _ _ _ hk)
  have hr5 : ∀ k, k < wr.heap.size → k ≠ rb → rv.ownBlock ≠ some k → w5.heap[k]? = wr.heap[k]? := fun k hk hn hn2 => (h35 k (by omega) hn2).trans (hg3.block k hk (by simp; omega))
  have hset : ∀ k, k ≠ w.heap.size + 1 → (w5.setCell ⟨w.heap.size + 1, 3, none⟩ (.slice (some ⟨g, 0, none⟩) (j + 1) cap)).heap[k]? = w5.heap[k]? := fun k hk => Below.heap_setCell _ _ _ _ (by simpa using hk)
  have hold : ∀ k, k ≤ w.heap.size + 1 → rv.ownBlock ≠ some k := fun k hk e => by have := (hrow k e).1; omega
  refine ⟨?_, ?_, ?_, ?_, ?_, by rw [hss]; omega, ?_⟩
  · exact ((hr3.alloc o).grown hg5 (fun k hk => by have := (hrow k hk).1; omega)).store (by omega) _
  · rw [hset _ (by omega), hr5 _ (by omega) (by omega) (hold _ (by omega))]; exact hR
  · exact heap_store3 ((hr5 _ (by omega) (by omega) (hold _ (by omega))).trans hV)
  · rw [flat_snoc]; exact ownsRow_setCell_below ho5 (by simp) _
  · have hgk : ∀ k, (k < wr.heap.size ∧ rv.ownBlock ≠ some k) ∨ (wr.heap.size ≤ k ∧ k < w3.heap.size) → (Value.slice (some ⟨g, 0, none⟩) (j + 1) cap).ownBlock ≠ some k := fun k hk e => by
      simp only [Value.ownBlock, Option.some.injEq] at e
      subst e
      rcases hat with h | h
      · rcases hk with ⟨_, h2⟩ | ⟨h1, _⟩
        · exact h2 h
        · have := (hrow g h).2; omega
      · simp at h; rcases hk with ⟨h1, _⟩ | ⟨_, h2⟩ <;> omega
    have hA : Got (fun k => w.heap.size + 2 ≤ k ∧ k < (w5.setCell ⟨w.heap.size + 1, 3, none⟩ (.slice (some ⟨g, 0, none⟩) (j + 1) cap)).heap.size ∧ (Value.slice (some ⟨g, 0, none⟩) (j + 1) cap).ownBlock ≠ some k) (w5.setCell ⟨w.heap.size + 1, 3, none⟩ (.slice (some ⟨g, 0, none⟩) (j + 1) cap)) (d + 1) acc qs :=
      hgot.kept (fun k hk => by rw [hset k (by omega), hr5 k hk.2.1 (by omega) hk.2.2]) (fun k hk => ⟨hk.1, by rw [hss]; omega, hgk k (.inl hk.2)⟩)
    refine hA.snoc ((hrep3.kept (fun k hk => ?_)).mono (fun k hk => ?_))
    · have h1 : wr.heap.size ≤ k := hk.1
      rw [hset k (by omega), h35 k hk.2 (fun e => by have := (hrow k e).2; omega)]
    · have h1 : wr.heap.size ≤ k := hk.1
      exact ⟨by omega, by rw [hss]; omega, hgk k (.inr ⟨h1, hk.2⟩)⟩
  · refine ⟨?_, ?_, ?_, by rw [hss]; omega, fun k hk hn => ?_⟩
    · exact hg5.os.trans (hg3.os.trans hgr.os)
    · exact hg5.tape.trans (hg3.tape.trans hgr.tape)
    · exact hg5.output.trans (hg3.output.trans hgr.output)
    · rw [hset _ (by omega), hr5 k (by omega) (by simpa using hn) (hold _ (by omega))]
      exact hgr.block k hk hn

set_option maxRecDepth 100000 in
set_option maxHeartbeats 4000000 in
theorem list_any (rb d : Nat) (hd : d ≤ 1000) (r : List UInt8) (w : World) (h : RS w rb r) (res : Option (M.T (d + 2) × List UInt8)) (hres : listOf d (M.rdList (M.rdVal d) r) = res)
    (hv : ∀ W bs, RS W rb bs → Calls Try.prog 33 #[.pointer (some ⟨rb, 0, none⟩), .int .i64 d] W (ValRes rb d (M.rdVal d bs) W)) :
    Calls Try.prog 44 #[.pointer (some ⟨rb, 0, none⟩), .int .i64 (d + 1 : Nat)] w (ValRes rb (d + 1) res w) := by
  have hlt := h.lt
  have hd0 : (((d + 1 : Nat) : Int) == 0) = false := by rw [beq_eq_false_iff_ne]; omega
  have HV := Lib.hid hv; clear hv
  have h1 := (h.alloc (.cells #[.int .i64 0, .int .i64 0, .string ⟨#[]⟩, .slice none 0 0] 24)).alloc (.cells #[.int .i64 3, .int .i64 0, .string ⟨#[]⟩, .slice none 0 0] 24)
  cases hq : M.rdNum 0 0 r with
  | none =>
    obtain rfl : res = none := by rw [← hres]; simp [listOf, M.rdList, hq]
    have HQ := Lib.hid hq; clear hq hres
    go_enter Try.func44, Try.ntmps44
    go_wp2_with (go_at_call 43; refine (numeral_any rb _ _ h1 none HQ.out).mono ?_; rintro e w2 ⟨hg2, hbad⟩; unfold Bad at hbad; subst hbad)
    exact ⟨rfl, grownBy_alloc _ (grownBy_alloc _ hg2), rfl⟩
  | some p =>
    obtain ⟨n, r'⟩ := p
    have hres2 : listOf d (M.rdMany (M.rdVal d) n r') = res := by rw [← hres]; simp [M.rdList, hq]
    have HQ := Lib.hid hq; have HRES := Lib.hid hres2; clear hq hres hres2
    have hlen := h.2.1
    have hless := M.rdNum_less r 0 0 n r' HQ.out
    go_enter Try.func44, Try.ntmps44
    go_wp2_with (go_at_call 43; refine (numeral_any rb _ _ h1 _ HQ.out).mono ?_; rintro e w2 ⟨hg2, he, hu, hr2⟩; subst he)
    have hsz2 : w.heap.size + 2 ≤ w2.heap.size := by have := hg2.size; simpa using this
    have hres0 : w2.heap[w.heap.size]? = some (.cells #[.int .i64 0, .int .i64 0, .string ⟨#[]⟩, .slice none 0 0] 24 (0, 0)) := by
      rw [hg2.block w.heap.size (by simp; omega) (by simp; omega), Below.heap_alloc _ _ _ (by simp)]; exact heap_alloc_new w _
    have hvar0 : w2.heap[w.heap.size + 1]? = some (.cells #[.int .i64 3, .int .i64 0, .string ⟨#[]⟩, .slice none 0 0] 24 (0, 0)) := by
      rw [hg2.block (w.heap.size + 1) (by simp) (by simp; omega)]
      have := heap_alloc_new (w.alloc (.cells #[.int .i64 0, .int .i64 0, .string ⟨#[]⟩, .slice none 0 0] 24)) (.cells #[.int .i64 3, .int .i64 0, .string ⟨#[]⟩, .slice none 0 0] 24)
      simpa using this
    have hgw := grownBy_alloc _ (grownBy_alloc _ hg2)
    have hlr : r'.length ≤ 1099511627776 := by omega
    clear hless hlen hg2 h1
    go_loopw [12] (fun ii wr => ∃ (j : Nat) (acc : List (M.T (d + 1))) (bs : List UInt8) (qs : List Quad) (rv : Value), ii = .int .u64 j ∧ j ≤ n ∧ acc.length = j ∧ j + bs.length ≤ r'.length ∧
        Hid (listOf d ((M.rdMany (M.rdVal d) (n - j) bs).map fun p => (acc ++ p.1, p.2)) = res) ∧ RS wr rb bs ∧ Inv rb d w wr j acc qs rv)
      (fun ii _ => n - (intOf ii).toNat)
    case atStart =>
      refine ⟨0, [], r', [], .slice none 0 0, rfl, Nat.zero_le _, rfl, by omega, Lib.hid ?_, hr2, hres0, hvar0, World.ownsRow_nil _ _ _ _, ⟨rfl, fun i x q hx => by simp at hx⟩, hsz2, hgw⟩
      rw [← HRES.out]
      simp only [Nat.sub_zero, List.nil_append]
      cases M.rdMany (M.rdVal d) n r' <;> rfl
    case round =>
      obtain ⟨j, acc, bs, qs, rv, rfl, hj, hacc, hjb, HR, hrs, hI⟩ := hrel
      have HI := hI
      obtain ⟨hR, hV, hown, hgot, hsz, hgr⟩ := hI
      obtain ⟨⟨d0, d1, d2, d3⟩, g0, g1, g2, g3⟩ := cells4 hV
      by_cases hjn : j < n
      · obtain ⟨m, hm⟩ : ∃ m, n - j = m + 1 := ⟨n - j - 1, by omega⟩
        have hrsD : RS wr.drew rb bs := hrs
        have hvD : Calls Try.prog 33 #[.pointer (some ⟨rb, 0, none⟩), .int .i64 d] wr.drew (ValRes rb d (M.rdVal d bs) wr.drew) := HV.out wr.drew bs hrsD
        have hR2 := HR.out
        rw [hm, M.rdMany_succ] at hR2
        have HVD := Lib.hid hvD; have HM := Lib.hid hm; have HR2 := Lib.hid hR2; clear hvD hm hR2
        have hbD : w.heap.size + 2 ≤ wr.drew.heap.size := hsz
        have hownD := hown.drew
        have hneV : rv.ownBlock ≠ some (w.heap.size + 1) := fun hh => by have := (hown.lt _ hh).1; omega
        have hneR : rv.ownBlock ≠ some rb := fun hh => by have := (hown.lt _ hh).1; omega
        have hVD : wr.drew.heap[w.heap.size + 1]? = some (.cells #[.int .i64 3, .int .i64 0, .string ⟨#[]⟩, rv] 24 (0, 0)) := hV
        go_wp2_with fail
        go_region_law (first
          | (refine step_push4 rfl _ _ rfl (w.heap.size + 2) rv j (flat qs) rfl (ho3.alloc _) w3.heap.size (.int .i64 kx) (.int .i64 nx) (.string sx) (.slice ax lx px) rfl (heap_alloc_new w3 _) ⟨rfl, rfl, rfl, rfl⟩ (by omega) (by simp; omega) ?_; intro g cap w5 ho5 hg5 hat hglt; have hV5 : w5.heap[w.heap.size + 1]? = some (.cells #[.int .i64 3, .int .i64 0, .string ⟨#[]⟩, rv] 24 (0, 0)) := (hg5.block (w.heap.size + 1) (by simp; omega) (Ne.symm hneV)).trans ((Below.heap_alloc _ _ _ (by omega)).trans hV3); obtain ⟨⟨e0, e1, e2, e3⟩, f0, f1, f2, f3⟩ := cells4 hV5)
          | (go_simp; go_at_call 33; rw [wrap_i64 _ (by omega) (by omega)]; (with_reducible refine (HVD.out).mono ?_); rintro e w3 hval; rcases hval.cases with ⟨hx, hbad, hg3⟩ | ⟨x, r1, v3, hx, he, hr3, hrep3, hg3⟩; (· unfold Bad at hbad; subst hbad; exact ⟨rfl, list_bad_end HR2.out hx hgr hg3⟩); subst he; obtain ⟨kx, nx, sx, ax, lx, px, hvx⟩ := hrep3.shape; subst hvx; have hV3 : w3.heap[w.heap.size + 1]? = some (.cells #[.int .i64 3, .int .i64 0, .string ⟨#[]⟩, rv] 24 (0, 0)) := (hg3.block _ (by simp; omega) (by simp; omega)).trans hVD; have hs3 := hg3.size; have ho3 := hownD.kept hg3 (.inr hneR); have hv3 := (cells4 hV3).1.2.2.2; have hv4 := fun (o : Obj) => cell_past o hv3))
        all_goals
          have hst := Inv.step HI hlt hg3 hr3 hrep3 ho5 hg5 hat
          have hlx := M.rdVal_less d bs x r1 hx
          have hR3 := HR2.out
          rw [hx] at hR3
          have HST := Lib.hid hst; have HR3 := Lib.hid hR3
          clear hst hR3
          go_wp2_with fail
          go_roundw
          case rel =>
            refine ⟨j + 1, acc ++ [x], r1, _, _, by go_num, by omega, by simp [hacc], by omega, Lib.hid ?_, HST.out.1, HST.out.2⟩
            rw [← HR3.out, show n - (j + 1) = m from by have := HM.out; omega]
            simp only [Option.bind_some]
            cases M.rdMany (M.rdVal d) m r1 <;> simp [listOf]
          case measure => simp [intOf]; omega
      · obtain rfl : j = n := by omega
        subst hacc
        have hgot2 := hgot.kept (P' := fun k => w.heap.size + 2 ≤ k ∧ k < wr.heap.size) (fun _ _ => rfl) (fun k hk => ⟨hk.1, hk.2.1⟩)
        obtain ⟨a, cap, hrv, hrep⟩ := hgot2.rep hown (fun k hk => hown.lt k hk) (by omega)
        subst hrv
        obtain ⟨⟨r0, r1, r2, r3⟩, s0, s1, s2, s3⟩ := cells4 hR
        go_wp2_with fail
        obtain rfl : res = some ((3, 0, ⟨#[]⟩, acc), bs) := by rw [← HR.out, Nat.sub_self]; exact listOf_done acc bs
        refine bodyPost_ret (v := .agg #[.int .i64 3, .int .i64 0, .string ⟨#[]⟩, .slice a acc.length cap]) (by simp [results, Try.results44, go_sem, r0, r1, r2, r3]) rfl ?_
        refine ⟨?_, ?_, _, rfl, ?_⟩
        · exact grownBy_store (grownBy_store (grownBy_store (grownBy_store hgr (Nat.le_refl _) _) (Nat.le_refl _) _) (Nat.le_refl _) _) (Nat.le_refl _) _
        · exact (((hrs.store hlt _).store hlt _).store hlt _).store hlt _
        · refine (hrep.kept (fun k hk => ?_)).mono (fun k hk => ⟨by have := hk.1; omega, by simp [World.setCell]; exact hk.2⟩)
          have h1 : w.heap.size + 2 ≤ k := hk.1
          have hne : ∀ (W : World) (o : Nat) (u : Value), (W.setCell ⟨w.heap.size, o, none⟩ u).heap[k]? = W.heap[k]? := fun W o u => Below.heap_setCell _ _ _ _ (by simp; omega)
          rw [hne, hne, hne, hne]

/-- value, at all bytes. -/
theorem value_any : ∀ (deep : Nat) (_ : deep ≤ 1000) (rb : Nat) (bs : List UInt8) (w : World), RS w rb bs →
    Calls Try.prog 33 #[.pointer (some ⟨rb, 0, none⟩), .int .i64 deep] w (ValRes rb deep (M.rdVal deep bs) w)
  | deep, hd, rb, [], w, h => by
    have e : M.rdVal deep [] = none := by cases deep <;> rfl
    rw [e]; exact value_none rb deep w h
  | deep, hd, rb, c :: r, w, h => by
    by_cases h1 : c = 1
    · subst h1
      have e : M.rdVal deep (1 :: r) = (match M.rdNum 0 0 r with
        | none => none
        | some (u, r') => some ((1, M.sig u, ⟨#[]⟩, []), r')) := by cases deep <;> rfl
      rw [e]
      have hv := value_int rb deep r w h
      cases hq : M.rdNum 0 0 r with
      | none => exact hv none hq
      | some p => exact hv (some p) hq
    · by_cases h2 : c = 2
      · subst h2
        have e : M.rdVal deep (2 :: r) = (match M.rdNum 0 0 r with
          | none => none
          | some (n, r') => if n ≤ r'.length then some ((2, 0, ⟨(r'.take n).toArray⟩, []), r'.drop n) else none) := by cases deep <;> rfl
        rw [e]
        cases hq : M.rdNum 0 0 r with
        | none => exact value_badnum rb deep r w h hq
        | some p =>
          obtain ⟨n, r'⟩ := p
          by_cases hn : n ≤ r'.length
          · simp only [hn, if_true]; exact value_text rb deep r w h n r' hq hn
          · simp only [hn, if_false]; exact value_text_short rb deep r w h n r' hq (by omega)
      · by_cases h3 : c = 3
        · subst h3
          match deep, hd with
          | 0, _ => exact value_list_bad rb 0 r w h (fun W _ => list_zero rb W)
          | d + 1, hd =>
            have e : M.rdVal (d + 1) (3 :: r) = listOf d (M.rdList (M.rdVal d) r) := by
              rw [M.rdVal, M.rdWith, if_neg (by decide), if_neg (by decide), if_pos rfl]
              cases M.rdList (M.rdVal d) r <;> rfl
            have hl : ∀ W, RS W rb r → Calls Try.prog 44 #[.pointer (some ⟨rb, 0, none⟩), .int .i64 (d + 1 : Nat)] W (ValRes rb (d + 1) (listOf d (M.rdList (M.rdVal d) r)) W) :=
              fun W hW => list_any rb d (by omega) r W hW _ rfl (fun W2 bs2 h2 => value_any d (by omega) rb bs2 W2 h2)
            rw [e]
            revert hl
            cases listOf d (M.rdList (M.rdVal d) r) with
            | none => intro hl; exact value_list_bad rb (d + 1) r w h hl
            | some p => obtain ⟨t, rest⟩ := p; intro hl; exact value_list rb (d + 1) r w h t rest hl
        · have e : M.rdVal deep (c :: r) = none := by
            cases deep <;> simp only [M.rdVal, M.rdWith, h1, h2, h3, if_false]
          rw [e]
          exact value_other rb deep c r w h (fun hh => h1 (UInt8.toNat_inj.1 hh)) (fun hh => h2 (UInt8.toNat_inj.1 hh)) (fun hh => h3 (UInt8.toNat_inj.1 hh))

end Go.Proofs.Ytmhchpdogjbpmaa
