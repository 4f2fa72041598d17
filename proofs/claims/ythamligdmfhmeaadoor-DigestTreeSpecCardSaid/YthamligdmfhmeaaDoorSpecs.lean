/- A region that draws its order, by a specification of each operation: n operations in any order, each by what it needs and leaves; then a tail whose order the edges force. -/
import Derived.Test.YthamligdmfhmeaaDoorRows
import Derived.StillTail
import Derived.Tactics
import Derived.RegionTactic
import Derived.WalkKit
namespace Go.Proofs.YthamligdmfhmeaaDoor
open Go.RowKit

section
variable {P : Program} {ops : Array Oper} {Q : Exit → Act → World → Prop}

def dstOf (ops : Array Oper) (i : Nat) : Option Tmp := (ops[i]?).bind (·.dst)
/-- Temporary t is none of the first n operations' own. -/
def notDst (ops : Array Oper) (n : Nat) (t : Tmp) : Bool := (List.range n).all fun i => dstOf ops i != some t
/-- Operation i waits for operation j. -/
def depB (ops : Array Oper) (i j : Nat) : Bool := match ops[i]? with
  | some o => o.after.any fun e => Region.binds .any e && e.on == j
  | none => false
def specB (ops : Array Oper) (n size : Nat) : Bool := (List.range n).all fun i =>
  (match dstOf ops i with
    | some t => decide (t < size) && (List.range n).all fun j => decide (i = j) || dstOf ops j != some t
    | none => false) &&
  (match ops[i]? with
    | some o => o.after.all fun e => !Region.binds .any e || decide (e.on < i)
    | none => false)
theorem specB_dst {n size : Nat} (h : specB ops n size = true) {i : Nat} (hi : i < n) : ∃ t, dstOf ops i = some t ∧ t < size ∧ ∀ j, j < n → i ≠ j → dstOf ops j ≠ some t := by
  have h1 := List.all_eq_true.1 h i (List.mem_range.2 hi)
  rw [Bool.and_eq_true] at h1
  have h2 := h1.1
  cases hd : dstOf ops i with
  | none => rw [hd] at h2; cases h2
  | some t =>
    rw [hd] at h2
    simp only [Bool.and_eq_true, decide_eq_true_eq, List.all_eq_true, List.mem_range, Bool.or_eq_true, bne_iff_ne] at h2
    exact ⟨t, rfl, h2.1, fun j hj hij => (h2.2 j hj).resolve_left hij⟩
theorem specB_lex {n size : Nat} (h : specB ops n size = true) {i : Nat} (hi : i < n) : ∃ o, ops[i]? = some o ∧ ∀ e ∈ o.after, Region.binds .any e = true → e.on < i := by
  have h1 := List.all_eq_true.1 h i (List.mem_range.2 hi)
  rw [Bool.and_eq_true] at h1
  have h2 := h1.2
  cases ho : ops[i]? with
  | none => rw [ho] at h2; cases h2
  | some o =>
    rw [ho] at h2
    refine ⟨o, rfl, fun e he hb => ?_⟩
    have := Array.all_eq_true'.1 h2 e he
    rw [hb] at this
    simpa using this
theorem notDst_ne {n : Nat} {t : Tmp} (h : notDst ops n t = true) {i : Nat} (hi : i < n) : dstOf ops i ≠ some t := by
  have := List.all_eq_true.1 h i (List.mem_range.2 hi)
  simpa using this

/-- The acts that differ from the first one in the operations' own temporaries alone. -/
structure Ag (ops : Array Oper) (n : Nat) (a0 a : Act) : Prop where
  defers : a.defers = a0.defers
  size : a.tmps.size = a0.tmps.size
  same : ∀ t, (∀ i, i < n → dstOf ops i ≠ some t) → a.tmps[t]? = a0.tmps[t]?
theorem Ag.eval {n : Nat} {a0 a : Act} (h : Ag ops n a0 a) (t : Tmp) (ht : notDst ops n t = true) : a.eval (.tmp t) = a0.eval (.tmp t) := by
  have := h.same t (fun i hi => notDst_ne ht hi)
  simp only [Act.eval, Array.getD_eq_getD_getElem?, this]
theorem Ag.put {n : Nat} {a0 a : Act} (h : Ag ops n a0 a) {i : Nat} (hi : i < n) {t : Tmp} (ht : dstOf ops i = some t) (v : Value) : Ag ops n a0 (a.put (some t) v) :=
  ⟨h.defers, by simp [Act.put, h.size], fun u hu => by
    have hne : t ≠ u := fun e => hu i hi (by rw [ht, e])
    simp only [Act.put]
    rw [Array.getElem?_setIfInBounds_ne hne]
    exact h.same u hu⟩
/-- The first act with the operations' values put in. -/
def putsOf (ops : Array Oper) (vs : Nat → Value) (a0 : Act) : Nat → Act
  | 0 => a0
  | k + 1 => (putsOf ops vs a0 k).put (dstOf ops k) (vs k)
theorem Ag.puts {n : Nat} {a0 a : Act} (h : Ag ops n a0 a) (vs : Nat → Value) (hv : ∀ i t, i < n → dstOf ops i = some t → a.tmps[t]? = some (vs i)) : a = putsOf ops vs a0 n := by
  have g : ∀ k, k ≤ n → (putsOf ops vs a0 k).defers = a0.defers ∧ (putsOf ops vs a0 k).tmps.size = a0.tmps.size ∧ ∀ t, ((∃ i, i < k ∧ dstOf ops i = some t) → (putsOf ops vs a0 k).tmps[t]? = a.tmps[t]?) ∧ ((∀ i, i < k → dstOf ops i ≠ some t) → (putsOf ops vs a0 k).tmps[t]? = a0.tmps[t]?) := by
    intro k
    induction k with
    | zero => exact fun _ => ⟨rfl, rfl, fun t => ⟨fun ⟨i, hi, _⟩ => by omega, fun _ => rfl⟩⟩
    | succ k ih =>
      intro hk
      obtain ⟨g1, g2, g3⟩ := ih (by omega)
      cases hd : dstOf ops k with
      | none =>
        simp only [putsOf, hd, Act.put]
        refine ⟨g1, g2, fun t => ⟨fun ⟨i, hi, he⟩ => ?_, fun hn => (g3 t).2 (fun i hi => hn i (by omega))⟩⟩
        have : i ≠ k := fun e => by subst e; rw [hd] at he; cases he
        exact (g3 t).1 ⟨i, by omega, he⟩
      | some u =>
        simp only [putsOf, hd, Act.put]
        refine ⟨g1, by simp [g2], fun t => ⟨fun ⟨i, hi, he⟩ => ?_, fun hn => ?_⟩⟩
        · by_cases hu : u = t
          · subst hu
            have h1 := hv k u (by omega) hd
            have hlt : u < a.tmps.size := (Array.getElem?_eq_some_iff.1 h1).1
            rw [h1, Array.getElem?_setIfInBounds_self_of_lt (by rw [g2, ← h.size]; exact hlt)]
          · rw [Array.getElem?_setIfInBounds_ne hu]
            have : i ≠ k := fun e => by subst e; rw [hd] at he; exact hu (Option.some.inj he)
            exact (g3 t).1 ⟨i, by omega, he⟩
        · have hu : u ≠ t := fun e => hn k (by omega) (by rw [hd, e])
          rw [Array.getElem?_setIfInBounds_ne hu]
          exact (g3 t).2 (fun i hi => hn i (by omega))
  obtain ⟨g1, g2, g3⟩ := g n (Nat.le_refl _)
  obtain ⟨tm, df⟩ := a
  have e1 : tm = (putsOf ops vs a0 n).tmps := by
    apply Array.ext_getElem?
    intro t
    by_cases hx : ∃ i, i < n ∧ dstOf ops i = some t
    · exact ((g3 t).1 hx).symm
    · have hx' : ∀ i, i < n → dstOf ops i ≠ some t := fun i hi he => hx ⟨i, hi, he⟩
      rw [(g3 t).2 hx']
      exact h.same t hx'
  have e2 : df = (putsOf ops vs a0 n).defers := h.defers.trans g1.symm
  cases hp : putsOf ops vs a0 n with
  | mk t' d' => rw [hp] at e1 e2; subst e1 e2; rfl

theorem least_ready {n size : Nat} (h1 : specB ops n size = true) {listed : Array Bool} (hs : listed.size = ops.size) (hn : n ≤ ops.size) : ∀ (i : Nat), i < n → listed.getD i true = false → Region.ready .any ops listed ≠ [] := by
  intro i
  induction i using Nat.strongRecOn with
  | _ i ih =>
    intro hi hu
    obtain ⟨o, ho, hlt⟩ := specB_lex h1 hi
    by_cases hall : ∀ e ∈ o.after, Region.binds .any e = true → listed.getD e.on false = true
    · intro hr
      have := (mem_ready (md := .any) (ops := ops) (listed := listed)).2 ⟨hu, o, ho, hall⟩
      rw [hr] at this; cases this
    · have hex : ∃ e, e ∈ o.after ∧ Region.binds .any e = true ∧ listed.getD e.on false ≠ true := by
        refine Classical.byContradiction fun hne => hall fun e he hb => ?_
        refine Classical.byContradiction fun hc => hne ⟨e, he, hb, hc⟩
      obtain ⟨e, he, hb, hc⟩ := hex
      have hl := hlt e he hb
      refine ih e.on hl (by omega) ?_
      exact getD_in (by omega) (by simpa using hc)

theorem wp_region_specs {id : Nat} {a0 : Act} {W0 : World} (hm : P.follows .mixedOrders = true) (n g : Nat) (hsz : ops.size = n + g)
    (h1 : specB ops n a0.tmps.size = true) (h2 : Region.sinkB .any ops n = true) (h3 : Region.chainB .any ops n = true) (hg : 0 < g) (hseq : Region.seqB .any ops g n (Array.replicate n true ++ Array.replicate g false) = true)
    (φ : Nat → Value → World → Prop) (G : World → World → Prop) (New : Nat → Value → World → Prop) (ψ : Nat → Nat → Value → Value → Prop) (hψ : ∀ i j v u w, i < n → j < n → i ≠ j → New i v w → φ j u w → ψ i j v u ∧ ψ j i u v) (hGr : G W0.drew W0.drew) (hGt : ∀ {w w' : World}, G W0.drew w → G w w' → G W0.drew w') (hmono : ∀ i v w w', i < n → φ i v w → G w w' → φ i v w')
    (hstep : ∀ i o, i < n → ops[i]? = some o → ∀ (a : Act) (w : World), G W0.drew w → (∀ t, notDst ops n t = true → a.eval (.tmp t) = a0.eval (.tmp t)) → (∀ j t, depB ops i j = true → dstOf ops j = some t → φ j (a.eval (.tmp t)) w) →
      ∀ K : Act → World → Prop, (∀ v w', φ i v w' → G w w' → New i v w → K (a.put o.dst v) w') → if Region.wanted o (yielded ops a.tmps) = true then Oper.wp P o a w K Q else K (a.put o.dst undef) w)
    (htail : ∀ vs w, G W0.drew w → (∀ i, i < n → φ i (vs i) w) → (∀ i j, i < n → j < n → i ≠ j → ψ i j (vs i) (vs j)) → wpList P ops Q (ops.toList.drop n) (putsOf ops vs a0 n) w) :
    (Code.region id ops true).wp P Q a0 W0 := by
  refine wp_region_any hm ?_
  have main : ∀ (f : Nat) (listed : Array Bool) (a : Act) (w : World), HeadInv .any ops n listed → Ag ops n a0 a → G W0.drew w → (∀ i t, i < n → listed.getD i false = true → dstOf ops i = some t → φ i (a.eval (.tmp t)) w) →
      (∀ i j t u, i < n → j < n → i ≠ j → listed.getD i false = true → listed.getD j false = true → dstOf ops i = some t → dstOf ops j = some u → ψ i j (a.eval (.tmp t)) (a.eval (.tmp u))) →
      ((List.range n).filter fun i => !listed.getD i false).length = f → wpAny P .any ops Q (f + g) listed a w := by
    intro f
    induction f with
    | zero =>
      intro listed a w inv hag hG hφ hps hf
      have hall : ∀ i, i < n → listed.getD i false = true := fun i hi => by
        have h0 := List.length_eq_zero_iff.1 hf
        have := (List.filter_eq_nil_iff.1 h0) i (List.mem_range.2 hi)
        simpa using this
      have hl : listed = Array.replicate n true ++ Array.replicate g false := by
        apply Array.ext
        · simp [inv.size, hsz]
        · intro i hi1 hi2
          by_cases hin : i < n
          · have := hall i hin
            rw [Array.getD_eq_getD_getElem?, Array.getElem?_eq_getElem hi1] at this
            rw [Array.getElem_append_left (by simpa using hin)]
            simpa using this
          · have := inv.tail i (by omega) (by rw [← inv.size]; exact hi1)
            rw [Array.getD_eq_getD_getElem?, Array.getElem?_eq_getElem hi1] at this
            rw [Array.getElem_append_right (by simpa using hin)]
            simpa using this
      have hdl : (ops.toList.drop n).length = g := by simp [hsz]
      have hvs : ∀ i t, i < n → dstOf ops i = some t → a.tmps[t]? = some ((fun i => match dstOf ops i with | some t => a.eval (.tmp t) | none => undef) i) := fun i t hi ht => by
        obtain ⟨t', ht', hlt, _⟩ := specB_dst h1 hi
        rw [ht] at ht'
        obtain rfl : t = t' := Option.some.inj ht'
        simp only [ht, Act.eval, Array.getD_eq_getD_getElem?]
        rw [Array.getElem?_eq_getElem (by rw [hag.size]; exact hlt)]
        rfl
      have he := hag.puts _ hvs
      have ht := htail (fun i => match dstOf ops i with | some t => a.eval (.tmp t) | none => undef) w hG (fun i hi => by
        obtain ⟨t', ht', _, _⟩ := specB_dst h1 hi
        simp only [ht']
        exact hφ i t' hi (hall i hi) ht') (fun i j hi hj hij => by
        obtain ⟨t', ht', _, _⟩ := specB_dst h1 hi
        obtain ⟨u', hu', _, _⟩ := specB_dst h1 hj
        simp only [ht', hu']
        exact hps i j t' u' hi hj hij (hall i hi) (hall j hj) ht' hu')
      rw [← he] at ht
      have := wpAny_of_seq (md := .any) (Q' := Q) (ops.toList.drop n) n listed a w (fun j => by simp [List.getElem?_drop]) (by rw [hdl, hl]; exact hseq) ht
      rw [Nat.zero_add]
      rwa [hdl] at this
    | succ f ih =>
      intro listed a w inv hag hG hφ hps hf
      have hex : ∃ i, i < n ∧ listed.getD i false = false := by
        refine Classical.byContradiction fun hne => ?_
        have : ((List.range n).filter fun i => !listed.getD i false) = [] := List.filter_eq_nil_iff.2 fun i hi => by
          cases hc : listed.getD i false with
          | true => simp
          | false => exact absurd ⟨i, List.mem_range.1 hi, hc⟩ hne
        rw [this] at hf; cases hf
      obtain ⟨i0, hi0, hu0⟩ := hex
      have hu0' := getD_in (by rw [inv.size]; omega) hu0
      rw [show f + 1 + g = (f + g) + 1 by omega]
      refine ⟨fun hr => absurd hr (least_ready h1 inv.size (by omega) i0 hi0 hu0'), fun i hi => ?_⟩
      have hin : i < n := by
        rcases Nat.lt_or_ge i n with h | h
        · exact h
        · exact absurd hi (tail_waits h2 h3 (by omega) inv _ i0 rfl hi0 hu0' i h)
      obtain ⟨hun, o, ho, hdeps⟩ := mem_ready.1 hi
      obtain ⟨t, ht, htl, hdist⟩ := specB_dst h1 hin
      have hod : o.dst = some t := by
        have := ht; unfold dstOf at this; rw [ho] at this; exact this
      refine wpOp_step ho (fun K hK => ?_)
      refine hstep i o hin ho a w hG (fun u hu => hag.eval u hu) (fun j u hj hd => ?_) K (fun v w' hv hg hnew => ?_)
      · unfold depB at hj
        rw [ho] at hj
        obtain ⟨e, he, hb⟩ := Array.any_eq_true'.1 hj
        simp only [Bool.and_eq_true, beq_iff_eq] at hb
        obtain ⟨o', ho', hlex⟩ := specB_lex h1 hin
        have : o' = o := Option.some.inj (ho'.symm.trans ho)
        subst this
        have hjn := hlex e he hb.1
        have := hdeps e he hb.1
        rw [hb.2] at this hjn
        exact hφ j u (by omega) this hd
      · rw [hod]
        have own : (a.put (some t) v).eval (.tmp t) = v := by
          simp only [Act.put, Act.eval, Array.getD_eq_getD_getElem?]
          rw [Array.getElem?_setIfInBounds_self_of_lt (by rw [hag.size]; exact htl)]
          rfl
        have oth : ∀ j u, j < n → i ≠ j → dstOf ops j = some u → (a.put (some t) v).eval (.tmp u) = a.eval (.tmp u) := fun j u hj hij hd => by
          have hne : t ≠ u := fun e => hdist j hj hij (by rw [hd, e])
          simp only [Act.put, Act.eval, Array.getD_eq_getD_getElem?]
          rw [Array.getElem?_setIfInBounds_ne hne]
        refine hK _ _ (ih _ _ _ (inv.set hi hin) (hag.put hin ht v) (hGt hG hg) (fun j u hj hl hd => ?_) (fun j k u x hj hk hjk hl hl2 hd hd2 => ?_) ?_)
        · by_cases hij : i = j
          · subst hij
            obtain rfl : t = u := Option.some.inj (ht.symm.trans hd)
            rw [own]; exact hv
          · rw [oth j u hj hij hd]
            rw [getD_set_ne false hij] at hl
            exact hmono j _ _ _ hj (hφ j u hj hl hd) hg
        · by_cases hij : i = j
          · subst hij
            obtain rfl : t = u := Option.some.inj (ht.symm.trans hd)
            rw [own, oth k x hk hjk hd2]
            rw [getD_set_ne false hjk] at hl2
            exact (hψ i k _ _ w hj hk hjk hnew (hφ k x hk hl2 hd2)).1
          · by_cases hik : i = k
            · subst hik
              obtain rfl : t = x := Option.some.inj (ht.symm.trans hd2)
              rw [own, oth j u hj hij hd]
              rw [getD_set_ne false hij] at hl
              exact (hψ i j _ _ w hk hj hij hnew (hφ j u hj hl hd)).2
            · rw [oth j u hj hij hd, oth k x hk hik hd2]
              rw [getD_set_ne false hij] at hl
              rw [getD_set_ne false hik] at hl2
              exact hps j k u x hj hk hjk hl hl2 hd hd2
        · have hset : ∀ k, (listed.setIfInBounds i true).getD k false = if k = i then true else listed.getD k false := fun k => by
            by_cases hk : k = i
            · subst hk
              rw [if_pos rfl, Array.getD_eq_getD_getElem?, Array.getElem?_setIfInBounds_self_of_lt (by rw [inv.size]; omega)]
              rfl
            · rw [if_neg hk, getD_set_ne false (Ne.symm hk)]
          have hiu : listed.getD i false = false := getD_both hun
          have hcount : ∀ m, ((List.range m).filter fun k => !listed.getD k false).length = ((List.range m).filter fun k => !(listed.setIfInBounds i true).getD k false).length + (if i < m then 1 else 0) := by
            intro m
            induction m with
            | zero => simp
            | succ m ihm =>
              rw [List.range_succ, List.filter_append, List.filter_append, List.length_append, List.length_append, ihm]
              have sing : ∀ q : Nat → Bool, (List.filter q [m]).length = if q m = true then 1 else 0 := fun q => by
                cases hq : q m with
                | true => rw [List.filter_cons_of_pos hq]; rfl
                | false => rw [List.filter_cons_of_neg (by rw [hq]; simp)]; rfl
              rw [sing, sing, hset]
              by_cases hmi : m = i
              · subst hmi
                rw [hiu, if_pos rfl]
                simp
              · rw [if_neg hmi]
                have e3 : (if i < m + 1 then 1 else 0) = (if i < m then 1 else 0 : Nat) := by
                  by_cases h : i < m
                  · rw [if_pos h, if_pos (by omega)]
                  · rw [if_neg h, if_neg (by omega)]
                rw [e3]
                omega
          have := hcount n
          rw [if_pos hin] at this
          omega
  have inv0 : HeadInv .any ops n (Array.replicate ops.size false) :=
    ⟨by simp, fun j oj _ hl => (by rw [getD_replicate_false] at hl; cases hl), fun t _ ht => getD_in (by simpa using ht) (getD_replicate_false _ _)⟩
  have h0 := main n (Array.replicate ops.size false) a0 W0.drew inv0 ⟨rfl, rfl, fun _ _ => rfl⟩ hGr (fun i t _ hl => by rw [getD_replicate_false] at hl; cases hl) (fun i j t u _ _ _ hl => by rw [getD_replicate_false] at hl; cases hl) (by
    have : ((List.range n).filter fun i => !(Array.replicate ops.size false).getD i false) = List.range n := List.filter_eq_self.2 fun i _ => by rw [getD_replicate_false]; rfl
    rw [this, List.length_range])
  rw [← hsz] at h0
  exact h0
end

end Go.Proofs.YthamligdmfhmeaaDoor
