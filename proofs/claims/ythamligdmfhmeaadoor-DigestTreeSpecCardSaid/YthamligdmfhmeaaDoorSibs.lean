/- Contract of siblings; append of digests at a step of a region that draws its order. -/
import Derived.Test.YthamligdmfhmeaaDoorOf
namespace Go.Proofs.YthamligdmfhmeaaDoor
open Go.RowKit

theorem run_digs {w : World} (base : Nat) (v : Value) (n : Nat) (ds : List (List UInt8)) (hown : w.ownsRow base 24 32 v n (bytes ds.flatten)) (A : Option Addr) (m c : Nat) (es : List (List UInt8))
    (hm : es.length = m) (hy : DigsAt w A es) (hn : n + m ≤ 2199023255552) (hb : base ≤ w.heap.size) (ty : TypeId) :
    ∃ v' w', (Builtin.append_ #[26, 26] ty #[v, .slice A m c]).run Tryd.prog w = .ok v' w' ∧ w'.ownsRow base 24 32 v' (n + m) (bytes (ds ++ es).flatten) ∧ Below base w w' := by
  obtain ⟨i0, hi, hz0, hz1, hz2⟩ := info_parts infoDig
  have hfl := H.flat_len hy.1
  cases A with
  | none =>
    have hy0 : es = [] := by
      rcases Nat.eq_zero_or_pos es.length with h0 | h0
      · exact List.length_eq_zero_iff.1 h0
      · obtain ⟨ad, ha, _⟩ := hy.2 0 (by rw [hfl]; omega); simp at ha
    subst hy0
    obtain rfl : m = 0 := by simpa using hm.symm
    refine ⟨v, w, ?_, by simpa using hown, Below.refl _ _⟩
    rcases hown.2 with ⟨rfl, rfl⟩ | ⟨g, cap, cur, rfl, _, _, hnc, _⟩
    · simp [Builtin.append_, run_underlying Tryd.underlying26, sizeOf, typeInfo, hi, Builtin.lenOf, Builtin.firstCells]
    · simp [Builtin.append_, run_underlying Tryd.underlying26, sizeOf, typeInfo, hi, Builtin.lenOf, Builtin.firstCells, hnc, storeCells]
  | some ad =>
    obtain ⟨v', w', hr, h2, h3, _, _⟩ := run_append_own_at (P := Tryd.prog) (w := w) base 26 ty 24 i0 _ 32 32 Tryd.underlying26 hi hz0 hz1 hz2 (by rfl) (by decide) v n (bytes ds.flatten) hown ad m c (bytes es.flatten) (by rw [bytes_len, hfl, hm, Nat.mul_comm]) (fun j u hj => by
      have hjl : j < es.flatten.length := by have := (List.getElem?_eq_some_iff.1 hj).1; rwa [bytes_len] at this
      obtain ⟨ad', ha, hc⟩ := hy.2 j hjl
      simp only [Option.some.injEq] at ha
      subst ha
      rw [hc]
      rw [bytes, List.getElem?_map, List.getElem?_eq_getElem hjl] at hj
      rw [← hj]; rfl) (bytes_cells _) (by unfold maxLen; omega) (by omega) hb
    refine ⟨v', w', hr, by rw [List.flatten_append, bytes_append]; exact h2, h3.os, h3.tape, h3.output, h3.size, fun k hk => h3.block k (by omega) fun hv => ?_⟩
    rcases hown.2 with ⟨hu, _⟩ | ⟨g, c1, cur, hu, hgb, _⟩
    · rw [hu] at hv; simp [Value.ownBlock] at hv
    · rw [hu] at hv; simp [Value.ownBlock] at hv; omega

theorem step_digs {ops : Array Oper} {o : Oper} {a : Act} {K : Act → World → Prop} {Q : Exit → Act → World → Prop} {E : Prop} {w : World} (hgd : o.guard = none) (s x : Operand)
    (ho : o.op = .call { callee := .builtin .append, args := #[s, x], argTypes := #[26, 26] })
    (base : Nat) (v : Value) (n : Nat) (ds : List (List UInt8)) (hs : a.eval s = v) (hown : w.ownsRow base 24 32 v n (bytes ds.flatten)) (A : Option Addr) (m c : Nat) (es : List (List UInt8))
    (hx : a.eval x = .slice A m c) (hd : ∀ d ∈ ds, d.length = 32) (hm : es.length = m) (hy : DigsAt w A es) (hn : n + m ≤ 2199023255552) (hb : base ≤ w.heap.size)
    (h : ∀ A' c' w', w'.ownsRow base 24 32 (.slice A' (n + m) c') (n + m) (bytes (ds ++ es).flatten) → Below base w w' → K (a.put o.dst (.slice A' (n + m) c')) w') :
    if Region.wanted o (yielded ops a.tmps) = true then Oper.wp Tryd.prog o a w K Q else E := by
  obtain ⟨v', w', hr, h2, h3⟩ := run_digs base v n ds hown A m c es hm hy hn hb o.type
  have hw : Region.wanted o (yielded ops a.tmps) = true := by simp [Region.wanted, hgd]
  rw [if_pos hw]
  obtain ⟨A', c', rfl, _, _⟩ := owns_digs h2 (fun d hh => by
    rcases List.mem_append.1 hh with hh | hh
    · exact hd d hh
    · exact hy.1 d hh)
  unfold Oper.wp execOp
  simp only [ho, resolve, invoke, builtin, Sem.run_bind, Sem.run_pure, Result.andThen_ok, List.map_toArray, List.map_cons, List.map_nil, hs, hx, hr]
  exact h A' c' w' h2 h3

/-- '[]Digest{d}'. -/
theorem run_one {d : List UInt8} (hd : d.length = 32) (W : World) : (Instr.buildSlice 26 1 #[(0, .agg (byts d))]).run Tryd.prog W = .ok (.slice (some ⟨W.heap.size, 0, none⟩) 1 1) (W.alloc (.cells (byts d) 24)) := by
  obtain ⟨i0, hi0, hz0, hz1, hz2⟩ := info_parts infoDig
  refine run_buildSlice (P := Tryd.prog) W 26 24 1 _ (byts d) i0 _ Tryd.underlying26 hi0 hz0 (by rw [hz1]; decide) (by rw [hz1]; decide) ?_
  rw [hz1]
  exact fill_one hd _ (by rw [Array.size_map, Array.size_range])
theorem fold_one {d : List UInt8} (hd : d.length = 32) : Array.foldl (fun (cs : Array Value) (x : Value × Nat) => cs.setIfInBounds x.snd x.fst) #[.int .u8 0, .int .u8 0, .int .u8 0, .int .u8 0, .int .u8 0, .int .u8 0, .int .u8 0, .int .u8 0, .int .u8 0, .int .u8 0, .int .u8 0, .int .u8 0, .int .u8 0, .int .u8 0, .int .u8 0, .int .u8 0, .int .u8 0, .int .u8 0, .int .u8 0, .int .u8 0, .int .u8 0, .int .u8 0, .int .u8 0, .int .u8 0, .int .u8 0, .int .u8 0, .int .u8 0, .int .u8 0, .int .u8 0, .int .u8 0, .int .u8 0, .int .u8 0] (byts d).zipIdx 0 32 = byts d := by
  have hs : (byts d).size = 32 := by rw [byts_size, hd]
  have h := fill_one hd #[.int .u8 0, .int .u8 0, .int .u8 0, .int .u8 0, .int .u8 0, .int .u8 0, .int .u8 0, .int .u8 0, .int .u8 0, .int .u8 0, .int .u8 0, .int .u8 0, .int .u8 0, .int .u8 0, .int .u8 0, .int .u8 0, .int .u8 0, .int .u8 0, .int .u8 0, .int .u8 0, .int .u8 0, .int .u8 0, .int .u8 0, .int .u8 0, .int .u8 0, .int .u8 0, .int .u8 0, .int .u8 0, .int .u8 0, .int .u8 0, .int .u8 0, .int .u8 0] rfl
  simpa [Instr.fill, Value.cells, hs] using h
theorem digs_one {d : List UInt8} (hd : d.length = 32) (W : World) : DigsAt (W.alloc (.cells (byts d) 24)) (some ⟨W.heap.size, 0, none⟩) [d] :=
  ⟨fun d' h => by rw [List.mem_singleton.1 h]; exact hd, by simpa using (Dig.new W hd).bytes⟩

namespace H
/-- The path of an element, from the leaf to the root. -/
def sibsF : Nat → List (List UInt8) → Nat → List (List UInt8)
  | 0, _, _ => []
  | f + 1, l, i => if l.length ≤ 1 then [] else if i < split l.length then sibsF f (l.take (split l.length)) i ++ [tree (l.drop (split l.length))] else sibsF f (l.drop (split l.length)) (i - split l.length) ++ [tree (l.take (split l.length))]
theorem sibsF_len : ∀ f l i, ∀ d ∈ sibsF f l i, d.length = 32
  | 0, _, _ => fun d h => by simp [sibsF] at h
  | f + 1, l, i => fun d h => by
    unfold sibsF at h
    split at h
    · simp at h
    · split at h
      · rcases List.mem_append.1 h with h | h
        · exact sibsF_len f _ _ d h
        · rw [List.mem_singleton.1 h]; exact tree_len _
      · rcases List.mem_append.1 h with h | h
        · exact sibsF_len f _ _ d h
        · rw [List.mem_singleton.1 h]; exact tree_len _
theorem sibsF_short : ∀ f l i, (sibsF f l i).length ≤ f
  | 0, _, _ => by simp [sibsF]
  | f + 1, l, i => by
    unfold sibsF
    split
    · simp
    · split
      · have := sibsF_short f (l.take (split l.length)) i
        simp only [List.length_append, List.length_singleton]; omega
      · have := sibsF_short f (l.drop (split l.length)) (i - split l.length)
        simp only [List.length_append, List.length_singleton]; omega
theorem sibsF_one (f : Nat) (l : List (List UInt8)) (i : Nat) (h : l.length ≤ 1) : sibsF (f + 1) l i = [] := by rw [sibsF, if_pos h]
theorem sibsF_left {f : Nat} {l : List (List UInt8)} {i k : Nat} (h : 2 ≤ l.length) (hk : split l.length = k) (hi : i < k) : sibsF (f + 1) l i = sibsF f (l.take k) i ++ [tree (l.drop k)] := by
  subst hk; rw [sibsF, if_neg (by omega), if_pos hi]
theorem sibsF_right {f : Nat} {l : List (List UInt8)} {i k : Nat} (h : 2 ≤ l.length) (hk : split l.length = k) (hi : ¬ i < k) : sibsF (f + 1) l i = sibsF f (l.drop k) (i - k) ++ [tree (l.take k)] := by
  subst hk; rw [sibsF, if_neg (by omega), if_neg hi]
end H

/-- What siblings hands back. -/
def SibPost (w : World) (ss : List (List UInt8)) (e : Ending) (w' : World) : Prop :=
  ∃ A p c, e = .returned (.slice A p c) ∧ ss.length = p ∧ w'.ownsRow w.heap.size 24 32 (.slice A p c) p (bytes ss.flatten) ∧ Below w.heap.size w w'

set_option maxRecDepth 100000 in
set_option maxHeartbeats 2000000 in
theorem sibs_step (m : Nat) (ih : ∀ (a : Option Addr) (n cap i : Nat) (ds : List (List UInt8)) (w : World), (1 ≤ n ∧ n ≤ m) → KT w → ds.length = n → n ≤ cap → n ≤ 1099511627776 → i < n → DigsAt w a ds →
      Calls Tryd.prog 25 #[.slice a n cap, .int .i64 i] w (SibPost w (H.sibsF m ds i)))
    (a : Option Addr) (n cap i : Nat) (ds : List (List UInt8)) (w : World) (h1n : 1 ≤ n) (hnm : n ≤ m + 1) (hm : m ≤ 1099511627776) (hK : KT w) (hn : ds.length = n) (hcap : n ≤ cap) (hl : n ≤ 1099511627776) (hin : i < n) (hd : DigsAt w a ds) :
    Calls Tryd.prog 25 #[.slice a n cap, .int .i64 i] w (SibPost w (H.sibsF (m + 1) ds i)) := by
  have IH := Lib.hid ih
  have HK := Lib.hid hK; have HN := Lib.hid hn; have HDS := Lib.hid hd
  clear ih hK hn hd
  have h0 : n = 1 ∨ 2 ≤ n := by omega
  rcases h0 with rfl | h2
  · rw [H.sibsF_one _ _ _ (by rw [HN.out]; omega)]
    go_enter Tryd.func25, Tryd.ntmps25
    go_wp2_with fail
    go_ret
    exact ⟨none, 0, 0, rfl, rfl, ⟨rfl, .inl ⟨rfl, rfl⟩⟩, Below.refl _ _⟩
  obtain ⟨hb1, hs1, hs2⟩ := H.split_bounds h2 hl
  have hsp := H.split_pos n
  have HS := Lib.hid (split_any n w h2 hl)
  obtain ⟨k, hk⟩ : ∃ k, H.split n = k := ⟨_, rfl⟩
  have hkk : H.split ds.length = k := by rw [HN.out]; exact hk
  rw [hk] at HS hs1 hs2 hsp
  have hk1 : k < n := by omega
  have hhead := digs_head a n cap k (by omega) hcap
  obtain ⟨a', c', htail, hc', hda'⟩ := digs_tail a n cap k (by omega) hcap ds HN.out
  have HTL := Lib.hid hda'
  have hdn : DigsAt w.drew a ds := HDS.out.kept (Below.refl _ _).drew
  have hKd : KT w.drew := HK.out.kept (Below.refl w.heap.size w).drew HK.out.pos
  by_cases hik : i < k
  · obtain ⟨ss, hss⟩ : ∃ ss, H.sibsF m (ds.take k) i = ss := ⟨_, rfl⟩
    obtain ⟨t, ht⟩ : ∃ t, H.tree (ds.drop k) = t := ⟨_, rfl⟩
    have htl : t.length = 32 := by rw [← ht]; exact H.tree_len _
    have hsl : ∀ d ∈ ss, d.length = 32 := by rw [← hss]; exact H.sibsF_len _ _ _
    have hsn : ss.length ≤ m := by rw [← hss]; exact H.sibsF_short _ _ _
    rw [H.sibsF_left (by rw [HN.out]; exact h2) hkk hik, hss, ht]
    have H1 : Hid (Calls Tryd.prog 25 #[.slice a k cap, .int .i64 i] w.drew fun e w3 => ∃ A p c, e = .returned (.slice A p c) ∧ Hid (ss.length = p ∧ w3.ownsRow w.heap.size 24 32 (.slice A p c) p (bytes ss.flatten) ∧ Below w.heap.size w w3)) := Lib.hid (by
      refine (IH.out a k cap i (ds.take k) w.drew ⟨by omega, by omega⟩ hKd (by rw [List.length_take, HN.out]; omega) (by omega) (by omega) hik (hdn.take k)).mono ?_
      rintro e w3 ⟨A, p, c, rfl, h3, h4, h5⟩
      rw [hss] at h3 h4
      exact ⟨A, p, c, rfl, Lib.hid ⟨h3, h4, (Below.refl _ _).drew.trans h5⟩⟩)
    have H2 : Hid (∀ V, Below w.heap.size w V → Calls Tryd.prog 8 #[.slice a' (n - k) c'] V fun e w' => e = .returned (.agg (byts t)) ∧ Hid (Below w.heap.size w w' ∧ Below V.heap.size V w')) := Lib.hid (fun V hV => by
      refine (tree_all (n - k) a' (n - k) c' (ds.drop k) V (Nat.le_refl _) (HK.out.kept hV HK.out.pos) (by rw [List.length_drop, HN.out]) hc' (by omega) (HTL.out V (HDS.out.kept hV))).mono ?_
      rintro e w' ⟨rfl, hb⟩
      exact ⟨by rw [ht], Lib.hid ⟨hV.trans (hb.mono hV.size), hb⟩⟩)
    have HSS := Lib.hid (And.intro hsl (And.intro hsn htl))
    have hone := fold_one htl
    have hts : (byts t).size = 32 := by rw [byts_size, htl]
    clear hss ht htl hsl hsn hkk hk hda' hdn hKd hb1 hs1 hs2
    go_enter Tryd.func25, Tryd.ntmps25
    go_wp2_with (go_at_call 20; (with_reducible refine HS.out.mono ?_); rintro e w1 ⟨rfl, rfl⟩)
    go_region_held3 (fun _ => True) (trivial) (first
      | (go_at_call 25; refine H1.out.mono ?_; rintro e w3 ⟨A, p, c, rfl, HX⟩; clear H1)
      | (go_at_call 8; refine (H2.out _ HX.out.2.2).mono ?_; rintro e w4 ⟨rfl, HY⟩; clear H2)
      | (refine step_digs rfl _ _ (by rfl) w.heap.size _ p ss (by rfl) (owns_kept (owns_kept HX.out.2.1 HY.out.2) ((Below.refl _ _).alloc (Nat.le_refl _) _)) (some ⟨w4.heap.size, 0, none⟩) 1 1 [t] (by rfl) HSS.out.1 rfl (digs_one HSS.out.2.2 _) (by have := HSS.out.2.1; have := HX.out.1; omega) (HY.out.1.alloc HY.out.1.size _).size ?_; intro A' c' w5 ho hb; have HZ := Lib.hid (And.intro ho ((HY.out.1.alloc HY.out.1.size _).trans hb)); clear ho hb))
    all_goals
      go_wp2_with fail
      go_ret
      exact ⟨_, p + 1, _, rfl, by rw [List.length_append, HX.out.1]; rfl, HZ.out.1, HZ.out.2⟩
  · obtain ⟨ss, hss⟩ : ∃ ss, H.sibsF m (ds.drop k) (i - k) = ss := ⟨_, rfl⟩
    obtain ⟨t, ht⟩ : ∃ t, H.tree (ds.take k) = t := ⟨_, rfl⟩
    have htl : t.length = 32 := by rw [← ht]; exact H.tree_len _
    have hsl : ∀ d ∈ ss, d.length = 32 := by rw [← hss]; exact H.sibsF_len _ _ _
    have hsn : ss.length ≤ m := by rw [← hss]; exact H.sibsF_short _ _ _
    rw [H.sibsF_right (by rw [HN.out]; exact h2) hkk hik, hss, ht]
    have hsub : ((i - k : Nat) : Int) = (i : Int) - (k : Int) := by omega
    have H1 : Hid (Calls Tryd.prog 25 #[.slice a' (n - k) c', .int .i64 ((i : Int) - (k : Int))] w.drew fun e w3 => ∃ A p c, e = .returned (.slice A p c) ∧ Hid (ss.length = p ∧ w3.ownsRow w.heap.size 24 32 (.slice A p c) p (bytes ss.flatten) ∧ Below w.heap.size w w3)) := Lib.hid (by
      rw [← hsub]
      refine (IH.out a' (n - k) c' (i - k) (ds.drop k) w.drew ⟨by omega, by omega⟩ hKd (by rw [List.length_drop, HN.out]) hc' (by omega) (by omega) (HTL.out _ hdn)).mono ?_
      rintro e w3 ⟨A, p, c, rfl, h3, h4, h5⟩
      rw [hss] at h3 h4
      exact ⟨A, p, c, rfl, Lib.hid ⟨h3, h4, (Below.refl _ _).drew.trans h5⟩⟩)
    have H2 : Hid (∀ V, Below w.heap.size w V → Calls Tryd.prog 8 #[.slice a k cap] V fun e w' => e = .returned (.agg (byts t)) ∧ Hid (Below w.heap.size w w' ∧ Below V.heap.size V w')) := Lib.hid (fun V hV => by
      refine (tree_all k a k cap (ds.take k) V (Nat.le_refl _) (HK.out.kept hV HK.out.pos) (by rw [List.length_take, HN.out]; omega) (by omega) (by omega) ((HDS.out.kept hV).take k)).mono ?_
      rintro e w' ⟨rfl, hb⟩
      exact ⟨by rw [ht], Lib.hid ⟨hV.trans (hb.mono hV.size), hb⟩⟩)
    have HSS := Lib.hid (And.intro hsl (And.intro hsn htl))
    have hone := fold_one htl
    have hts : (byts t).size = 32 := by rw [byts_size, htl]
    have hki : ¬ (i : Int) < (k : Int) := by omega
    have hwr : IntKind.i64.wrap ((i : Int) - (k : Int)) = (i : Int) - (k : Int) := by rw [IntKind.wrap_i64]; omega
    clear hsub
    clear hss ht htl hsl hsn hkk hk hda' hdn hKd hb1 hs1 hs2
    go_enter Tryd.func25, Tryd.ntmps25
    go_wp2_with (go_at_call 20; (with_reducible refine HS.out.mono ?_); rintro e w1 ⟨rfl, rfl⟩)
    go_region_held3 (fun _ => True) (trivial) (first
      | (go_at_call 25; refine H1.out.mono ?_; rintro e w3 ⟨A, p, c, rfl, HX⟩; clear H1)
      | (go_at_call 8; refine (H2.out _ HX.out.2.2).mono ?_; rintro e w4 ⟨rfl, HY⟩; clear H2)
      | (refine step_digs rfl _ _ (by rfl) w.heap.size _ p ss (by rfl) (owns_kept (owns_kept HX.out.2.1 HY.out.2) ((Below.refl _ _).alloc (Nat.le_refl _) _)) (some ⟨w4.heap.size, 0, none⟩) 1 1 [t] (by rfl) HSS.out.1 rfl (digs_one HSS.out.2.2 _) (by have := HSS.out.2.1; have := HX.out.1; omega) (HY.out.1.alloc HY.out.1.size _).size ?_; intro A' c' w5 ho hb; have HZ := Lib.hid (And.intro ho ((HY.out.1.alloc HY.out.1.size _).trans hb)); clear ho hb))
    all_goals
      go_wp2_with fail
      go_ret
      exact ⟨_, p + 1, _, rfl, by rw [List.length_append, HX.out.1]; rfl, HZ.out.1, HZ.out.2⟩

theorem sibs_all : ∀ (m : Nat) (a : Option Addr) (n cap i : Nat) (ds : List (List UInt8)) (w : World), 1 ≤ n → n ≤ m → m ≤ 1099511627776 → KT w → ds.length = n → n ≤ cap → i < n → DigsAt w a ds →
      Calls Tryd.prog 25 #[.slice a n cap, .int .i64 i] w (SibPost w (H.sibsF m ds i))
  | 0, a, n, cap, i, ds, w, h1, h2, hm, hK, hn, hcap, hi, hd => absurd h2 (by omega)
  | m + 1, a, n, cap, i, ds, w, h1, h2, hm, hK, hn, hcap, hi, hd =>
    sibs_step m (fun a n cap i ds w h hK hn hc _ hi hd => sibs_all m a n cap i ds w h.1 h.2 (by omega) hK hn hc hi hd) a n cap i ds w h1 h2 (by omega) hK hn hcap (by omega) hi hd

end Go.Proofs.YthamligdmfhmeaaDoor
