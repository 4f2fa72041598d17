/- Contract of the reference's path. -/
import Derived.Test.YthamligdmfhmeaaDoorRTree
import Derived.Test.YthamligdmfhmeaaDoorSibs
namespace Go.Proofs.YthamligdmfhmeaaDoor
open Go.RowKit

set_option maxRecDepth 100000 in
set_option maxHeartbeats 2000000 in
theorem rpath_step (m : Nat) (ih : ∀ (a : Option Addr) (n cap i : Nat) (ds : List (List UInt8)) (w : World), (1 ≤ n ∧ n ≤ m) → KT w → ds.length = n → n ≤ cap → n ≤ 1099511627776 → i < n → DigsAt w a ds →
      Calls Tryd.prog 26 #[.slice a n cap, .int .i64 i] w (SibPost w (H.sibsF m ds i)))
    (a : Option Addr) (n cap i : Nat) (ds : List (List UInt8)) (w : World) (h1n : 1 ≤ n) (hnm : n ≤ m + 1) (hm : m ≤ 1099511627776) (hK : KT w) (hn : ds.length = n) (hcap : n ≤ cap) (hl : n ≤ 1099511627776) (hin : i < n) (hd : DigsAt w a ds) :
    Calls Tryd.prog 26 #[.slice a n cap, .int .i64 i] w (SibPost w (H.sibsF (m + 1) ds i)) := by
  have IH := Lib.hid ih
  have HK := Lib.hid hK; have HN := Lib.hid hn; have HDS := Lib.hid hd
  clear ih hK hn hd
  have h0 : n = 1 ∨ 2 ≤ n := by omega
  rcases h0 with rfl | h2
  · rw [H.sibsF_one _ _ _ (by rw [HN.out]; omega)]
    go_enter Tryd.func26, Tryd.ntmps26
    go_wp2_with fail
    go_ret
    exact ⟨some ⟨w.heap.size, 0, none⟩, 0, 0, rfl, rfl, ⟨rfl, .inr ⟨w.heap.size, 0, #[], rfl, Nat.le_refl _, heap_alloc_new w _, Nat.le_refl _, by decide, rfl, rfl⟩⟩, (Below.refl _ _).alloc (Nat.le_refl _) _⟩
  obtain ⟨hb1, hs1, hs2⟩ := H.split_bounds h2 hl
  have hsp := H.split_pos n
  have HS := Lib.hid (rhalf_any n w h2 hl)
  obtain ⟨k, hk⟩ : ∃ k, H.split n = k := ⟨_, rfl⟩
  have hkk : H.split ds.length = k := by rw [HN.out]; exact hk
  rw [hk] at HS hs1 hs2 hsp
  have hk1 : k < n := by omega
  have hhead := digs_head a n cap k (by omega) hcap
  obtain ⟨a', c', htail, hc', hda'⟩ := digs_tail a n cap k (by omega) hcap ds HN.out
  have HTL := Lib.hid hda'
  have hdn : DigsAt w.drew a ds := HDS.out.kept (Below.refl _ _).drew
  have hKd : KT w.drew := HK.out.kept (Below.refl w.heap.size w).drew HK.out.pos
  by_cases hik : i < k
  · obtain ⟨ss, hss⟩ : ∃ ss, H.sibsF m (ds.take k) i = ss := ⟨_, rfl⟩
    obtain ⟨t, ht⟩ : ∃ t, H.tree (ds.drop k) = t := ⟨_, rfl⟩
    have htl : t.length = 32 := by rw [← ht]; exact H.tree_len _
    have hsl : ∀ d ∈ ss, d.length = 32 := by rw [← hss]; exact H.sibsF_len _ _ _
    have hsn : ss.length ≤ m := by rw [← hss]; exact H.sibsF_short _ _ _
    rw [H.sibsF_left (by rw [HN.out]; exact h2) hkk hik, hss, ht]
    have H1 : Hid (Calls Tryd.prog 26 #[.slice a k cap, .int .i64 i] w.drew fun e w3 => ∃ A p c, e = .returned (.slice A p c) ∧ Hid (ss.length = p ∧ w3.ownsRow w.heap.size 24 32 (.slice A p c) p (bytes ss.flatten) ∧ Below w.heap.size w w3)) := Lib.hid (by
      refine (IH.out a k cap i (ds.take k) w.drew ⟨by omega, by omega⟩ hKd (by rw [List.length_take, HN.out]; omega) (by omega) (by omega) hik (hdn.take k)).mono ?_
      rintro e w3 ⟨A, p, c, rfl, h3, h4, h5⟩
      rw [hss] at h3 h4
      exact ⟨A, p, c, rfl, Lib.hid ⟨h3, h4, (Below.refl _ _).drew.trans h5⟩⟩)
    have H2 : Hid (∀ V, Below w.heap.size w V → Calls Tryd.prog 9 #[.slice a' (n - k) c'] V fun e w' => e = .returned (.agg (byts t)) ∧ Hid (Below w.heap.size w w' ∧ Below V.heap.size V w')) := Lib.hid (fun V hV => by
      refine (rtree_all (n - k) a' (n - k) c' (ds.drop k) V (Nat.le_refl _) (HK.out.kept hV HK.out.pos) (by rw [List.length_drop, HN.out]) hc' (by omega) (HTL.out V (HDS.out.kept hV))).mono ?_
      rintro e w' ⟨rfl, hb⟩
      exact ⟨by rw [ht], Lib.hid ⟨hV.trans (hb.mono hV.size), hb⟩⟩)
    have HSS := Lib.hid (And.intro hsl (And.intro hsn htl))
    have hone := fold_one htl
    have hts : (byts t).size = 32 := by rw [byts_size, htl]
    clear hss ht htl hsl hsn hkk hk hda' hdn hKd hb1 hs1 hs2
    go_enter Tryd.func26, Tryd.ntmps26
    go_wp2_with (go_at_call 23; (with_reducible refine HS.out.mono ?_); rintro e w1 ⟨rfl, rfl⟩)
    go_region_held3 (fun _ => True) (trivial) (first
      | (go_at_call 26; refine H1.out.mono ?_; rintro e w3 ⟨A, p, c, rfl, HX⟩; clear H1)
      | (go_at_call 9; refine (H2.out _ HX.out.2.2).mono ?_; rintro e w4 ⟨rfl, HY⟩; clear H2)
      | (refine step_digs rfl _ _ (by rfl) w.heap.size _ p ss (by rfl) (owns_kept (owns_kept HX.out.2.1 HY.out.2) ((Below.refl _ _).alloc (Nat.le_refl _) _)) (some ⟨w4.heap.size, 0, none⟩) 1 1 [t] (by rfl) HSS.out.1 rfl (digs_one HSS.out.2.2 _) (by have := HSS.out.2.1; have := HX.out.1; omega) (HY.out.1.alloc HY.out.1.size _).size ?_; intro A' c' w5 ho hb; have HZ := Lib.hid (And.intro ho ((HY.out.1.alloc HY.out.1.size _).trans hb)); clear ho hb))
    all_goals
      go_wp2_with fail
      go_ret
      exact ⟨_, p + 1, _, rfl, by rw [List.length_append, HX.out.1]; rfl, HZ.out.1, HZ.out.2⟩
  · obtain ⟨ss, hss⟩ : ∃ ss, H.sibsF m (ds.drop k) (i - k) = ss := ⟨_, rfl⟩
    obtain ⟨t, ht⟩ : ∃ t, H.tree (ds.take k) = t := ⟨_, rfl⟩
    have htl : t.length = 32 := by rw [← ht]; exact H.tree_len _
    have hsl : ∀ d ∈ ss, d.length = 32 := by rw [← hss]; exact H.sibsF_len _ _ _
    have hsn : ss.length ≤ m := by rw [← hss]; exact H.sibsF_short _ _ _
    rw [H.sibsF_right (by rw [HN.out]; exact h2) hkk hik, hss, ht]
    have hsub : ((i - k : Nat) : Int) = (i : Int) - (k : Int) := by omega
    have H1 : Hid (Calls Tryd.prog 26 #[.slice a' (n - k) c', .int .i64 ((i : Int) - (k : Int))] w.drew fun e w3 => ∃ A p c, e = .returned (.slice A p c) ∧ Hid (ss.length = p ∧ w3.ownsRow w.heap.size 24 32 (.slice A p c) p (bytes ss.flatten) ∧ Below w.heap.size w w3)) := Lib.hid (by
      rw [← hsub]
      refine (IH.out a' (n - k) c' (i - k) (ds.drop k) w.drew ⟨by omega, by omega⟩ hKd (by rw [List.length_drop, HN.out]) hc' (by omega) (by omega) (HTL.out _ hdn)).mono ?_
      rintro e w3 ⟨A, p, c, rfl, h3, h4, h5⟩
      rw [hss] at h3 h4
      exact ⟨A, p, c, rfl, Lib.hid ⟨h3, h4, (Below.refl _ _).drew.trans h5⟩⟩)
    have H2 : Hid (∀ V, Below w.heap.size w V → Calls Tryd.prog 9 #[.slice a k cap] V fun e w' => e = .returned (.agg (byts t)) ∧ Hid (Below w.heap.size w w' ∧ Below V.heap.size V w')) := Lib.hid (fun V hV => by
      refine (rtree_all k a k cap (ds.take k) V (Nat.le_refl _) (HK.out.kept hV HK.out.pos) (by rw [List.length_take, HN.out]; omega) (by omega) (by omega) ((HDS.out.kept hV).take k)).mono ?_
      rintro e w' ⟨rfl, hb⟩
      exact ⟨by rw [ht], Lib.hid ⟨hV.trans (hb.mono hV.size), hb⟩⟩)
    have HSS := Lib.hid (And.intro hsl (And.intro hsn htl))
    have hone := fold_one htl
    have hts : (byts t).size = 32 := by rw [byts_size, htl]
    have hki : ¬ (i : Int) < (k : Int) := by omega
    have hwr : IntKind.i64.wrap ((i : Int) - (k : Int)) = (i : Int) - (k : Int) := by rw [IntKind.wrap_i64]; omega
    clear hsub
    clear hss ht htl hsl hsn hkk hk hda' hdn hKd hb1 hs1 hs2
    go_enter Tryd.func26, Tryd.ntmps26
    go_wp2_with (go_at_call 23; (with_reducible refine HS.out.mono ?_); rintro e w1 ⟨rfl, rfl⟩)
    go_region_held3 (fun _ => True) (trivial) (first
      | (go_at_call 26; refine H1.out.mono ?_; rintro e w3 ⟨A, p, c, rfl, HX⟩; clear H1)
      | (go_at_call 9; refine (H2.out _ HX.out.2.2).mono ?_; rintro e w4 ⟨rfl, HY⟩; clear H2)
      | (refine step_digs rfl _ _ (by rfl) w.heap.size _ p ss (by rfl) (owns_kept (owns_kept HX.out.2.1 HY.out.2) ((Below.refl _ _).alloc (Nat.le_refl _) _)) (some ⟨w4.heap.size, 0, none⟩) 1 1 [t] (by rfl) HSS.out.1 rfl (digs_one HSS.out.2.2 _) (by have := HSS.out.2.1; have := HX.out.1; omega) (HY.out.1.alloc HY.out.1.size _).size ?_; intro A' c' w5 ho hb; have HZ := Lib.hid (And.intro ho ((HY.out.1.alloc HY.out.1.size _).trans hb)); clear ho hb))
    all_goals
      go_wp2_with fail
      go_ret
      exact ⟨_, p + 1, _, rfl, by rw [List.length_append, HX.out.1]; rfl, HZ.out.1, HZ.out.2⟩

theorem rpath_all : ∀ (m : Nat) (a : Option Addr) (n cap i : Nat) (ds : List (List UInt8)) (w : World), 1 ≤ n → n ≤ m → m ≤ 1099511627776 → KT w → ds.length = n → n ≤ cap → i < n → DigsAt w a ds →
      Calls Tryd.prog 26 #[.slice a n cap, .int .i64 i] w (SibPost w (H.sibsF m ds i))
  | 0, a, n, cap, i, ds, w, h1, h2, hm, hK, hn, hcap, hi, hd => absurd h2 (by omega)
  | m + 1, a, n, cap, i, ds, w, h1, h2, hm, hK, hn, hcap, hi, hd =>
    rpath_step m (fun a n cap i ds w h hK hn hc _ hi hd => rpath_all m a n cap i ds w h.1 h.2 (by omega) hK hn hc hi hd) a n cap i ds w h1 h2 (by omega) hK hn hcap (by omega) hi hd

end Go.Proofs.YthamligdmfhmeaaDoor
