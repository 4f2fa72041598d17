/- Contract of digest.Sum. -/
import Derived.Test.YthamligdmfhmeaaDoorCat2
namespace Go.Proofs.YthamligdmfhmeaaDoor
open Go.RowKit Go.Shelf

attribute [local go_sem] Oper.semAt_some

set_option maxRecDepth 100000 in
set_option maxHeartbeats 4000000 in
theorem sum_any (a : Option Addr) (n cap : Nat) (bs : List UInt8) (w : World) (hK : KT w) (hn : bs.length = n) (hl : n ≤ 549755813888) (hcap : n ≤ cap) (hb : BytesAt w a bs) :
    Calls Tryd.prog 18 #[.slice a n cap] w fun e w' => e = .returned (.agg (byts (H.sum bs))) ∧ Below w.heap.size w w' := by
  have HK := Lib.hid hK; have HB := Lib.hid hb; have HN := Lib.hid hn
  clear hK hb hn
  obtain ⟨b0, off0, hpl⟩ := HB.out.plain
  have HPL := Lib.hid hpl
  clear hpl
  obtain ⟨m1, hm1⟩ : ∃ m1, m1 = n / 64 := ⟨_, rfl⟩
  obtain ⟨q, hq⟩ : ∃ q, q = 64 * m1 := ⟨_, rfl⟩
  have hqi : (n : Int) - (n : Int) % 64 = (q : Int) := by omega
  have hqn : q ≤ n := by omega
  have HQ := Lib.hid hq; have HM1 := Lib.hid hm1
  clear hq hm1
  refine (callsIn_wide (n := 3)).1 ?_
  refine callsIn_of_wp_marks Tryd.func18 rfl (by trivial) ?_ rfl
  simp only [Tryd.ntmps18, List.size_toArray, List.length_cons, List.length_nil, Nat.reduceAdd, Nat.reduceSub, Array.replicate_succ, Array.replicate_zero, List.push_toArray, List.append_toArray, List.nil_append, List.cons_append]
  refine wpIn_wide.2 ?_
  go_step
  go_step
  refine wp_region_list ?_
  refine wpl_alloc_row rfl 24 rfl (byts (H.outn H.init 0)) (fun _ => by kernel_rfl) ?_
  refine wpList_nil ?_
  rename_i K1 hK1
  refine hK1 _ _ ?_
  clear hK1
  go_simp
  have HD : Hid (Below w.heap.size w (w.alloc (.cells (byts (H.outn H.init 0)) 24)) ∧ (w.alloc (.cells (byts (H.outn H.init 0)) 24)).heap[w.heap.size]? = some (.cells (byts (H.outn H.init 0)) 24 (0, 0)) ∧ w.heap.size < (w.alloc (.cells (byts (H.outn H.init 0)) 24)).heap.size) :=
    Lib.hid ⟨(Below.refl _ _).alloc (Nat.le_refl _) _, heap_alloc_new w _, by simp⟩
  generalize w.alloc (.cells (byts (H.outn H.init 0)) 24) = W0 at HD ⊢
  go_wp2_with fail
  refine (initial_any _).mono ?_
  rintro e w1 ⟨rfl, hb1⟩
  rename_i K2 hK2
  refine hK2 _ _ ?_
  clear hK2
  refine wpl_alloc_row rfl 54 rfl (words (List.replicate 8 0)) (fun _ => by kernel_rfl) ?_
  refine wpList_store_row rfl 54 _ _ rfl _ (words H.init.list) rfl rfl _ _ (heap_alloc_new _ _) (by kernel_rfl) (by kernel_rfl) (words_one _) ?_
  rw [World.setRow_alloc_new]
  refine wpList_nil ?_
  have HG : Hid (Below w.heap.size w (w1.alloc (.cells (words H.init.list) 54)) ∧ (w1.alloc (.cells (words H.init.list) 54)).heap[w.heap.size]? = some (.cells (byts (H.outn H.init 0)) 24 (0, 0)) ∧
      (w1.alloc (.cells (words H.init.list) 54)).heap[w1.heap.size]? = some (.cells (words H.init.list) 54 (0, 0)) ∧ w.heap.size < w1.heap.size ∧ (w1.alloc (.cells (words H.init.list) 54)).heap.size = w1.heap.size + 1) := Lib.hid (by
    have h1 : W0.heap.size ≤ w1.heap.size := hb1.size
    have h2 := HD.out.2.2
    refine ⟨HD.out.1.trans ((hb1.mono (Nat.le_of_lt h2)).trans ((Below.refl _ _).alloc (by omega) _)), ?_, heap_alloc_new w1 _, by omega, by simp⟩
    rw [Below.heap_alloc _ _ _ (by omega), hb1.block _ h2]; exact HD.out.2.1)
  clear HD hb1
  go_simp
  generalize w1.alloc (.cells (words H.init.list) 54) = W1 at HG ⊢
  generalize w1.heap.size = g at HG ⊢
  go_wp2_with fail
  refine (chunk_any a q cap _).mono ?_
  rintro e w' ⟨rfl, rfl⟩
  go_wp2_with fail
  rw [HG.out.2.2.2.2]
  have hwl : Hid (Below w.heap.size w (((W1.alloc (.cells #[.func (.func 33) #[.pointer (some ⟨g, 0, none⟩)] #[]] 56)).alloc (.cells #[.slice a q cap] 22)).alloc (.cells #[.int .i64 64] 3)) ∧
      (((W1.alloc (.cells #[.func (.func 33) #[.pointer (some ⟨g, 0, none⟩)] #[]] 56)).alloc (.cells #[.slice a q cap] 22)).alloc (.cells #[.int .i64 64] 3)).heap[w.heap.size]? = some (.cells (byts (H.outn H.init 0)) 24 (0, 0)) ∧
      (((W1.alloc (.cells #[.func (.func 33) #[.pointer (some ⟨g, 0, none⟩)] #[]] 56)).alloc (.cells #[.slice a q cap] 22)).alloc (.cells #[.int .i64 64] 3)).heap[g]? = some (.cells (words H.init.list) 54 (0, 0)) ∧
      (((W1.alloc (.cells #[.func (.func 33) #[.pointer (some ⟨g, 0, none⟩)] #[]] 56)).alloc (.cells #[.slice a q cap] 22)).alloc (.cells #[.int .i64 64] 3)).cell? ⟨g + 1, 0, none⟩ = some (.func (.func 33) #[.pointer (some ⟨g, 0, none⟩)] #[]) ∧
      (((W1.alloc (.cells #[.func (.func 33) #[.pointer (some ⟨g, 0, none⟩)] #[]] 56)).alloc (.cells #[.slice a q cap] 22)).alloc (.cells #[.int .i64 64] 3)).cell? ⟨g + 1 + 1, 0, none⟩ = some (.slice a q cap) ∧
      (((W1.alloc (.cells #[.func (.func 33) #[.pointer (some ⟨g, 0, none⟩)] #[]] 56)).alloc (.cells #[.slice a q cap] 22)).alloc (.cells #[.int .i64 64] 3)).cell? ⟨g + 1 + 1 + 1, 0, none⟩ = some (.int .i64 64) ∧
      (((W1.alloc (.cells #[.func (.func 33) #[.pointer (some ⟨g, 0, none⟩)] #[]] 56)).alloc (.cells #[.slice a q cap] 22)).alloc (.cells #[.int .i64 64] 3)).heap.size = g + 4 ∧ w.heap.size < g) := Lib.hid (by
    obtain ⟨h1, h2, h3, h4, h5⟩ := HG.out
    have s1 : (W1.alloc (.cells #[.func (.func 33) #[.pointer (some ⟨g, 0, none⟩)] #[]] 56)).heap.size = g + 2 := by simp; omega
    have s2 : ((W1.alloc (.cells #[.func (.func 33) #[.pointer (some ⟨g, 0, none⟩)] #[]] 56)).alloc (.cells #[.slice a q cap] 22)).heap.size = g + 3 := by rw [World.size_alloc, s1]
    have n1 := heap_alloc_new W1 (.cells #[.func (.func 33) #[.pointer (some ⟨g, 0, none⟩)] #[]] 56)
    have n2 := heap_alloc_new (W1.alloc (.cells #[.func (.func 33) #[.pointer (some ⟨g, 0, none⟩)] #[]] 56)) (.cells #[.slice a q cap] 22)
    have n3 := heap_alloc_new ((W1.alloc (.cells #[.func (.func 33) #[.pointer (some ⟨g, 0, none⟩)] #[]] 56)).alloc (.cells #[.slice a q cap] 22)) (.cells #[.int .i64 64] 3)
    rw [h5] at n1; rw [s1] at n2; rw [s2] at n3
    refine ⟨((h1.alloc (by omega) _).alloc (by omega) _).alloc (by omega) _, ?_, ?_, ?_, ?_, ?_, by rw [World.size_alloc, s2], h4⟩
    · rw [Below.heap_alloc _ _ _ (by omega), Below.heap_alloc _ _ _ (by omega), Below.heap_alloc _ _ _ (by omega)]; exact h2
    · rw [Below.heap_alloc _ _ _ (by omega), Below.heap_alloc _ _ _ (by omega), Below.heap_alloc _ _ _ (by omega)]; exact h3
    · rw [cell_of_row _ (g + 1) 0 _ _ (0, 0) (by rw [Below.heap_alloc _ _ _ (by omega), Below.heap_alloc _ _ _ (by omega)]; exact n1)]; rfl
    · rw [cell_of_row _ (g + 1 + 1) 0 _ _ (0, 0) (by rw [Below.heap_alloc _ _ _ (by omega)]; exact n2)]; rfl
    · rw [cell_of_row _ (g + 1 + 1 + 1) 0 _ _ (0, 0) n3]; rfl)
  clear HG
  generalize ((W1.alloc (.cells #[.func (.func 33) #[.pointer (some ⟨g, 0, none⟩)] #[]] 56)).alloc (.cells #[.slice a q cap] 22)).alloc (.cells #[.int .i64 64] 3) = Wl at hwl ⊢
  refine (wpIn_wide (n := 3)).1 (wpIn_rangeFunc_ownF rfl (by decide) (gf := 42) (lb := #[.pointer (some ⟨g + 1 + 1, 0, none⟩), .pointer (some ⟨g + 1 + 1 + 1, 0, none⟩)]) rfl trivial (enters_of Tryd.func42 (by kernel_rfl) rfl)
    (chunk_stops 2 (by decide) (g + 1 + 1) (g + 1 + 1 + 1) g (g + 4) b0 off0 m1 cap a ?ha ?hm ?hcap (by omega) (by omega) (by omega) (by omega) Wl (by rw [hwl.out.2.2.2.2.2.2.1]; exact Nat.le_refl _) ?hs hwl.out.2.2.2.2.2.1)
    (fun h k => Kq.trans h k) ?hKb (Below.refl _ _) (fun _ => rfl)
    (fun pre W => (W.heap[g]? = some (.cells (words (H.foldm bs H.init m1 pre).list) 54 (0, 0)) ∧ Kq g (g + 4) Wl W) ∧ Below w.heap.size w W)
    (fun _ _ _ => False)
    ?hI (fun _ _ _ _ _ hs _ _ => hs) ?h0
    (fun x => { tmps := #[.slice a n cap, undef, .pointer (some ⟨w.heap.size, 0, none⟩), .pointer (some ⟨g, 0, none⟩), .pointer (some ⟨g + 1, 0, none⟩), .int .i64 q, .slice (some ⟨b0, off0 + 64 * (x % m1), none⟩) 64 64, undef, .agg (words H.init.list), .func (.func 33) #[.pointer (some ⟨g, 0, none⟩)] #[], .slice a n cap, .int .i64 n, .slice a n cap, .int .i64 n, .int .i64 ((n : Int) % 64), .int .i64 q, .slice a n cap, .int .i64 q, .slice a q cap, .func (.func 42) #[] #[.pointer (some ⟨g + 1 + 1, 0, none⟩), .pointer (some ⟨g + 1 + 1 + 1, 0, none⟩)], .slice (some ⟨b0, off0 + 64 * (x % m1), none⟩) 64 64, undef, undef, undef, undef, undef, undef, undef, undef, undef, undef, undef, undef, undef, undef, undef, undef, undef], defers := [] }) ?assign ?body ?done ?stop)
  case ha => exact fun h => (HPL.out (by have := HM1.out; rw [HN.out]; omega)).1
  case hm => have := HM1.out; omega
  case hcap => have := HQ.out; omega
  case hs => rw [← HQ.out]; exact hwl.out.2.2.2.2.1
  case hKb =>
    intro W l o o' hl2 ho _ _
    rw [hwl.out.2.2.2.2.2.2.1] at hl2
    exact ⟨by simp, fun k hk _ => World.putObj_heap_other (by omega)⟩
  case hI =>
    rintro s A B row ⟨⟨h1, h2⟩, h3⟩ hgb hr
    have hsz := hwl.out.2.2.2.2.2.2.1
    have hgl : g < A.heap.size := (Array.getElem?_eq_some_iff.1 h1).1
    refine ⟨⟨?_, Nat.le_trans h2.size hgb.size, fun k hk hn => ?_⟩, ?_⟩
    · rw [hgb.block g hgl (fun e => by
        obtain ⟨_, o, ho, hnc⟩ := hr g e.symm
        rw [h1] at ho
        cases ho
        simp [Obj.isCells] at hnc)]
      exact h1
    · rw [hgb.block k (by have := h2.size; omega) (fun e => by
        obtain ⟨hge, _⟩ := hr k e.symm
        omega)]
      exact h2.block k hk hn
    · exact h3.grown hgb h3.size (fun k e => by
        obtain ⟨hge, _⟩ := hr k e
        have := hwl.out.1.size
        omega)
  case h0 => exact ⟨⟨by rw [H.foldm_nil]; exact hwl.out.2.2.1, Kq.refl _ _ _⟩, hwl.out.1⟩
  case assign =>
    intro l x W K hK
    gi_wp2
    exact hK
  case body =>
    rintro l pre x W ⟨⟨hst, hkq⟩, hbel⟩ hlen
    have hy : x % m1 < m1 := Nat.mod_lt _ (by omega)
    have hbl : 64 * (x % m1) + 64 ≤ bs.length := by have := HM1.out; rw [HN.out]; omega
    obtain ⟨_, hb0, hcells⟩ := HPL.out (by omega)
    have hKW : KT W := HK.out.kept hbel HK.out.pos
    have hwg : w.heap.size < g := hwl.out.2.2.2.2.2.2.2
    have hgW : g + 4 ≤ W.heap.size := by have := hkq.size; rw [hwl.out.2.2.2.2.2.2.1] at this; exact this
    have habs := absorb_any (H.foldm bs H.init m1 pre) (H.foldm_ok _ H.init_ok _ _) g b0 (off0 + 64 * (x % m1)) 64 (H.chunk bs (x % m1)) W hKW (by omega) hst (by have := hbel.size; omega) (fun i hi => by
      rw [H.byte_chunk hi, Nat.add_assoc]
      exact (hbel.cell (p := ⟨b0, off0 + (64 * (x % m1) + i), none⟩) hb0).trans (hcells _ (by omega)))
    have cf := (hkq.cell (k := g + 1) (i := 0) (by omega) (by omega)).trans hwl.out.2.2.2.1
    have HABS := Lib.hid habs
    have HCT := Lib.hid (And.intro hst (And.intro hkq (And.intro hbel (And.intro hwg hgW))))
    clear habs hst hkq hbel hKW hcells hbl hb0
    gi_wp2_with (refine ⟨trivial, ?_⟩; gi_at_call 33; refine (CallsIn.inRound l (callsIn_wide.2 HABS.out)).mono ?_; rintro e w' ⟨rfl, hh, hbut⟩)
    obtain ⟨hst, hkq, hbel, hwg, hgW⟩ := HCT.out
    refine ⟨⟨hbut.size, fun k o hk ho => ?_⟩, Kq.of_but hbut hgW, ⟨by rw [H.foldm_snoc]; exact hh, hkq.trans (Kq.of_but hbut hgW)⟩, hbel.trans (hbut.below (Nat.le_of_lt hwg) hbel.size)⟩
    by_cases hkg : k = g
    · subst hkg
      rw [hst] at hk
      cases hk
      simp [Obj.isCells] at ho
    · exact (hbut.block k (Array.getElem?_eq_some_iff.1 hk).1 hkg).trans hk
  case done =>
    rintro D ys W hD rfl ⟨⟨hst, hkq⟩, hbel⟩ hKd
    rw [H.foldm_range] at hst
    obtain ⟨a2, c2, hsl, hc2, ha2⟩ := slice_tail a n cap q hqn hcap bs HN.out
    have hgW : g + 4 ≤ W.heap.size := by have := hkq.size; rw [hwl.out.2.2.2.2.2.2.1] at this; exact this
    have cf : W.cell? ⟨g + 1, 0, none⟩ = some (.func (.func 33) #[.pointer (some ⟨g, 0, none⟩)] #[]) := (hkq.cell (k := g + 1) (i := 0) (by omega) (by omega)).trans hwl.out.2.2.2.1
    have hd : W.heap[w.heap.size]? = some (.cells (byts (H.outn H.init 0)) 24 (0, 0)) := (hkq.block _ (by have := hwl.out.2.2.2.2.2.2.2; omega) (by have := hwl.out.2.2.2.2.2.2.2; omega)).trans hwl.out.2.1
    have hwg := hwl.out.2.2.2.2.2.2.2
    have hgD : g + 4 ≤ D := by rw [hwl.out.2.2.2.2.2.2.1] at hD; exact hD
    have HW := Lib.hid (And.intro hst (And.intro hbel (And.intro hKd (And.intro hgD (And.intro hgW (And.intro cf (And.intro hd hwg)))))))
    have HA2 := Lib.hid ha2
    have HC2 := Lib.hid hc2
    clear hst hkq hbel hKd hD hgW cf hd hwg hgD ha2 hc2 hwl
    go_wp2_with fail
    refine Code.wp_mono onlyN ?_
    have HPAD : Hid (Calls Tryd.prog 35 #[.int .i64 n] W.drew fun e w2 => ∃ a3 c3, e = .returned (.slice a3 (H.pad n).length c3) ∧ Hid (Below W.heap.size W w2) ∧
        Hid (Calls Tryd.prog 30 #[.slice (some ⟨w2.heap.size, 0, none⟩) 2 2] (w2.alloc (.cells #[.slice a2 (n - q) c2, .slice a3 (H.pad n).length c3] 22)) fun e w' =>
          ∃ A' c', e = .returned (.slice A' (n - q + (H.pad n).length) c') ∧ Hid (n - q + (H.pad n).length ≤ c' ∧ BytesAt w' A' (bs.drop q ++ H.pad n) ∧ Below W.heap.size W w'))) := Lib.hid (by
      refine (padding_any n W.drew (by omega)).mono ?_
      rintro e w2 ⟨v2, rfl, ho2, hb2⟩
      obtain ⟨a3, c3, rfl, hc3, hl3, hby3⟩ := owns_bytesAt ho2
      have hb2' : Below W.heap.size W w2 := ⟨hb2.os, hb2.tape, hb2.output, hb2.size, hb2.block⟩
      have hbw := HW.out.2.1.trans (hb2'.mono HW.out.2.1.size)
      refine ⟨a3, c3, rfl, Lib.hid hb2', Lib.hid ?_⟩
      refine (concat2_any a2 a3 (n - q) (H.pad n).length c2 c3 (bs.drop q) (H.pad n) w2 (HA2.out w2 (HB.out.kept hbw)) hby3 (by rw [List.length_drop, HN.out]) rfl (by rw [H.pad, H.padn_len]; omega)).mono ?_
      rintro e w' ⟨A', c', rfl, h1, h2, h3⟩
      exact ⟨A', c', rfl, Lib.hid ⟨h1, h2, hb2'.trans (h3.mono hb2'.size)⟩⟩)
    go_region_with (first
      | (go_at_call 35; (with_reducible refine HPAD.out.mono ?_); rintro e w2 ⟨a3, c3, rfl, HP2, HX⟩)
      | (go_at_call 30; (with_reducible refine HX.out.mono ?_); rintro e w3 ⟨a4, c4, rfl, HC⟩)
      | (go_at_call 34; (with_reducible refine (chunk_any _ _ _ _).mono ?_); rintro e w4 ⟨rfl, rfl⟩))
    obtain ⟨L, hL⟩ : ∃ L, L = bs.drop q ++ H.pad n := ⟨_, rfl⟩
    have hLn : L.length = n - q + (H.pad n).length := by rw [hL, List.length_append, List.length_drop, HN.out]
    have hpl := H.pad_len n
    obtain ⟨m2, hm2⟩ : ∃ m2, n - q + (H.pad n).length = 64 * m2 := ⟨(n - q + (H.pad n).length) / 64, by have := HQ.out; have := HM1.out; omega⟩
    have hpl2 : (H.pad n).length ≤ 100 := by rw [H.pad, H.padn_len]; omega
    have hm2b : m2 ≤ 1099511627776 := by omega
    obtain ⟨hc4, hby4, hb4⟩ := HC.out
    rw [← hL] at hby4
    rw [hm2] at hc4 hLn
    simp only [OnlyN, hm2]
    obtain ⟨hst, hbel, hKd, hgD, hgW, cf, hd, hwg⟩ := HW.out
    have hst3 : w3.heap[g]? = some (.cells (words (H.fold bs H.init (List.range m1)).list) 54 (0, 0)) := (hb4.block g (by omega)).trans hst
    have hKd3 : w3.heap[D]? = some (.deferred (some [])) := (hb4.block D (Array.getElem?_eq_some_iff.1 hKd).1).trans hKd
    have cf3 : w3.cell? ⟨g + 1, 0, none⟩ = some (.func (.func 33) #[.pointer (some ⟨g, 0, none⟩)] #[]) := (hb4.cell (p := ⟨g + 1, 0, none⟩) (by simp; omega)).trans cf
    have hd3 : w3.heap[w.heap.size]? = some (.cells (byts (H.outn H.init 0)) 24 (0, 0)) := (hb4.block _ (by omega)).trans hd
    have hbel3 : Below w.heap.size w w3 := hbel.trans (hb4.mono hbel.size)
    have hs3 : g + 4 ≤ w3.heap.size := Nat.le_trans hgW hb4.size
    have hD3 : D < w3.heap.size := (Array.getElem?_eq_some_iff.1 hKd3).1
    obtain ⟨b4, off4, hpl4⟩ := hby4.plain
    have hm20 : 0 < m2 := by have : 0 < (H.pad n).length := by (rw [H.pad, H.padn_len]; omega)
                             omega
    obtain ⟨ha4, hb4lt, hcells4⟩ := hpl4 (by omega)
    have hb4g : b4 ≠ g := by
      rintro rfl
      have c := hcells4 0 (by omega)
      rw [cell_of_row _ b4 _ _ _ _ hst3] at c
      simp [words] at c
    have sz : ((w3.alloc (.cells #[.slice a4 (64 * m2) c4] 22)).alloc (.cells #[.int .i64 64] 3)).heap.size = w3.heap.size + 2 := by simp
    have hwm : Hid (Below w.heap.size w ((w3.alloc (.cells #[.slice a4 (64 * m2) c4] 22)).alloc (.cells #[.int .i64 64] 3)) ∧
        Below w3.heap.size w3 ((w3.alloc (.cells #[.slice a4 (64 * m2) c4] 22)).alloc (.cells #[.int .i64 64] 3)) ∧
        ((w3.alloc (.cells #[.slice a4 (64 * m2) c4] 22)).alloc (.cells #[.int .i64 64] 3)).cell? ⟨w3.heap.size, 0, none⟩ = some (.slice a4 (64 * m2) c4) ∧
        ((w3.alloc (.cells #[.slice a4 (64 * m2) c4] 22)).alloc (.cells #[.int .i64 64] 3)).cell? ⟨w3.heap.size + 1, 0, none⟩ = some (.int .i64 64) ∧
        ((w3.alloc (.cells #[.slice a4 (64 * m2) c4] 22)).alloc (.cells #[.int .i64 64] 3)).heap.size = w3.heap.size + 2) := Lib.hid (by
      have hbm : Below w3.heap.size w3 ((w3.alloc (.cells #[.slice a4 (64 * m2) c4] 22)).alloc (.cells #[.int .i64 64] 3)) := ((Below.refl _ _).alloc (Nat.le_refl _) _).alloc (by simp) _
      have n1 := heap_alloc_new w3 (.cells #[.slice a4 (64 * m2) c4] 22)
      have n2 := heap_alloc_new (w3.alloc (.cells #[.slice a4 (64 * m2) c4] 22)) (.cells #[.int .i64 64] 3)
      rw [World.size_alloc] at n2
      refine ⟨hbel3.trans (hbm.mono hbel3.size), hbm, ?_, ?_, sz⟩
      · rw [cell_of_row _ w3.heap.size 0 _ _ (0, 0) (by rw [Below.heap_alloc _ _ _ (by simp)]; exact n1)]; rfl
      · rw [cell_of_row _ (w3.heap.size + 1) 0 _ _ (0, 0) n2]; rfl)
    have H3 := Lib.hid (And.intro hst3 (And.intro hKd3 (And.intro cf3 (And.intro hd3 (And.intro hs3 (And.intro hwg (And.intro hgD hD3)))))))
    have H4 := Lib.hid (And.intro ha4 (And.intro hb4lt (And.intro hcells4 (And.intro hb4g (And.intro hc4 hLn)))))
    have HL := Lib.hid hL
    clear hst hbel hKd hgD hgW cf hd hwg hst3 hKd3 cf3 hd3 hbel3 hs3 hD3 hpl4 ha4 hb4lt hcells4 hb4g sz hc4 hby4 hb4 HC HW hL hLn hpl hpl2
    generalize (w3.alloc (.cells #[.slice a4 (64 * m2) c4] 22)).alloc (.cells #[.int .i64 64] 3) = Wm at hwm ⊢
    go_wp2_with fail
    refine (wpIn_wide (n := 3)).1 (wpIn_rangeFunc_ownF rfl (by decide) (gf := 42) (lb := #[.pointer (some ⟨w3.heap.size, 0, none⟩), .pointer (some ⟨w3.heap.size + 1, 0, none⟩)]) rfl trivial (enters_of Tryd.func42 (by kernel_rfl) rfl)
      (chunk_stops 2 (by decide) w3.heap.size (w3.heap.size + 1) g (w3.heap.size + 2) b4 off4 m2 c4 a4 (fun _ => H4.out.1) hm2b H4.out.2.2.2.2.1 (by omega) (by omega) (by have := H3.out.2.2.2.2.1; omega) (by have := H3.out.2.2.2.2.1; omega) Wm (by rw [hwm.out.2.2.2.2]; exact Nat.le_refl _) hwm.out.2.2.1 hwm.out.2.2.2.1)
      (fun h k => Kq.trans h k) ?hKb2 (Below.refl _ _) (fun _ => rfl)
      (fun pre W => (W.heap[g]? = some (.cells (words (H.foldm L (H.fold bs H.init (List.range m1)) m2 pre).list) 54 (0, 0)) ∧ Kq g (w3.heap.size + 2) Wm W) ∧ Below w.heap.size w W)
      (fun _ _ _ => False)
      ?hI2 (fun _ _ _ _ _ hs _ _ => hs) ?h02
      (fun x => { tmps := #[.slice a n cap, undef, .pointer (some ⟨w.heap.size, 0, none⟩), .pointer (some ⟨g, 0, none⟩), .pointer (some ⟨g + 1, 0, none⟩), .int .i64 q, undef, .slice (some ⟨b4, off4 + 64 * (x % m2), none⟩) 64 64, .agg (words H.init.list), .func (.func 33) #[.pointer (some ⟨g, 0, none⟩)] #[], .slice a n cap, .int .i64 n, .slice a n cap, .int .i64 n, .int .i64 ((n : Int) % 64), .int .i64 q, .slice a n cap, .int .i64 q, .slice a q cap, .func (.func 42) #[] #[.pointer (some ⟨g + 1 + 1, 0, none⟩), .pointer (some ⟨g + 1 + 1 + 1, 0, none⟩)], undef, undef, undef, undef, .slice a n cap, .int .i64 q, .slice a2 (n - q) c2, .slice a n cap, .int .i64 n, .slice a3 (H.pad n).length c3, .slice (some ⟨w2.heap.size, 0, none⟩) 2 2, .slice a4 (64 * m2) c4, .func (.func 42) #[] #[.pointer (some ⟨w3.heap.size, 0, none⟩), .pointer (some ⟨w3.heap.size + 1, 0, none⟩)], .slice (some ⟨b4, off4 + 64 * (x % m2), none⟩) 64 64, undef, undef, undef, undef], defers := [] }) ?assign2 ?body2 ?done2 ?stop2)
    case hKb2 =>
      intro W l o o' hl2 ho _ _
      rw [hwm.out.2.2.2.2] at hl2
      exact ⟨by simp, fun k hk _ => World.putObj_heap_other (by omega)⟩
    case hI2 =>
      rintro s A B row ⟨⟨h1, h2⟩, h3⟩ hgb hr
      have hsz := hwm.out.2.2.2.2
      have hgl : g < A.heap.size := (Array.getElem?_eq_some_iff.1 h1).1
      refine ⟨⟨?_, Nat.le_trans h2.size hgb.size, fun k hk hn => ?_⟩, ?_⟩
      · rw [hgb.block g hgl (fun e => by
          obtain ⟨_, o, ho, hnc⟩ := hr g e.symm
          rw [h1] at ho
          cases ho
          simp [Obj.isCells] at hnc)]
        exact h1
      · rw [hgb.block k (by have := h2.size; omega) (fun e => by
          obtain ⟨hge, _⟩ := hr k e.symm
          omega)]
        exact h2.block k hk hn
      · exact h3.grown hgb h3.size (fun k e => by
          obtain ⟨hge, _⟩ := hr k e
          have := hwm.out.1.size
          omega)
    case h02 => exact ⟨⟨by rw [H.foldm_nil]; exact (hwm.out.2.1.block g (by have := H3.out.2.2.2.2.1; omega)).trans H3.out.1, Kq.refl _ _ _⟩, hwm.out.1⟩
    case assign2 =>
      intro l x W K hK
      gi_wp2
      exact hK
    case body2 =>
      rintro l pre x W ⟨⟨hst, hkq⟩, hbel⟩ hlen
      obtain ⟨ha4, hb4lt, hcells4, hb4g, hc4, hLn⟩ := H4.out
      have hy : x % m2 < m2 := Nat.mod_lt _ hm20
      have hbl : 64 * (x % m2) + 64 ≤ L.length := by omega
      have hKW : KT W := HK.out.kept hbel HK.out.pos
      have hwg : w.heap.size < g := H3.out.2.2.2.2.2.1
      have hs3 := H3.out.2.2.2.2.1
      have hgW : w3.heap.size + 2 ≤ W.heap.size := by have := hkq.size; rw [hwm.out.2.2.2.2] at this; exact this
      have habs := absorb_any (H.foldm L (H.fold bs H.init (List.range m1)) m2 pre) (H.foldm_ok _ (H.fold_ok _ H.init_ok _) _ _) g b4 (off4 + 64 * (x % m2)) 64 (H.chunk L (x % m2)) W hKW (by omega) hst (by omega) (fun i hi => by
        rw [H.byte_chunk hi, Nat.add_assoc, hkq.cell (by omega) hb4g]
        exact (hwm.out.2.1.cell (p := ⟨b4, off4 + (64 * (x % m2) + i), none⟩) hb4lt).trans (hcells4 _ (by omega)))
      have cf := (hkq.cell (k := g + 1) (i := 0) (by omega) (by omega)).trans ((hwm.out.2.1.cell (p := ⟨g + 1, 0, none⟩) (by simp; omega)).trans H3.out.2.2.1)
      have HABS := Lib.hid habs
      have HCT := Lib.hid (And.intro hst (And.intro hkq (And.intro hbel (And.intro hwg hgW))))
      clear habs hst hkq hbel hKW hbl hcells4 ha4 hb4lt hc4 hLn
      gi_wp2_with (refine ⟨trivial, ?_⟩; gi_at_call 33; refine (CallsIn.inRound l (callsIn_wide.2 HABS.out)).mono ?_; rintro e w' ⟨rfl, hh, hbut⟩)
      obtain ⟨hst, hkq, hbel, hwg, hgW⟩ := HCT.out
      refine ⟨⟨hbut.size, fun k o hk ho => ?_⟩, Kq.of_but hbut hgW, ⟨by rw [H.foldm_snoc]; exact hh, hkq.trans (Kq.of_but hbut hgW)⟩, hbel.trans (hbut.below (Nat.le_of_lt hwg) hbel.size)⟩
      by_cases hkg : k = g
      · subst hkg
        rw [hst] at hk
        cases hk
        simp [Obj.isCells] at ho
      · exact (hbut.block k (Array.getElem?_eq_some_iff.1 hk).1 hkg).trans hk
    case done2 =>
      rintro D2 ys W4 hD2 rfl ⟨⟨hst, hkq⟩, hbel⟩ hKd2
      rw [H.foldm_range] at hst
      have hwg : w.heap.size < g := H3.out.2.2.2.2.2.1
      have hs3 := H3.out.2.2.2.2.1
      have hgD := H3.out.2.2.2.2.2.2.1
      have hD3 := H3.out.2.2.2.2.2.2.2
      rw [hwm.out.2.2.2.2] at hD2
      have hKd1 : W4.heap[D]? = some (.deferred (some [])) := ((hkq.block D (by omega) (by omega)).trans (hwm.out.2.1.block D hD3)).trans H3.out.2.1
      have hd4 : W4.heap[w.heap.size]? = some (.cells (byts (H.outn H.init 0)) 24 (0, 0)) := ((hkq.block _ (by omega) (by omega)).trans (hwm.out.2.1.block _ (by omega))).trans H3.out.2.2.2.1
      have hout := digestOut_any _ (H.fold_ok L (H.fold_ok bs H.init_ok (List.range m1)) (List.range m2)) g W4 hst
      rw [HL.out, HQ.out, ← HN.out, ← H.sum_parts bs (by rw [HN.out]; exact HM1.out) (by have := H4.out.2.2.2.2.2; rw [HL.out, HQ.out, ← HN.out] at this; exact this)] at hout
      have HOUT := Lib.hid hout
      have HE := Lib.hid (And.intro hbel (And.intro hKd1 (And.intro hKd2 (And.intro hd4 (And.intro hwg (And.intro hgD (And.intro hD2 hD3)))))))
      clear hout hst hkq hbel hKd1 hKd2 hd4 hwg hgD hD2 hD3 hs3
      go_wp2_with fail
      refine HOUT.out.mono ?_
      rintro e w5 ⟨rfl, hb5⟩
      rename_i K9 hK9
      refine hK9 _ _ ?_
      clear hK9
      obtain ⟨hbel, hKd1, hKd2, hd4, hwg, hgD, hD2, hD3⟩ := HE.out
      have hgl : g + 4 ≤ W4.heap.size := by have := (Array.getElem?_eq_some_iff.1 hKd1).1; omega
      have hd5 : w5.heap[w.heap.size]? = some (.cells (byts (H.outn H.init 0)) 24 (0, 0)) := (hb5.block _ (by omega)).trans hd4
      have hK1 := (hb5.block D (Array.getElem?_eq_some_iff.1 hKd1).1).trans hKd1
      have hK2 := (hb5.block D2 (Array.getElem?_eq_some_iff.1 hKd2).1).trans hKd2
      have hb5w : Below w.heap.size w w5 := hbel.trans (hb5.mono hbel.size)
      refine wpList_store_row rfl 24 _ _ rfl w.heap.size (byts (H.sum bs)) rfl rfl _ _ hd5 (by rw [byts_size, H.sum_len]; kernel_rfl) (by rw [byts_size, byts_size, H.sum_len, H.outn_len]) (byts_one _) ?_
      refine wpList_nil ?_
      have hrow := setRow_heap w5 w.heap.size _ (byts (H.sum bs)) _ _ hd5
      have hk1 := (setRow_other w5 w.heap.size D (byts (H.sum bs)) (by omega)).trans hK1
      have hk2 := (setRow_other w5 w.heap.size D2 (byts (H.sum bs)) (by omega)).trans hK2
      have hbr : Below w.heap.size w (w5.setRow w.heap.size (byts (H.sum bs))) := ⟨hb5w.os, hb5w.tape, hb5w.output, by rw [setRow_size]; exact hb5w.size, fun k hk => (setRow_other _ _ _ _ (by omega)).trans (hb5w.block k hk)⟩
      have HZ := Lib.hid (And.intro hrow (And.intro hk1 (And.intro hk2 (And.intro hbr (And.intro hgD (And.intro hD2 (And.intro hD3 hwg)))))))
      clear hd5 hK1 hK2 hb5w hrow hk1 hk2 hbr hbel hKd1 hKd2 hd4 hb5
      generalize w5.setRow w.heap.size (byts (H.sum bs)) = W6 at HZ ⊢
      go_wp2_with fail
      obtain ⟨hrow, hk1, hk2, hbr, hgD, hD2, hD3, hwg⟩ := HZ.out
      refine ⟨by simp, .inl ⟨_, _, rfl, run_takeDeferred hk2, ?_⟩⟩
      have hk1' : (W6.putObj D2 (.deferred none)).heap[D]? = some (.deferred (some [])) := (World.putObj_heap_other (by omega)).trans hk1
      refine ⟨by simp, .inl ⟨_, _, rfl, run_takeDeferred hk1', ?_⟩⟩
      have hrow' : ((W6.putObj D2 (.deferred none)).putObj D (.deferred none)).heap[w.heap.size]? = some (.cells (byts (H.sum bs)) 24 (0, 0)) :=
        (World.putObj_heap_other (by omega)).trans ((World.putObj_heap_other (by omega)).trans hrow)
      refine ⟨_, results_cell_row Tryd.results18 _ _ w.heap.size _ _ _ _ rfl hrow' Tryd.underlying24 rfl (by rw [byts_size, H.sum_len]; kernel_rfl), rfl, ?_⟩
      exact ⟨hbr.os, hbr.tape, hbr.output, by simp; exact hbr.size, fun k hk => (World.putObj_heap_other (by omega)).trans ((World.putObj_heap_other (by omega)).trans (hbr.block k hk))⟩
    case stop2 =>
      rintro D2 c pre W _ _ h _
      exact h.elim
  case stop =>
    rintro D c pre W _ _ h _
    exact h.elim

end Go.Proofs.YthamligdmfhmeaaDoor
