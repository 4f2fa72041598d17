/- The law of the halves. -/
import Derived.Test.YtbaalkhchcibdaaDoorOf
import Derived.Deep.CutRange
import Derived.Deep.DeepCutAuto
namespace Go.Proofs.YtbaalkhchcibdaaDoor
open Go.RowKit

theorem split_small : ∀ m, m < 25 → ∀ j, j < 5 → 2 ^ j < m → m ≤ 2 * 2 ^ j → H.split m = 2 ^ j := by decide

theorem dig_zeros (V : World) : Dig (V.alloc (.cells #[.int .u8 0, .int .u8 0, .int .u8 0, .int .u8 0, .int .u8 0, .int .u8 0, .int .u8 0, .int .u8 0, .int .u8 0, .int .u8 0, .int .u8 0, .int .u8 0, .int .u8 0, .int .u8 0, .int .u8 0, .int .u8 0, .int .u8 0, .int .u8 0, .int .u8 0, .int .u8 0, .int .u8 0, .int .u8 0, .int .u8 0, .int .u8 0, .int .u8 0, .int .u8 0, .int .u8 0, .int .u8 0, .int .u8 0, .int .u8 0, .int .u8 0, .int .u8 0] 26)) V.heap.size zero32 := Dig.new V zero32_len
theorem dig_zeros1 (V : World) : Dig ((V.alloc (.cells #[.int .u8 0, .int .u8 0, .int .u8 0, .int .u8 0, .int .u8 0, .int .u8 0, .int .u8 0, .int .u8 0, .int .u8 0, .int .u8 0, .int .u8 0, .int .u8 0, .int .u8 0, .int .u8 0, .int .u8 0, .int .u8 0, .int .u8 0, .int .u8 0, .int .u8 0, .int .u8 0, .int .u8 0, .int .u8 0, .int .u8 0, .int .u8 0, .int .u8 0, .int .u8 0, .int .u8 0, .int .u8 0, .int .u8 0, .int .u8 0, .int .u8 0, .int .u8 0] 26)).alloc (.cells #[.int .u8 0, .int .u8 0, .int .u8 0, .int .u8 0, .int .u8 0, .int .u8 0, .int .u8 0, .int .u8 0, .int .u8 0, .int .u8 0, .int .u8 0, .int .u8 0, .int .u8 0, .int .u8 0, .int .u8 0, .int .u8 0, .int .u8 0, .int .u8 0, .int .u8 0, .int .u8 0, .int .u8 0, .int .u8 0, .int .u8 0, .int .u8 0, .int .u8 0, .int .u8 0, .int .u8 0, .int .u8 0, .int .u8 0, .int .u8 0, .int .u8 0, .int .u8 0] 26)) (V.heap.size + 1) zero32 := by
  have h := Dig.new (V.alloc (.cells #[.int .u8 0, .int .u8 0, .int .u8 0, .int .u8 0, .int .u8 0, .int .u8 0, .int .u8 0, .int .u8 0, .int .u8 0, .int .u8 0, .int .u8 0, .int .u8 0, .int .u8 0, .int .u8 0, .int .u8 0, .int .u8 0, .int .u8 0, .int .u8 0, .int .u8 0, .int .u8 0, .int .u8 0, .int .u8 0, .int .u8 0, .int .u8 0, .int .u8 0, .int .u8 0, .int .u8 0, .int .u8 0, .int .u8 0, .int .u8 0, .int .u8 0, .int .u8 0] 26)) zero32_len
  rw [World.size_alloc] at h
  exact h
theorem dig_zeros2 (V : World) : Dig ((V.alloc (.cells #[.int .u8 0, .int .u8 0, .int .u8 0, .int .u8 0, .int .u8 0, .int .u8 0, .int .u8 0, .int .u8 0, .int .u8 0, .int .u8 0, .int .u8 0, .int .u8 0, .int .u8 0, .int .u8 0, .int .u8 0, .int .u8 0, .int .u8 0, .int .u8 0, .int .u8 0, .int .u8 0, .int .u8 0, .int .u8 0, .int .u8 0, .int .u8 0, .int .u8 0, .int .u8 0, .int .u8 0, .int .u8 0, .int .u8 0, .int .u8 0, .int .u8 0, .int .u8 0] 26)).alloc (.cells #[.int .u8 0, .int .u8 0, .int .u8 0, .int .u8 0, .int .u8 0, .int .u8 0, .int .u8 0, .int .u8 0, .int .u8 0, .int .u8 0, .int .u8 0, .int .u8 0, .int .u8 0, .int .u8 0, .int .u8 0, .int .u8 0, .int .u8 0, .int .u8 0, .int .u8 0, .int .u8 0, .int .u8 0, .int .u8 0, .int .u8 0, .int .u8 0, .int .u8 0, .int .u8 0, .int .u8 0, .int .u8 0, .int .u8 0, .int .u8 0, .int .u8 0, .int .u8 0] 26)) V.heap.size zero32 := (dig_zeros V).alloc _

set_option maxRecDepth 100000 in
set_option maxHeartbeats 4000000 in
theorem halves_walk (a : Option Addr) (n cap : Nat) (bs : List UInt8) (w : World) (hK : KT w) (hn : bs.length = n) (hc : n ≤ cap) (hb : BytesAt w a bs) :
    Calls Tryd.prog 7 #[.slice a n cap] w fun e w' => e = .returned (.bool true) ∧ Below w.heap.size w w' := by
  have HK := Lib.hid hK; have HB := Lib.hid hb; have HN := Lib.hid hn; have HCAP := Lib.hid hc
  clear hK hb hn hc
  have HS := Lib.hid (sane_any w HK.out)
  go_enter Tryd.func7, Tryd.ntmps7
  go_wp2_with fail
  refine HS.out.mono ?_
  rintro e w1 ⟨rfl, hb1⟩
  have HW1 := Lib.hid hb1
  clear hb1 HS
  have HO := Lib.hid (digestsOf_any a n cap bs w1 HN.out HCAP.out (HB.out.kept HW1.out))
  go_wp2_with fail
  refine HO.out.mono ?_
  rintro e w2 ⟨A, m, c, ds, rfl, hmc, h24, hm, hds, hb2⟩
  have HW2 := Lib.hid (HW1.out.trans (hb2.mono HW1.out.size))
  have HDS := Lib.hid hds; have HM := Lib.hid hm; have HMC := Lib.hid hmc; have H24 := Lib.hid h24
  clear HO HW1 hds hm hmc hb2 h24
  obtain ⟨r, hr⟩ : ∃ r, H.tree ds = r := ⟨_, rfl⟩
  have hrl : r.length = 32 := by rw [← hr]; exact H.tree_len _
  have HR := Lib.hid hr; have HRL := Lib.hid hrl
  clear hr hrl
  have HTT : Hid (∀ V, Below w2.heap.size w2 V → Calls Tryd.prog 17 #[.slice A m c] V fun e w' => e = .returned (.agg (byts r)) ∧ Hid (Below w2.heap.size w2 w' ∧ Below V.heap.size V w')) := Lib.hid (fun V hV => by
    have hv := HW2.out.trans (hV.mono HW2.out.size)
    have h24 := H24.out
    refine (tree_all m A m c ds V (Nat.le_refl _) (HK.out.kept hv HK.out.pos) HM.out HMC.out (by omega) (HDS.out.kept hV)).mono ?_
    rintro e w' ⟨rfl, hb⟩
    exact ⟨by rw [HR.out], Lib.hid ⟨hV.trans (hb.mono hV.size), hb⟩⟩)
  have HQ : Hid (∀ W, (Op.equalIn 10000 26 (.agg (byts r)) (.agg (byts r))).run Tryd.prog W = .ok true W) := Lib.hid (fun W => run_eq_same r HRL.out W)
  have HEG : Hid (Tryd.prog.eqGuardType Tryd.prog.depth 26 = false) := Lib.hid (by kernel_rfl)
  by_cases h0 : m = 0
  · subst h0
    go_wp2_with fail
    refine (HTT.out w2 (Below.refl _ _)).mono ?_
    rintro e w3 ⟨rfl, HI⟩
    have HG : Hid (Calls Tryd.prog 14 #[.string ⟨#[101, 109, 112, 116, 121]⟩, .slice none 0 0] w3 fun e w' => e = .returned (.agg (byts r)) ∧ Hid (Below w2.heap.size w2 w')) := Lib.hid (by
      have hv := HW2.out.trans (HI.out.1.mono HW2.out.size)
      have hd : ds = [] := List.length_eq_zero_iff.1 HM.out
      refine (tagged_any ⟨#[101, 109, 112, 116, 121]⟩ none 0 0 [] w3 (HK.out.kept hv HK.out.pos) (by decide) rfl (by decide) (bytesAt_nil _ _)).mono ?_
      rintro e w' ⟨rfl, hb⟩
      refine ⟨?_, Lib.hid (HI.out.1.trans (hb.mono HI.out.1.size))⟩
      rw [← HR.out, hd, H.tree_nil]; rfl)
    go_wp2_with fail
    refine HG.out.mono ?_
    rintro e w4 ⟨rfl, HJ⟩
    have hq := HQ.out
    have heg := HEG.out
    clear HTT HG HI
    rename_i K9 hK9
    refine hK9 _ _ ?_
    clear hK9
    go_wp2_with fail
    go_ret
    exact ⟨rfl, HW2.out.trans (HJ.out.mono HW2.out.size)⟩
  by_cases h1 : m = 1
  · subst h1
    obtain ⟨d, hd⟩ : ∃ d, ds = [d] := List.length_eq_one_iff.1 HM.out
    subst hd
    have hdl : d.length = 32 := HDS.out.1 d (by simp)
    obtain ⟨ad, had, _⟩ := HDS.out.2 0 (by simp [hdl])
    subst had
    go_wp2_with fail
    have hby : ∀ V, Below w2.heap.size w2 V → BytesAt V (some ad) d := fun V hV => by
      have := (HDS.out.kept hV).2
      simpa using this
    have HG : Hid (∀ V, Below w2.heap.size w2 V → Calls Tryd.prog 14 #[.string ⟨#[108, 101, 97, 102]⟩, .slice (some ad) 32 32] V fun e w' => e = .returned (.agg (byts r)) ∧ Hid (Below w2.heap.size w2 w')) := Lib.hid (fun V hV => by
      have hv := HW2.out.trans (hV.mono HW2.out.size)
      refine (tagged_any ⟨#[108, 101, 97, 102]⟩ (some ad) 32 32 d V (HK.out.kept hv HK.out.pos) (by decide) hdl (by decide) (hby V hV)).mono ?_
      rintro e w' ⟨rfl, hb⟩
      refine ⟨?_, Lib.hid (hV.trans (hb.mono hV.size))⟩
      rw [← HR.out, H.tree_one, H.leaf]; rfl)
    have harr : ∀ W : World, (Instr.sliceAt 26 (.pointer (some ad)) none none none).run Tryd.prog W = .ok (.slice (some ad) 32 32) W := fun W => by kernel_rfl
    have hq := HQ.out
    have heg := HEG.out
    have HI : Hid (Below w2.heap.size w2 w2.drew) := Lib.hid (Below.refl _ _).drew
    clear hby
    go_region_held3 (fun _ => True) (trivial) (first
      | (go_at_call 17; refine (HTT.out _ HI.out).mono ?_; rintro e w3 ⟨rfl, HI1⟩; clear HTT; have HI := Lib.hid HI1.out.1; clear HI1)
      | (go_at_call 14; refine (HG.out _ HI.out).mono ?_; rintro e w4 ⟨rfl, HI1⟩; clear HG; have HI := HI1; clear HI1))
    all_goals
      go_wp2_with fail
      go_ret
      exact ⟨rfl, HW2.out.trans (HI.out.mono HW2.out.size)⟩
  have h0' : ¬ (m : Int) = 0 := by omega
  have h1' : ¬ (m : Int) = 1 := by omega
  have hb0 : ((m : Int) == 0) = false := beq_false_of_ne h0'
  have hb1 : ((m : Int) == 1) = false := beq_false_of_ne h1'
  have h24 := H24.out
  go_wp2_with fail
  go_loopw [4] (fun kk wr => wr = w2 ∧ ∃ j : Nat, j < 5 ∧ kk = .int .i64 (2 ^ j : Nat) ∧ 2 ^ j < m) (fun kk _ => 24 - (intOf kk).toNat)
  case atStart => exact ⟨rfl, 0, by decide, rfl, by omega⟩
  case round =>
    obtain ⟨rfl, j, hj, rfl, hjm⟩ := hrel
    obtain ⟨k, hk⟩ : ∃ k : Nat, 2 ^ j = k := ⟨_, rfl⟩
    rw [hk] at hjm
    rw [hk]
    have hkp : 1 ≤ k := by rw [← hk]; exact Nat.one_le_two_pow
    by_cases hlt : 2 * k < m
    · have hlt' : 2 * (k : Int) < (m : Int) := by omega
      have hj4 : j + 1 < 5 := by
        rcases Nat.lt_or_ge j 4 with h | h
        · omega
        · have := Nat.pow_le_pow_right (n := 2) (by decide) h
          omega
      go_wp2_with fail
      go_roundw
      case rel => exact ⟨trivial, j + 1, hj4, by rw [Nat.pow_succ, hk]; go_num, by rw [Nat.pow_succ, hk]; omega⟩
      case measure => simp [intOf]; omega
    have hlt' : ¬ 2 * (k : Int) < (m : Int) := by omega
    have hs : H.split m = k := by rw [← hk]; exact split_small m (by omega) j hj (by rw [hk]; exact hjm) (by rw [hk]; omega)
    have hcut := H.tree_cut (l := ds) (by rw [HM.out]; omega) (by rw [HM.out]; omega)
    rw [HM.out, hs, HR.out] at hcut
    obtain ⟨t1, ht1⟩ : ∃ t, H.tree (ds.take k) = t := ⟨_, rfl⟩
    obtain ⟨t2, ht2⟩ : ∃ t, H.tree (ds.drop k) = t := ⟨_, rfl⟩
    have hl1 : t1.length = 32 := by rw [← ht1]; exact H.tree_len _
    have hl2 : t2.length = 32 := by rw [← ht2]; exact H.tree_len _
    rw [ht1, ht2] at hcut
    have HT1 := Lib.hid ht1; have HT2 := Lib.hid ht2; have HL1 := Lib.hid hl1; have HL2 := Lib.hid hl2; have HCUT := Lib.hid hcut
    clear ht1 ht2 hl1 hl2 hcut hs hk
    have hhead := digs_head A m c k (by omega) HMC.out
    obtain ⟨A', c', htail, hc', hda'⟩ := digs_tail A m c k (by omega) HMC.out ds HM.out
    have HC1 : Hid (∀ V, Below wr.heap.size wr V → Calls Tryd.prog 17 #[.slice A k c] V fun e w' => e = .returned (.agg (byts t1)) ∧ Hid (Below wr.heap.size wr w') ∧ (∀ B, Dig V B zero32 → Dig w' B zero32) ∧ (∀ B, Dig V B zero32 → ¬ w'.heap.size = B) ∧ (∀ B, Dig V B zero32 → ¬ B = w'.heap.size)) := Lib.hid (fun V hV => by
      have hv := HW2.out.trans (hV.mono HW2.out.size)
      refine (tree_all m A k c (ds.take k) V (by omega) (HK.out.kept hv HK.out.pos) (by rw [List.length_take, HM.out]; omega) (by have := HMC.out; omega) (by omega) ((HDS.out.kept hV).take k)).mono ?_
      rintro e w' ⟨rfl, hb⟩
      refine ⟨by rw [HT1.out], Lib.hid (hV.trans (hb.mono hV.size)), fun B hB => hB.kept hb hB.lt, fun B hB => ?_, fun B hB => ?_⟩
      · have := hB.lt; have := hb.size; omega
      · have := hB.lt; have := hb.size; omega)
    have HC2 : Hid (∀ V, Below wr.heap.size wr V → Calls Tryd.prog 17 #[.slice A' (m - k) c'] V fun e w' => e = .returned (.agg (byts t2)) ∧ Hid (Below wr.heap.size wr w') ∧ (∀ B, Dig V B zero32 → Dig w' B zero32) ∧ (∀ B, Dig V B zero32 → ¬ w'.heap.size = B) ∧ (∀ B, Dig V B zero32 → ¬ B = w'.heap.size)) := Lib.hid (fun V hV => by
      have hv := HW2.out.trans (hV.mono HW2.out.size)
      refine (tree_all m A' (m - k) c' (ds.drop k) V (by omega) (HK.out.kept hv HK.out.pos) (by rw [List.length_drop, HM.out]) hc' (by omega) (hda' V (HDS.out.kept hV))).mono ?_
      rintro e w' ⟨rfl, hb⟩
      refine ⟨by rw [HT2.out], Lib.hid (hV.trans (hb.mono hV.size)), fun B hB => hB.kept hb hB.lt, fun B hB => ?_, fun B hB => ?_⟩
      · have := hB.lt; have := hb.size; omega
      · have := hB.lt; have := hb.size; omega)
    have HDA := Lib.hid (And.intro hc' hda')
    clear hda' hc'
    go_upto_region 12 with (fail)
    go_cut [5, 6] (fun a5 a6 wx => ∃ g5 g6 : Nat, a5 = .pointer (some ⟨g5, 0, none⟩) ∧ a6 = .pointer (some ⟨g6, 0, none⟩) ∧ Hid (Below wr.heap.size wr wx ∧ Dig wx g5 t1 ∧ Dig wx g6 t2))
    case first =>
      have HI : Hid (Below wr.heap.size wr wr.drew) := Lib.hid (Below.refl _ _).drew
      have hp1 : ∀ V B, Dig V B zero32 → (storeCells ⟨B, 0, none⟩ (byts t1).toList 0).run Tryd.prog V = .ok () (V.setRow B (byts t1)) := fun V B h => run_put h HL1.out
      have hp2 : ∀ V B, Dig V B zero32 → (storeCells ⟨B, 0, none⟩ (byts t2).toList 0).run Tryd.prog V = .ok () (V.setRow B (byts t2)) := fun V B h => run_put h HL2.out
      have hz1 : (byts t1).size = 32 := by rw [byts_size, HL1.out]
      have hz2 : (byts t2).size = 32 := by rw [byts_size, HL2.out]
      have d1 := dig_zeros
      have d2 := dig_zeros1
      have d3 := dig_zeros2
      have d4 : ∀ (V : World) (B : Nat) (d : List UInt8) (o : Obj), Dig V B d → Dig (V.alloc o) B d := fun V B d o h => h.alloc o
      have d5 : ∀ (V : World) (B C : Nat) (d : List UInt8) (cs : Array Value), ¬ B = C → Dig V B d → Dig (V.setRow C cs) B d := fun V B C d cs h1 h => h.other h1 cs
      have d6 : ∀ (V : World) (B : Nat), Dig V B zero32 → Dig (V.setRow B (byts t1)) B t1 := fun V B h => h.set HL1.out
      have d7 : ∀ (V : World) (B : Nat), Dig V B zero32 → Dig (V.setRow B (byts t2)) B t2 := fun V B h => h.set HL2.out
      go_region_with (first
        | (go_at_call 17; refine (HC1.out _ (by first | exact HI.out | exact HI.out.alloc HI.out.size _ | exact (HI.out.alloc HI.out.size _).alloc (HI.out.alloc HI.out.size _).size _)).mono ?_; rintro e w3 ⟨rfl, HI1, hk3, hs3, hs3'⟩; clear HC1; have HI := HI1; have HJ := HI1; clear HI1; (try have e0 := hk3 wr.heap.size (dig_zeros wr.drew)); (try have ea0 := fun o => Dig.alloc (hk3 wr.heap.size (dig_zeros wr.drew)) o); (try have em0 := hs3 wr.heap.size (dig_zeros wr.drew)); (try have en0 := hs3' wr.heap.size (dig_zeros wr.drew)); (try have e1 := hk3 wr.heap.size (dig_zeros2 wr.drew)); (try have ea1 := fun o => Dig.alloc (hk3 wr.heap.size (dig_zeros2 wr.drew)) o); (try have em1 := hs3 wr.heap.size (dig_zeros2 wr.drew)); (try have en1 := hs3' wr.heap.size (dig_zeros2 wr.drew)); (try have e2 := hk3 (wr.heap.size + 1) (dig_zeros1 wr.drew)); (try have ea2 := fun o => Dig.alloc (hk3 (wr.heap.size + 1) (dig_zeros1 wr.drew)) o); (try have em2 := hs3 (wr.heap.size + 1) (dig_zeros1 wr.drew)); (try have en2 := hs3' (wr.heap.size + 1) (dig_zeros1 wr.drew)); clear hk3 hs3 hs3')
        | (go_at_call 17; refine (HC2.out _ (by first | exact HI.out | exact HI.out.alloc HI.out.size _ | exact (HI.out.alloc HI.out.size _).alloc (HI.out.alloc HI.out.size _).size _)).mono ?_; rintro e w4 ⟨rfl, HI1, hk4, hs4, hs4'⟩; clear HC2; have HI := HI1; clear HI1; (try have f0 := hk4 wr.heap.size e0); (try have fa0 := fun o => Dig.alloc (hk4 wr.heap.size e0) o); (try have fm0 := hs4 wr.heap.size e0); (try have fn0 := hs4' wr.heap.size e0); (try have f1 := hk4 wr.heap.size e1); (try have fa1 := fun o => Dig.alloc (hk4 wr.heap.size e1) o); (try have fm1 := hs4 wr.heap.size e1); (try have fn1 := hs4' wr.heap.size e1); (try have f2 := hk4 (wr.heap.size + 1) e2); (try have fa2 := fun o => Dig.alloc (hk4 (wr.heap.size + 1) e2) o); (try have fm2 := hs4 (wr.heap.size + 1) e2); (try have fn2 := hs4' (wr.heap.size + 1) e2); (try have f3 := hk4 wr.heap.size (e0.alloc _)); (try have fa3 := fun o => Dig.alloc (hk4 wr.heap.size (e0.alloc _)) o); (try have fm3 := hs4 wr.heap.size (e0.alloc _)); (try have fn3 := hs4' wr.heap.size (e0.alloc _)); (try have f4 := hk4 w3.heap.size (dig_zeros w3)); (try have fa4 := fun o => Dig.alloc (hk4 w3.heap.size (dig_zeros w3)) o); (try have fm4 := hs4 w3.heap.size (dig_zeros w3)); (try have fn4 := hs4' w3.heap.size (dig_zeros w3)); (try have f5 := hk4 w3.heap.size (dig_zeros2 w3)); (try have fa5 := fun o => Dig.alloc (hk4 w3.heap.size (dig_zeros2 w3)) o); (try have fm5 := hs4 w3.heap.size (dig_zeros2 w3)); (try have fn5 := hs4' w3.heap.size (dig_zeros2 w3)); (try have f6 := hk4 (w3.heap.size + 1) (dig_zeros1 w3)); (try have fa6 := fun o => Dig.alloc (hk4 (w3.heap.size + 1) (dig_zeros1 w3)) o); (try have fm6 := hs4 (w3.heap.size + 1) (dig_zeros1 w3)); (try have fn6 := hs4' (w3.heap.size + 1) (dig_zeros1 w3)); clear hk4 hs4 hs4'))
      all_goals
        have hs1 := HI.out.size
        have hs2 := HJ.out.size
        go_wp2_with fail
        go_meet
        case rel =>
          refine ⟨_, _, rfl, rfl, Lib.hid ⟨below_setRow (below_setRow (by first | exact HI.out | exact HI.out.alloc HI.out.size _ | exact (HI.out.alloc HI.out.size _).alloc (HI.out.alloc HI.out.size _).size _) (by omega) _) (by omega) _, Dig.other (Dig.set (d := zero32) ?_ HL1.out) (by omega) _, Dig.set (d := zero32) (Dig.other ?_ (by omega) _) HL2.out⟩⟩
          all_goals first | assumption | exact dig_zeros _ | exact dig_zeros1 _ | exact dig_zeros2 _ | exact fa0 _ | exact fa1 _ | exact fa2 _ | exact fa3 _ | exact fa4 _ | exact fa5 _ | exact fa6 _
    case rest =>
      obtain ⟨g, g6, rfl, rfl, HW⟩ := hcut
      clear HC1 HC2 hhead htail HDA
      go_wp2_with fail
      have HT : Hid (∀ V, Below wc.heap.size wc V → Calls Tryd.prog 17 #[.slice A m c] V fun e w' => e = .returned (.agg (byts r)) ∧ Hid (Below wc.heap.size wc w' ∧ Below V.heap.size V w')) := Lib.hid (fun V hV => by
        refine (HTT.out V (HW.out.1.trans (hV.mono HW.out.1.size))).mono ?_
        rintro e w' ⟨rfl, hb⟩
        exact ⟨rfl, Lib.hid ⟨hV.trans (hb.out.2.mono hV.size), hb.out.2⟩⟩)
      have HU : Hid (∀ V A c, Below wc.heap.size wc V → V.ownsRow wc.heap.size 5 1 (.slice A (0 + 32 + 32) c) (0 + 32 + 32) (bytes (([] ++ t1) ++ t2)) → Calls Tryd.prog 14 #[.string ⟨#[110, 111, 100, 101]⟩, .slice A (0 + 32 + 32) c] V fun e w' => e = .returned (.agg (byts r)) ∧ Hid (Below wc.heap.size wc w')) := Lib.hid (fun V A c hV ho => by
        have hv := HW2.out.trans ((HW.out.1.trans (hV.mono HW.out.1.size)).mono HW2.out.size)
        obtain ⟨_, hby⟩ := owns_slice ho
        refine (tagged_any ⟨#[110, 111, 100, 101]⟩ A (0 + 32 + 32) c (([] ++ t1) ++ t2) V (HK.out.kept hv HK.out.pos) (by decide) (by simp [HL1.out, HL2.out]) (by decide) hby).mono ?_
        rintro e w' ⟨rfl, hb⟩
        refine ⟨?_, Lib.hid (hV.trans (hb.mono hV.size))⟩
        rw [HCUT.out, H.node]; rfl)
      have harr := array_all g
      have harr6 := array_all g6
      have hq := HQ.out
      have heg := HEG.out
      have HI : Hid (Below wc.heap.size wc wc.drew) := Lib.hid (Below.refl _ _).drew
      clear HTT
      go_region_held3 (fun _ => True) (trivial)
        (first
          | (go_at_call 17; refine (HT.out _ HI.out).mono ?_; rintro e w3 ⟨rfl, HI1⟩; clear HT; have HS := Lib.hid (owns_kept HS.out HI1.out.2); have HI := Lib.hid HI1.out.1; clear HI1)
          | (go_at_call 17; refine (HT.out _ HI.out).mono ?_; rintro e w3 ⟨rfl, HI1⟩; clear HT; have HI := Lib.hid HI1.out.1; clear HI1)
          | (go_at_call 17; refine (HT.out _ (HI.out.alloc HI.out.size _)).mono ?_; rintro e w3 ⟨rfl, HI1⟩; clear HT; have HS := Lib.hid (owns_kept (owns_none wc.heap.size _ HI.out.size) HI1.out.2); have HI := Lib.hid HI1.out.1; clear HI1)
          | (refine step_cat rfl _ _ (by rfl) wc.heap.size _ 0 [] (by rfl) (owns_none wc.heap.size _ HI.out.size) (some ⟨g, 0, none⟩) 32 32 t1 (by rfl) HL1.out (HW.out.2.1.kept (HI.out.alloc HI.out.size _) HW.out.2.1.lt).bytes (by decide) (HI.out.alloc HI.out.size _).size ?_; intro A' c' w4 HS hk; have HI := Lib.hid ((HI.out.alloc HI.out.size _).trans (hk.below (HI.out.alloc HI.out.size _).size)); have HS := Lib.hid HS; clear hk)
          | (refine step_cat rfl _ _ (by rfl) wc.heap.size _ 0 [] (by rfl) HS.out (some ⟨g, 0, none⟩) 32 32 t1 (by rfl) HL1.out (HW.out.2.1.kept HI.out HW.out.2.1.lt).bytes (by decide) HI.out.size ?_; intro A' c' w4 HS hk; have HI := Lib.hid (HI.out.trans (hk.below HI.out.size)); have HS := Lib.hid HS; clear hk)
          | (refine step_cat rfl _ _ (by rfl) wc.heap.size _ (0 + 32) ([] ++ t1) (by rfl) HS.out (some ⟨g6, 0, none⟩) 32 32 t2 (by rfl) HL2.out (HW.out.2.2.kept HI.out HW.out.2.2.lt).bytes (by decide) HI.out.size ?_; intro A' c' w5 HS hk; have HI := Lib.hid (HI.out.trans (hk.below HI.out.size)); have HS := Lib.hid HS; clear hk)
          | (go_at_call 14; refine (HU.out _ _ _ HI.out HS.out).mono ?_; rintro e w6 ⟨rfl, HI1⟩; clear HU; have HI := HI1; clear HI1))
      all_goals
        go_wp2_with fail
        go_ret
        exact ⟨rfl, HW2.out.trans ((HW.out.1.trans (HI.out.mono HW.out.1.size)).mono HW2.out.size)⟩

end Go.Proofs.YtbaalkhchcibdaaDoor
