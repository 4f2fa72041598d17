/- The law of Sum and Tagged against the reference: the walk. -/
import Derived.Test.YtogedlfpgoicfaaDoorSane
import Derived.Test.YtogedlfpgoicfaaDoorRTagged
import Derived.Laws.MakeOwn
namespace Go.Proofs.YtogedlfpgoicfaaDoor
open Go.RowKit

theorem made_zeros (N : Nat) : madeCells #[.int .u8 0] N = byts (List.replicate N 0) := by
  apply Array.ext
  · simp [madeCells, byts]
  · intro i h1 h2
    simp [madeCells, byts, Nat.mod_one]
/-- 'make([]byte, n)'. -/
theorem make_bytes (N : Nat) (h : N ≤ 100000) (W : World) : (Instr.makeSlice 22 (.int .i64 (N : Int)) (.int .i64 (N : Int))).run Tryd.prog W = .ok (.slice (some ⟨W.heap.size, 0, none⟩) N N) (W.alloc (.cells (byts (List.replicate N 0)) 5)) := by
  obtain ⟨i0, hi, hz0, hz1, hz2⟩ := info_parts Tryd.infoU8
  rw [run_makeSlice (P := Tryd.prog) W 22 5 i0 _ Tryd.underlying22 hi hz0 .i64 .i64 N N (by omega) (Int.le_refl _) (by rw [hz1]; simp; omega) (by rw [hz2]; omega) (by omega), hz1, Int.toNat_natCast, Nat.mul_one]
  rw [show (Value.int IntKind.u8 0).cells = #[.int .u8 0] from rfl, made_zeros]

set_option maxRecDepth 100000 in
set_option maxHeartbeats 4000000 in
theorem sumSpec_walk (a : Option Addr) (n cap : Nat) (bs : List UInt8) (tag : ByteArray) (many : Int) (w : World) (hK : KT w) (hn : bs.length = n) (hc : n ≤ cap) (hb : BytesAt w a bs) (hm1 : 0 ≤ many) (hm2 : many ≤ 255) :
    Calls Tryd.prog 3 #[.slice a n cap, .string tag, .int .u8 many] w fun e w' => e = .returned (.bool true) ∧ Below w.heap.size w w' := by
  have HK := Lib.hid hK; have HB := Lib.hid hb; have HN := Lib.hid hn; have HCAP := Lib.hid hc
  clear hK hb hn hc
  obtain ⟨N, hN⟩ : ∃ N : Nat, many + 1 = N := ⟨(many + 1).toNat, by omega⟩
  have hNl : N ≤ 256 := by omega
  have hN1 : 1 ≤ N := by omega
  have hmk := make_bytes N (by omega)
  have HS := Lib.hid (sane_any w HK.out)
  by_cases g1 : 300 < n
  · have q1 : decide ((300 : Int) < (n : Int)) = true := by rw [decide_eq_true_iff]; omega
    go_enter Tryd.func3, Tryd.ntmps3
    go_wp2_with fail
    refine HS.out.mono ?_
    rintro e w1 ⟨rfl, hb1⟩
    have HW := Lib.hid hb1
    clear hb1 HS
    go_wp2_with fail
    go_ret
    exact ⟨rfl, HW.out⟩
  have q1 : decide ((300 : Int) < (n : Int)) = false := by rw [decide_eq_false_iff_not]; omega
  by_cases g2 : 300 < tag.size
  · have q2 : decide ((300 : Int) < (tag.size : Int)) = true := by rw [decide_eq_true_iff]; omega
    go_enter Tryd.func3, Tryd.ntmps3
    go_wp2_with fail
    refine HS.out.mono ?_
    rintro e w1 ⟨rfl, hb1⟩
    have HW := Lib.hid hb1
    clear hb1 HS
    go_wp2_with fail
    go_ret
    exact ⟨rfl, HW.out⟩
  have q2 : decide ((300 : Int) < (tag.size : Int)) = false := by rw [decide_eq_false_iff_not]; omega
  go_enter Tryd.func3, Tryd.ntmps3
  go_wp2_with fail
  refine HS.out.mono ?_
  rintro e w1 ⟨rfl, hb1⟩
  have HW := Lib.hid hb1
  clear hb1 HS
  go_wp2_with fail
  have HL : Hid ((∃ L : List UInt8, L.length = N ∧ (w1.alloc (.cells (byts (List.replicate N 0)) 5)).heap[w1.heap.size]? = some (.cells (byts L) 5 (0, 0))) ∧ Below w.heap.size w (w1.alloc (.cells (byts (List.replicate N 0)) 5))) := Lib.hid
    ⟨⟨_, by simp, heap_alloc_new w1 _⟩, HW.out.alloc HW.out.size _⟩
  have hBs := HW.out.size
  have hBw : w1.heap.size < (w1.alloc (.cells (byts (List.replicate N 0)) 5)).heap.size := by simp
  generalize w1.alloc (.cells (byts (List.replicate N 0)) 5) = W0 at HL hBw ⊢
  generalize w1.heap.size = B at HL hBs hBw ⊢
  have HBS := Lib.hid hBs; have HBW := Lib.hid hBw
  clear hmk HW hBs hBw
  go_loopw [27] (fun ii wr => ∃ i : Nat, i ≤ N ∧ ii = .int .i64 i ∧ Hid ((∃ L : List UInt8, L.length = N ∧ wr.heap[B]? = some (.cells (byts L) 5 (0, 0))) ∧ Below w.heap.size w wr))
    (fun ii _ => N - (intOf ii).toNat)
  case atStart => exact ⟨0, Nat.zero_le _, rfl, HL⟩
  case round =>
    obtain ⟨i, hi, rfl, HI⟩ := hrel
    clear HL
    by_cases hlt : i < N
    · have r1 : decide ((i : Int) < (N : Int)) = true := by rw [decide_eq_true_iff]; omega
      obtain ⟨⟨L, hLn, hL⟩, hbl⟩ := HI.out
      obtain ⟨c0, f0⟩ := byts_cell hL (i := i) (by omega)
      have HLL := Lib.hid (And.intro hLn (And.intro hL hbl))
      clear hLn hL hbl HI
      by_cases hn0 : n = 0
      · have r2 : decide ((0 : Int) < (n : Int)) = false := by rw [decide_eq_false_iff_not]; omega
        have HN2 : Hid ((∃ L : List UInt8, L.length = N ∧ (wr.setCell ⟨B, i, none⟩ (.int .u8 (i : Int))).heap[B]? = some (.cells (byts L) 5 (0, 0))) ∧ Below w.heap.size w (wr.setCell ⟨B, i, none⟩ (.int .u8 (i : Int)))) := Lib.hid
          ⟨⟨L.set i (UInt8.ofNat i), by rw [List.length_set]; exact HLL.out.1, byts_store HLL.out.2.1 i i (by omega)⟩, HLL.out.2.2.setCell (p := ⟨B, i, none⟩) HBS.out _⟩
        go_wp2_with fail
        refine ⟨⟨i + 1, by omega, by go_num, HN2⟩, ?_⟩
        simp [intOf]; omega
      · have r2 : decide ((0 : Int) < (n : Int)) = true := by rw [decide_eq_true_iff]; omega
        obtain ⟨k, hk⟩ : ∃ k, k = i % n := ⟨_, rfl⟩
        have hkl : k < n := by rw [hk]; exact Nat.mod_lt _ (by omega)
        have e1 : (i : Int) % (n : Int) = (k : Int) := by rw [hk]; exact (Int.natCast_emod i n).symm
        obtain ⟨ad, had, hcell⟩ := (HB.out.kept (HLL.out.2.2.setCell (p := ⟨B, i, none⟩) HBS.out (.int .u8 (i : Int)))) k (by rw [HN.out]; exact hkl)
        subst had
        generalize bs[k]'_ = x at hcell
        have hxl : x.toNat < 256 := x.toNat_lt
        have HN2 : Hid ((∃ L : List UInt8, L.length = N ∧ ((wr.setCell ⟨B, i, none⟩ (.int .u8 (i : Int))).setCell ⟨B, i, none⟩ (.int .u8 (x.toNat : Int))).heap[B]? = some (.cells (byts L) 5 (0, 0))) ∧ Below w.heap.size w ((wr.setCell ⟨B, i, none⟩ (.int .u8 (i : Int))).setCell ⟨B, i, none⟩ (.int .u8 (x.toNat : Int)))) := Lib.hid
          ⟨⟨(L.set i (UInt8.ofNat i)).set i (UInt8.ofNat x.toNat), by rw [List.length_set, List.length_set]; exact HLL.out.1, byts_store (byts_store HLL.out.2.1 i i (by omega)) i x.toNat hxl⟩, (HLL.out.2.2.setCell (p := ⟨B, i, none⟩) HBS.out _).setCell (p := ⟨B, i, none⟩) HBS.out _⟩
        clear hk
        go_wp2_with fail
        refine ⟨⟨i + 1, by omega, by go_num, HN2⟩, ?_⟩
        simp [intOf]; omega
    · obtain rfl : i = N := by omega
      clear hi hlt
      have r1 : decide ((i : Int) < (i : Int)) = false := by rw [decide_eq_false_iff_not]; omega
      go_wp2_with fail
      obtain ⟨⟨L, hLn, hL⟩, hbl⟩ := HI.out
      have HP : Hid ((wr.alloc (.cells #[.slice a n cap, .slice (some ⟨B, 0, none⟩) i i] 22)).heap[wr.heap.size]? = some (.cells #[.slice a n cap, .slice (some ⟨B, 0, none⟩) i i] 22 (0, 0)) ∧ (wr.alloc (.cells #[.slice a n cap, .slice (some ⟨B, 0, none⟩) i i] 22)).heap[B]? = some (.cells (byts L) 5 (0, 0)) ∧
          Below w.heap.size w (wr.alloc (.cells #[.slice a n cap, .slice (some ⟨B, 0, none⟩) i i] 22))) := Lib.hid
        ⟨heap_alloc_new wr _, by rw [Below.heap_alloc _ _ _ (Array.getElem?_eq_some_iff.1 hL).1]; exact hL, hbl.alloc hbl.size _⟩
      have HLN := Lib.hid hLn
      clear hLn hL hbl HI
      generalize wr.alloc (.cells #[.slice a n cap, .slice (some ⟨B, 0, none⟩) i i] 22) = W2 at HP ⊢
      generalize wr.heap.size = g at HP ⊢
      have hgl := (Array.getElem?_eq_some_iff.1 HP.out.1).1
      have hBl := (Array.getElem?_eq_some_iff.1 HP.out.2.1).1
      have HGL := Lib.hid hgl; have HBL := Lib.hid hBl
      clear hgl hBl
      go_loopw [53] (fun ii wr => ∃ k : Nat, k ≤ 2 ∧ ii = .int .i64 k ∧ Hid (Below W2.heap.size W2 wr))
        (fun ii _ => 2 - (intOf ii).toNat)
      case atStart => exact ⟨0, Nat.zero_le _, rfl, Lib.hid (Below.refl _ _)⟩
      case round =>
        obtain ⟨k, hk, rfl, HI⟩ := hrel
        by_cases hlt : k < 2
        · have s1 : decide ((k : Int) < 2) = true := by rw [decide_eq_true_iff]; omega
          obtain ⟨A, m, c, xs, hcell, hxl, hmc, hml, hxs⟩ : ∃ (A : Option Addr) (m c : Nat) (xs : List UInt8), wr.cell? ⟨g, k, none⟩ = some (.slice A m c) ∧ xs.length = m ∧ m ≤ c ∧ m ≤ 300 ∧ BytesAt W2 A xs := by
            have hrow := (HI.out.block _ HGL.out).trans HP.out.1
            rw [cell_of_row _ _ _ _ _ _ hrow]
            have h2 : k = 0 ∨ k = 1 := by omega
            rcases h2 with rfl | rfl
            · exact ⟨a, n, cap, bs, rfl, HN.out, HCAP.out, by omega, HB.out.kept HP.out.2.2⟩
            · exact ⟨some ⟨B, 0, none⟩, i, i, L, rfl, HLN.out, Nat.le_refl _, by omega, BytesAt.row HP.out.2.1⟩
          have HX := Lib.hid (And.intro hxl (And.intro hmc hxs))
          clear hxl hmc hxs
          obtain ⟨r1', hr1⟩ : ∃ r, H.sum xs = r := ⟨_, rfl⟩
          obtain ⟨r2', hr2⟩ : ∃ r, H.tagged tag.data.toList xs = r := ⟨_, rfl⟩
          have hl1 : r1'.length = 32 := by rw [← hr1]; exact H.sum_len _
          have hl2 : r2'.length = 32 := by rw [← hr2]; exact H.tagged_len _ _
          have kt : ∀ V, Below W2.heap.size W2 V → KT V := fun V hV => HK.out.kept (HP.out.2.2.trans (hV.mono HP.out.2.2.size)) HK.out.pos
          have S1 : Hid (∀ V, Below W2.heap.size W2 V → Calls Tryd.prog 17 #[.slice A m c] V fun e w' => e = .returned (.agg (byts r1')) ∧ Below V.heap.size V w') := Lib.hid fun V hV => by
            rw [← hr1]; exact sum_any A m c xs V (kt V hV) HX.out.1 (by omega) HX.out.2.1 (HX.out.2.2.kept hV)
          have S2 : Hid (∀ V, Below W2.heap.size W2 V → Calls Tryd.prog 18 #[.slice A m c] V fun e w' => e = .returned (.agg (byts r1')) ∧ Below V.heap.size V w') := Lib.hid fun V hV => by
            rw [← hr1]; exact rsum_dig A m c xs V HX.out.1 (by omega) (HX.out.2.2.kept hV)
          have S3 : Hid (∀ V, Below W2.heap.size W2 V → Calls Tryd.prog 19 #[.string tag, .slice A m c] V fun e w' => e = .returned (.agg (byts r2')) ∧ Below V.heap.size V w') := Lib.hid fun V hV => by
            rw [← hr2]; exact tagged_any tag A m c xs V (kt V hV) (by omega) HX.out.1 (by omega) (HX.out.2.2.kept hV)
          have S4 : Hid (∀ V, Below W2.heap.size W2 V → Calls Tryd.prog 20 #[.string tag, .slice A m c] V fun e w' => e = .returned (.agg (byts r2')) ∧ Below V.heap.size V w') := Lib.hid fun V hV => by
            rw [← hr2]; exact rtagged_any tag A m c xs V (by omega) HX.out.1 (by omega) (HX.out.2.2.kept hV)
          have hq1 : ∀ W, (Op.equalIn 10000 26 (.agg (byts r1')) (.agg (byts r1'))).run Tryd.prog W = .ok true W := fun W => run_eq_same r1' hl1 W
          have hq2 : ∀ W, (Op.equalIn 10000 26 (.agg (byts r2')) (.agg (byts r2'))).run Tryd.prog W = .ok true W := fun W => run_eq_same r2' hl2 W
          have heg : Tryd.prog.eqGuardType Tryd.prog.depth 26 = false := by kernel_rfl
          clear hr1 hr2 hl1 hl2 kt
          go_wp2_with (first
            | (go_at_call 17; (with_reducible refine (S1.out _ HI.out).mono ?_); rintro e wc ⟨rfl, hb⟩; replace HI := Lib.hid (HI.out.trans (hb.mono HI.out.size)); clear hb)
            | (go_at_call 18; (with_reducible refine (S2.out _ HI.out).mono ?_); rintro e wc ⟨rfl, hb⟩; replace HI := Lib.hid (HI.out.trans (hb.mono HI.out.size)); clear hb)
            | (go_at_call 19; (with_reducible refine (S3.out _ HI.out).mono ?_); rintro e wc ⟨rfl, hb⟩; replace HI := Lib.hid (HI.out.trans (hb.mono HI.out.size)); clear hb)
            | (go_at_call 20; (with_reducible refine (S4.out _ HI.out).mono ?_); rintro e wc ⟨rfl, hb⟩; replace HI := Lib.hid (HI.out.trans (hb.mono HI.out.size)); clear hb))
          refine ⟨⟨k + 1, by omega, by go_num, HI⟩, ?_⟩
          simp [intOf]; omega
        · obtain rfl : k = 2 := by omega
          clear hk hlt
          go_wp2_with fail
          go_ret
          exact ⟨rfl, HP.out.2.2.trans (HI.out.mono HP.out.2.2.size)⟩

end Go.Proofs.YtogedlfpgoicfaaDoor
