/- Contract of digest's schedule. -/
import Derived.Test.YthamligdmfhmeaaDoorBlockMath
import Derived.Laws.CopyRow
import Derived.Deep.Cut
import Derived.Deep.CutBlock
namespace Go.Proofs.YthamligdmfhmeaaDoor
open Go.RowKit

namespace H
/-- The words of a block, byte by byte. -/
def pfill (bs : List UInt8) : Nat → List Nat
  | 0 => List.replicate 64 0
  | i + 1 => (pfill bs i).set (i / 4) ((pfill bs i).getD (i / 4) 0 * 256 % 4294967296 ||| byte bs i)
theorem pfill_len (bs : List UInt8) : ∀ n, (pfill bs n).length = 64
  | 0 => by simp [pfill]
  | n + 1 => by simp [pfill, pfill_len bs n]
theorem pfill_lt (bs : List UInt8) : ∀ n, ∀ x ∈ pfill bs n, x < 4294967296
  | 0 => by intro x hx; rw [List.eq_of_mem_replicate hx]; decide
  | n + 1 => all_set (pfill_lt bs n) _ (Nat.or_lt_two_pow (n := 32) (Nat.mod_lt _ (by decide)) (by have := byte_lt bs n; omega))
theorem fill_zero (bs : List UInt8) : ∀ n j, n ≤ j → (fill bs n).getD j 0 = 0
  | 0, j, _ => by
    simp only [fill, List.getD_eq_getElem?_getD, List.getElem?_replicate]
    split <;> rfl
  | n + 1, j, h => by
    have := fill_zero bs n j (by omega)
    simp only [fill, List.getD_eq_getElem?_getD] at *
    rw [List.getElem?_set_ne (by omega)]
    exact this
theorem or_add (a b : Nat) (h : b < 256) : a * 256 ||| b = a * 256 + b := by
  have := Nat.two_pow_add_eq_or_of_lt (i := 8) (by simpa using h) a
  simpa [Nat.mul_comm] using this.symm
theorem word_add {b0 b1 b2 b3 : Nat} (_ : b0 < 256) (h1 : b1 < 256) (h2 : b2 < 256) (h3 : b3 < 256) : word b0 b1 b2 b3 = ((b0 * 256 + b1) * 256 + b2) * 256 + b3 := by
  unfold word
  have e1 : b0 * 16777216 ||| b1 * 65536 = (b0 * 256 + b1) * 65536 := by
    have := Nat.two_pow_add_eq_or_of_lt (i := 24) (b := b1 * 65536) (by omega) b0
    rw [show b0 * 16777216 = 2 ^ 24 * b0 from by omega, ← this]; omega
  have e2 : (b0 * 256 + b1) * 65536 ||| b2 * 256 = ((b0 * 256 + b1) * 256 + b2) * 256 := by
    have := Nat.two_pow_add_eq_or_of_lt (i := 16) (b := b2 * 256) (by omega) (b0 * 256 + b1)
    rw [show (b0 * 256 + b1) * 65536 = 2 ^ 16 * (b0 * 256 + b1) from by omega, ← this]; omega
  rw [e1, e2, or_add _ _ h3]
theorem set_get {l : List Nat} {i v : Nat} (h : i < l.length) : (l.set i v).getD i 0 = v := by simp [h]
theorem pfill_fill (bs : List UInt8) : ∀ n, n ≤ 16 → pfill bs (4 * n) = fill bs n
  | 0, _ => rfl
  | n + 1, hn => by
    have ih := pfill_fill bs n (by omega)
    have hl := fill_len bs n
    have e0 : 4 * n / 4 = n := by omega
    have e1 : (4 * n + 1) / 4 = n := by omega
    have e2 : (4 * n + 2) / 4 = n := by omega
    have e3 : (4 * n + 3) / 4 = n := by omega
    have l0 := byte_lt bs (4 * n); have l1 := byte_lt bs (4 * n + 1); have l2 := byte_lt bs (4 * n + 2); have l3 := byte_lt bs (4 * n + 3)
    rw [show 4 * (n + 1) = 4 * n + 1 + 1 + 1 + 1 from by omega]
    simp only [pfill]
    rw [ih, e0, e1, show 4 * n + 1 + 1 = 4 * n + 2 from rfl, e2, show 4 * n + 2 + 1 = 4 * n + 3 from rfl, e3, fill_zero bs n n (Nat.le_refl _)]
    simp only [List.set_set]
    rw [set_get (by omega), set_get (by omega), set_get (by omega), fill, word_add l0 l1 l2 l3]
    congr 1
    rw [show 0 * 256 % 4294967296 = 0 from rfl, Nat.zero_or, Nat.mod_eq_of_lt (by omega : byte bs (4 * n) * 256 < 4294967296), or_add _ _ l1]
    rw [Nat.mod_eq_of_lt (by omega : (byte bs (4 * n) * 256 + byte bs (4 * n + 1)) * 256 < 4294967296), or_add _ _ l2]
    rw [Nat.mod_eq_of_lt (by omega), or_add _ _ l3]
end H

/-- What lies behind a call that has made one row of words. -/
structure Ro (w wr : World) (ws : List Nat) : Prop where
  ws : wr.heap[w.heap.size]? = some (.cells (words ws) 67 (0, 0))
  below : Below w.heap.size w wr
theorem Ro.drew {w wr : World} {ws : List Nat} (h : Ro w wr ws) : Ro w wr.drew ws := ⟨h.ws, ⟨h.below.os, h.below.tape, h.below.output, h.below.size, h.below.block⟩⟩
theorem Ro.drewN {w wr : World} {ws : List Nat} (h : Ro w wr ws) (n : Nat) : Ro w (wr.drewN n) ws := ⟨h.ws, ⟨h.below.os, h.below.tape, h.below.output, h.below.size, h.below.block⟩⟩
theorem Ro.store {w wr : World} {ws : List Nat} (h : Ro w wr ws) (i n : Nat) : Ro w (wr.setCell ⟨w.heap.size, i, none⟩ (.int .u32 (n : Int))) (ws.set i n) :=
  ⟨words_store h.ws i n, h.below.setCell (p := ⟨w.heap.size, i, none⟩) (Nat.le_refl _) _⟩

set_option maxRecDepth 100000 in
set_option maxHeartbeats 4000000 in
theorem schedule_any (b off cap : Nat) (bs : List UInt8) (w : World) (hb : b < w.heap.size) (hc : ∀ i, i < 64 → w.cell? ⟨b, off + i, none⟩ = some (.int .u8 (H.byte bs i))) :
    Calls Tryd.prog 40 #[.slice (some ⟨b, off, none⟩) 64 cap] w fun e w' => e = .returned (.agg (words (H.expand bs 48))) ∧ Below w.heap.size w w' := by
  go_enter Tryd.func40, Tryd.ntmps40
  go_step
  go_step
  refine wp_region_list ?_
  refine wpl_alloc_row rfl 67 rfl (words (H.pfill bs 0)) (fun _ => by kernel_rfl) ?_
  refine wpList_nil ?_
  have HB : Hid (Ro w (w.alloc (.cells (words (H.pfill bs 0)) 67)) (H.pfill bs 0)) := Lib.hid ⟨heap_alloc_new w _, (Below.refl _ _).alloc (Nat.le_refl _) _⟩
  rename_i K1 hK1
  refine hK1 _ _ ?_
  clear hK1
  go_simp
  have HC := Lib.hid hc
  clear hc
  generalize w.alloc (.cells (words (H.pfill bs 0)) 67) = W0 at *
  go_wp2_with fail
  go_loopw [7] (fun ii wr => ∃ j : Nat, j ≤ 64 ∧ ii = .int .i64 j ∧ Hid (Ro w wr (H.pfill bs j)))
    (fun ii _ => 64 - (intOf ii).toNat)
  case atStart => exact ⟨0, Nat.zero_le _, rfl, HB⟩
  case round =>
    obtain ⟨j, hj, rfl, HR⟩ := hrel
    by_cases hlt : j < 64
    · obtain ⟨hcl, hfr⟩ := words_cell HR.out.ws (i := j / 4) (by rw [H.pfill_len]; omega)
      have hlen := H.pfill_lt bs j
      have hgl := H.getD_lt hlen (j / 4)
      have hbc : wr.cell? ⟨b, off + j, none⟩ = some (.int .u8 (H.byte bs j)) := (HR.out.below.cell (p := ⟨b, off + j, none⟩) hb).trans (HC.out j hlt)
      have hbl := H.byte_lt bs j
      generalize hg : (H.pfill bs j).getD (j / 4) 0 = g at *
      generalize hy : H.byte bs j = y at *
      have HG := Lib.hid hg; have HY := Lib.hid hy
      clear hg hy hlen
      go_wp2_with fail
      have t1 : Int.tdiv (j : Int) 4 = ((j / 4 : Nat) : Int) := by rw [Int.tdiv_eq_ediv_of_nonneg (by omega)]; omega
      have t2 : (((j / 4 : Nat) : Int)).toNat = j / 4 := by omega
      go_region
      have hv : bits .or .u32 ((g : Int) * 256 % 4294967296) (y : Int) = (g * 256 % 4294967296 ||| y : Nat) := by
        have := u32_or_nat (g * 256 % 4294967296) y (Nat.mod_lt _ (by decide)) (by omega)
        rw [← this]; congr 1 <;> simp
      rw [hv]
      have HN := Lib.hid (HR.out.store (j / 4) (g * 256 % 4294967296 ||| y)).drew
      have HN2 : Hid (Ro w (wr.setCell ⟨w.heap.size, j / 4, none⟩ (.int .u32 (g * 256 % 4294967296 ||| y : Nat))).drew (H.pfill bs (j + 1))) := by
        rw [H.pfill, HG.out, HY.out]; exact HN
      clear hv HN t1 t2 hbc hcl hfr hbl hgl
      generalize (wr.setCell ⟨w.heap.size, j / 4, none⟩ (.int .u32 (g * 256 % 4294967296 ||| y : Nat))).drew = W1 at *
      go_wp2_with fail
      go_roundw
      case rel => exact ⟨j + 1, by omega, by go_num, HN2⟩
      case measure => simp [intOf]; omega
    · have hj64 : j = 64 := by omega
      have HR0 : Hid (Ro w wr (H.expand bs 0)) := by
        rw [hj64, show 64 = 4 * 16 from rfl, H.pfill_fill bs 16 (Nat.le_refl _)] at HR
        exact HR
      clear hj64 HR HB
      go_wp2_with fail
      clear hj hlt
      generalize j = j0 at *
      go_loopw [4] (fun ii wr => ∃ j : Nat, j ≤ 48 ∧ ii = .int .i64 ((16 + j : Nat) : Int) ∧ Hid (Ro w wr (H.expand bs j)))
        (fun ii _ => 64 - (intOf ii).toNat)
      case atStart => exact ⟨0, Nat.zero_le _, rfl, HR0⟩
      case round =>
        obtain ⟨j, hj, rfl, HR⟩ := hrel
        clear HR0
        generalize ht : 16 + j = t at *
        have ht0 : 16 ≤ t := by omega
        have hlen := H.expand_len bs j
        by_cases hlt : t < 64
        · obtain ⟨c16, _⟩ := words_cell HR.out.ws (i := t - 16) (by omega)
          obtain ⟨c15, _⟩ := words_cell HR.out.ws (i := t - 15) (by omega)
          obtain ⟨c7, _⟩ := words_cell HR.out.ws (i := t - 7) (by omega)
          obtain ⟨c2, _⟩ := words_cell HR.out.ws (i := t - 2) (by omega)
          obtain ⟨ct, ft⟩ := words_cell HR.out.ws (i := t) (by omega)
          have hlt' : ∀ i, (H.expand bs j).getD i 0 < 4294967296 := fun i => H.getD_lt (H.expand_lt bs j) i
          have l16 := hlt' (t - 16); have l15 := hlt' (t - 15); have l7 := hlt' (t - 7); have l2 := hlt' (t - 2)
          have HLT := Lib.hid hlt'
          clear hlt'
          generalize hx : (H.expand bs j).getD (t - 15) 0 = x at *
          generalize hy : (H.expand bs j).getD (t - 2) 0 = y at *
          generalize hu : (H.expand bs j).getD (t - 16) 0 = u at *
          generalize hv : (H.expand bs j).getD (t - 7) 0 = v at *
          have HX := Lib.hid hx; have HY := Lib.hid hy; have HU := Lib.hid hu; have HV := Lib.hid hv; have HT := Lib.hid ht
          clear hx hy hu hv hlen ht
          go_wp2_with fail
          have s15 : IntKind.i64.wrap ((t : Int) - 15) = (t : Int) - 15 := IntWalk.i64_in _ (by omega)
          have s2 : IntKind.i64.wrap ((t : Int) - 2) = (t : Int) - 2 := IntWalk.i64_in _ (by omega)
          have p15 : 0 ≤ (t : Int) - 15 := by omega
          have p2 : 0 ≤ (t : Int) - 2 := by omega
          have n15 : ((t : Int) - 15).toNat = t - 15 := by omega
          have n2 : ((t : Int) - 2).toNat = t - 2 := by omega
          have q15 : (t : Int) - 15 < 64 := by omega
          have q2 : (t : Int) - 2 < 64 := by omega
          go_quiet (fail)
          have HRq := Lib.hid (HR.out.drewN nq)
          clear s15 s2 p15 p2 n15 n2 q15 q2 HR c16 c7 ct ft c15 c2
          generalize wr.drewN nq = wq at *
          obtain ⟨c16, _⟩ := words_cell HRq.out.ws (i := t - 16) (by rw [H.expand_len]; omega)
          obtain ⟨c7, _⟩ := words_cell HRq.out.ws (i := t - 7) (by rw [H.expand_len]; omega)
          obtain ⟨ct, ft⟩ := words_cell HRq.out.ws (i := t) (by rw [H.expand_len]; omega)
          rw [HU.out] at c16
          rw [HV.out] at c7
          have s16 : IntKind.i64.wrap ((t : Int) - 16) = (t : Int) - 16 := IntWalk.i64_in _ (by omega)
          have s7 : IntKind.i64.wrap ((t : Int) - 7) = (t : Int) - 7 := IntWalk.i64_in _ (by omega)
          have p16 : 0 ≤ (t : Int) - 16 := by omega
          have p7 : 0 ≤ (t : Int) - 7 := by omega
          have q16 : (t : Int) - 16 < 64 := by omega
          have z16 : (16 : Int) ≤ (t : Int) := by omega
          have z7 : (7 : Int) ≤ (t : Int) := by omega
          have z0 : (0 : Int) ≤ (t : Int) := by omega
          have z64 : (t : Int) < 64 := by omega
          have q7 : (t : Int) - 7 < 64 := by omega
          have n16 : ((t : Int) - 16).toNat = t - 16 := by omega
          have n7 : ((t : Int) - 7).toNat = t - 7 := by omega
          have hr : ∀ (z n : Nat) (_ : z < 4294967296) (_ : 1 ≤ n) (_ : n ≤ 31) (r : Nat) (_ : H.ror z n = r) (m : Int) (_ : m = n) (W : World), Calls Tryd.prog 41 #[.int .u32 z, .int .i64 m] W fun e w' => e = .returned (.int .u32 (r : Nat)) ∧ W = w' := fun z n h1 h2 h3 r hr m hm W => by subst hr; exact ror_any z n W h1 h2 h3 m hm
          obtain ⟨r1, hr1⟩ : ∃ r, H.ror x 7 = r := ⟨_, rfl⟩
          obtain ⟨r2, hr2⟩ : ∃ r, H.ror x 18 = r := ⟨_, rfl⟩
          obtain ⟨r3, hr3⟩ : ∃ r, H.ror y 17 = r := ⟨_, rfl⟩
          obtain ⟨r4, hr4⟩ : ∃ r, H.ror y 19 = r := ⟨_, rfl⟩
          have k1 := Lib.hid (hr x 7 l15 (by omega) (by omega) r1 hr1 7 rfl)
          have k2 := Lib.hid (hr x 18 l15 (by omega) (by omega) r2 hr2 18 rfl)
          have k3 := Lib.hid (hr y 17 l2 (by omega) (by omega) r3 hr3 17 rfl)
          have k4 := Lib.hid (hr y 19 l2 (by omega) (by omega) r4 hr4 19 rfl)
          have R1 := Lib.hid hr1; have R2 := Lib.hid hr2; have R3 := Lib.hid hr3; have R4 := Lib.hid hr4
          clear hr hr1 hr2 hr3 hr4
          go_wp2_with fail
          have e16 : ∀ z, (wq.setCell ⟨w.heap.size, t, none⟩ z).cell? ⟨w.heap.size, t - 16, none⟩ = some (.int .u32 (u : Nat)) := fun z => (cell_set_off (by omega)).trans c16
          have e7 : ∀ z, (wq.setCell ⟨w.heap.size, t, none⟩ z).cell? ⟨w.heap.size, t - 7, none⟩ = some (.int .u32 (v : Nat)) := fun z => (cell_set_off (by omega)).trans c7
          go_region_held3 (fun w' => w'.cell? ⟨w.heap.size, t - 16, none⟩ = some (.int .u32 (u : Nat)) ∧ w'.cell? ⟨w.heap.size, t - 7, none⟩ = some (.int .u32 (v : Nat))) (first | exact ⟨c16, c7⟩ | exact ⟨e16 _, e7 _⟩ | go_keep)
            (first
              | (go_at_call 41; (with_reducible refine (k1.out _).mono ?_); rintro e w1 ⟨rfl, rfl⟩)
              | (go_at_call 41; (with_reducible refine (k2.out _).mono ?_); rintro e w1 ⟨rfl, rfl⟩)
              | (go_at_call 41; (with_reducible refine (k3.out _).mono ?_); rintro e w1 ⟨rfl, rfl⟩)
              | (go_at_call 41; (with_reducible refine (k4.out _).mono ?_); rintro e w1 ⟨rfl, rfl⟩))
          have hval : (u + (r1 ^^^ r2 ^^^ x / 8) + v + (r3 ^^^ r4 ^^^ y / 1024)) % 4294967296 = H.sched (H.expand bs j) t := by
            rw [H.sched, HX.out, HY.out, HU.out, HV.out, H.sig0, H.sig1, R1.out, R2.out, R3.out, R4.out]
          have b1 : r1 < 4294967296 := by rw [← R1.out]; exact H.ror_lt _ _ l15
          have b2 : r2 < 4294967296 := by rw [← R2.out]; exact H.ror_lt _ _ l15
          have b3 : r3 < 4294967296 := by rw [← R3.out]; exact H.ror_lt _ _ l2
          have b4 : r4 < 4294967296 := by rw [← R4.out]; exact H.ror_lt _ _ l2
          rw [sched_val (u := u) (v := v) l15 l2 b1 b2 b3 b4, hval]
          have hset : H.expand bs (j + 1) = (H.expand bs j).set t (H.sched (H.expand bs j) t) := by rw [H.expand, HT.out]
          have HN := HRq.out.store t (H.sched (H.expand bs j) t)
          rw [← hset] at HN
          have HN2 := Lib.hid HN.drew
          have HJ : Hid (t + 1 = 16 + (j + 1)) := Lib.hid (by have := HT.out; omega)
          clear HN hset hval b1 b2 b3 b4 s16 s7 p16 p7 q16 q7 z16 z7 z0 z64 n16 n7 e16 e7 k1 k2 k3 k4 R1 R2 R3 R4 c16 c7 ct ft HX HY HU HV HLT l16 l15 l7 l2
          generalize (wq.setCell ⟨w.heap.size, t, none⟩ (.int .u32 (H.sched (H.expand bs j) t : Nat))).drew = W1 at *
          go_wp2_with fail
          go_roundw
          case rel => exact ⟨j + 1, by have := HJ.out; omega, by rw [← HJ.out]; go_num, HN2⟩
          case measure => simp [intOf]; omega
        · have hj48 : j = 48 := by omega
          have HRW : Hid (Ro w wr (H.expand bs 48)) := by rw [hj48] at HR; exact HR
          clear hj48 HR
          go_upto_region 11 with (fail)
          refine wp_region_list ?_
          refine wpList_load_row rfl 67 _ rfl w.heap.size rfl _ _ _ _ HRW.out.ws Tryd.underlying67 rfl (by rw [words_size, H.expand_len]; kernel_rfl) ?_
          refine wpList_store_row rfl 67 _ _ rfl w.heap.size (words (H.expand bs 48)) rfl rfl _ _ HRW.out.ws (by rw [words_size, H.expand_len]; kernel_rfl) rfl (words_one _) ?_
          rw [setRow_self _ _ _ _ _ HRW.out.ws]
          refine wpList_nil ?_
          go_wp2_with fail
          refine bodyPost_ret (v := .agg (words (H.expand bs 48))) ?_ rfl ⟨rfl, HRW.out.below⟩
          exact results_cell_row Tryd.results40 _ _ w.heap.size _ _ _ _ rfl HRW.out.ws Tryd.underlying67 rfl (by rw [words_size, H.expand_len]; kernel_rfl)

end Go.Proofs.YthamligdmfhmeaaDoor
