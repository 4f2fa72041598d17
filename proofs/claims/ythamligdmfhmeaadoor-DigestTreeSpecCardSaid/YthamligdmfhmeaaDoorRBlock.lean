/- Contract of the reference's block. -/
import Derived.Test.YthamligdmfhmeaaDoorAbsorb
namespace Go.Proofs.YthamligdmfhmeaaDoor
open Go.RowKit

theorem wpl_build8 {ops : Array Oper} {rest : List Oper} {o : Oper} {a : Act} {w : World} {Q : Exit → Act → World → Prop} (hg : o.guard = none) (t : TypeId) (parts : Array (Nat × Operand)) (ho : o.op = .build t parts)
    (cells : Array Value) (hb : Tryd.prog.built t (parts.map fun (i, x) => (i, a.eval x)).toList = some cells) (h : wpList Tryd.prog ops Q rest (a.put o.dst (.agg cells)) w) : wpList Tryd.prog ops Q (o :: rest) a w :=
  wpList_build hg t parts ho (by rw [hb]; rfl) (by rw [hb]; exact h)
set_option maxRecDepth 100000 in
theorem built8 (a b c d e f g h : Int) : Tryd.prog.built 53 [(0, .int .u32 a), (1, .int .u32 b), (2, .int .u32 c), (3, .int .u32 d), (4, .int .u32 e), (5, .int .u32 f), (6, .int .u32 g), (7, .int .u32 h)] = some #[.int .u32 a, .int .u32 b, .int .u32 c, .int .u32 d, .int .u32 e, .int .u32 f, .int .u32 g, .int .u32 h] := by kernel_rfl
theorem words_add8 (s t : H.St) : (#[.int .u32 (((s.a : Int) + (t.a : Int)) % 4294967296), .int .u32 (((s.b : Int) + (t.b : Int)) % 4294967296), .int .u32 (((s.c : Int) + (t.c : Int)) % 4294967296), .int .u32 (((s.d : Int) + (t.d : Int)) % 4294967296), .int .u32 (((s.e : Int) + (t.e : Int)) % 4294967296), .int .u32 (((s.f : Int) + (t.f : Int)) % 4294967296), .int .u32 (((s.g : Int) + (t.g : Int)) % 4294967296), .int .u32 (((s.h : Int) + (t.h : Int)) % 4294967296)] : Array Value) = words (s.add t).list := by
  simp [words, H.St.list, H.St.add]

set_option maxRecDepth 100000 in
set_option maxHeartbeats 20000000 in
theorem rblock_any (s : H.St) (hs : s.ok) (b off cap : Nat) (bs : List UInt8) (w : World) (hcap : 64 ≤ cap) (hb : b < w.heap.size) (hc : ∀ i, i < 64 → w.cell? ⟨b, off + i, none⟩ = some (.int .u8 (H.byte bs i))) :
    Calls Tryd.prog 46 #[.agg (words s.list), .slice (some ⟨b, off, none⟩) 64 cap] w fun e w' => e = .returned (.agg (words (s.block bs).list)) ∧ Below w.heap.size w w' := by
  go_enter Tryd.func46, Tryd.ntmps46
  go_step
  go_step
  go_step
  go_step
  go_step
  go_step
  go_step
  go_step
  go_step
  refine wpList_nil ?_
  rename_i K1 hK1
  refine hK1 _ _ ?_
  clear hK1
  go_step
  refine wp_region_list ?_
  refine wpl_build_none rfl 67 rfl (words (H.fill bs 0)) (by kernel_rfl) ?_
  refine wpl_alloc_row rfl 67 rfl (words (H.fill bs 0)) (fun _ => by kernel_rfl) ?_
  refine wpList_store_row rfl 67 _ _ rfl _ (words (H.fill bs 0)) rfl rfl _ _ (heap_alloc_new _ _) (by kernel_rfl) rfl (words_one _) ?_
  rw [World.setRow_alloc_new]
  refine wpList_nil ?_
  rename_i K2 hK2
  refine hK2 _ _ ?_
  clear hK2
  have HB : Hid (Bx w (((w.alloc (.cells (words s.list) 53)).alloc (.cells #[.int .u32 0, .int .u32 0, .int .u32 0, .int .u32 0, .int .u32 0, .int .u32 0, .int .u32 0, .int .u32 0] 53)).alloc (.cells (words (H.fill bs 0)) 67)) s (H.fill bs 0)) := Lib.hid (by
    refine ⟨?_, ⟨#[.int .u32 0, .int .u32 0, .int .u32 0, .int .u32 0, .int .u32 0, .int .u32 0, .int .u32 0, .int .u32 0], ?_, rfl⟩, ?_, (((Below.refl _ _).alloc (Nat.le_refl _) _).alloc (by simp) _).alloc (by simp; omega) _⟩
    · rw [Below.heap_alloc _ _ _ (by simp; omega), Below.heap_alloc _ _ _ (by simp)]; exact heap_alloc_new w _
    · rw [Below.heap_alloc _ _ _ (by simp)]
      simpa using heap_alloc_new (w.alloc (.cells (words s.list) 53)) (.cells #[.int .u32 0, .int .u32 0, .int .u32 0, .int .u32 0, .int .u32 0, .int .u32 0, .int .u32 0, .int .u32 0] 53)
    · simpa using heap_alloc_new ((w.alloc (.cells (words s.list) 53)).alloc (.cells #[.int .u32 0, .int .u32 0, .int .u32 0, .int .u32 0, .int .u32 0, .int .u32 0, .int .u32 0, .int .u32 0] 53)) (.cells (words (H.fill bs 0)) 67))
  have HC := Lib.hid hc; have HS := Lib.hid hs
  clear hc hs
  go_simp
  generalize ((w.alloc (.cells (words s.list) 53)).alloc (.cells #[.int .u32 0, .int .u32 0, .int .u32 0, .int .u32 0, .int .u32 0, .int .u32 0, .int .u32 0, .int .u32 0] 53)).alloc (.cells (words (H.fill bs 0)) 67) = W0 at *
  go_wp2_with fail
  go_loopw [6] (fun ii wr => ∃ j : Nat, j ≤ 16 ∧ ii = .int .i64 j ∧ Hid (Bx w wr s (H.fill bs j)))
    (fun ii _ => 16 - (intOf ii).toNat)
  case atStart => exact ⟨0, Nat.zero_le _, rfl, HB⟩
  case round =>
    obtain ⟨j, hj, rfl, HR⟩ := hrel
    by_cases hlt : j < 16
    · have hsl : ∀ W : World, (Instr.slice 22 (.slice (some ⟨b, off, none⟩) 64 cap) (some (.int .i64 (4 * (j : Int)))) (some (.int .i64 (4 * (j : Int) + 4))) none).run Tryd.prog W = .ok (.slice (some ⟨b, off + 4 * j, none⟩) 4 (cap - 4 * j)) W := by
        intro W
        rw [run_slice_lh (P := Tryd.prog) (w := W) 22 _ 64 cap (by kernel_rfl) .i64 .i64 _ _ (by omega) (by omega) (by omega)]
        have h1 : (sizeOf (Tryd.prog.elem 22)).run Tryd.prog W = .ok 1 W := by kernel_rfl
        have e1 : (4 * (j : Int)).toNat = 4 * j := by omega
        have e2 : (4 * (j : Int) + 4).toNat = 4 * j + 4 := by omega
        rw [h1, e1, e2]
        simp only [Result.andThen, sliced]
        rw [if_neg (by omega)]
        simp [Addr.add]
      have hcell : ∀ k, k < 4 → wr.cell? ⟨b, off + 4 * j + k, none⟩ = some (.int .u8 (H.byte bs (4 * j + k))) := fun k hk => by
        rw [Nat.add_assoc]
        exact (HR.out.below.cell hb).trans (HC.out (4 * j + k) (by omega))
      have hw := rword_any b (off + 4 * j) (cap - 4 * j) _ _ _ _ wr (by omega) (H.byte_lt bs (4 * j)) (H.byte_lt bs (4 * j + 1)) (H.byte_lt bs (4 * j + 2)) (H.byte_lt bs (4 * j + 3)) (hcell 0 (by omega)) (hcell 1 (by omega)) (hcell 2 (by omega)) (hcell 3 (by omega))
      have HWD := Lib.hid hw
      obtain ⟨hcl, hfr⟩ := words_cell HR.out.ws (i := j) (by rw [H.fill_len]; omega)
      clear hw hcell
      go_wp2_with fail
      refine HWD.out.mono ?_
      rintro e w2 ⟨rfl, rfl⟩
      go_wp2_with fail
      have HN : Hid (Bx w (wr.drew.setCell ⟨w.heap.size + 1 + 1, j, none⟩ (.int .u32 (H.word (H.byte bs (4 * j)) (H.byte bs (4 * j + 1)) (H.byte bs (4 * j + 2)) (H.byte bs (4 * j + 3)) : Nat))) s (H.fill bs (j + 1))) :=
        Lib.hid (HR.out.drew.store j _)
      go_roundw
      case rel => exact ⟨j + 1, by omega, by go_num, HN⟩
      case measure => simp [intOf]; omega
    · have hj16 : j = 16 := by omega
      have HR16 : Hid (Bx w wr s (H.expand bs 0)) := by rw [hj16] at HR; exact HR
      clear hj16 HR HB
      go_wp2_with fail
      clear hj hlt
      generalize j = j0 at *
      go_loopw [7] (fun ii wr => ∃ j : Nat, j ≤ 48 ∧ ii = .int .i64 ((16 + j : Nat) : Int) ∧ Hid (Bx w wr s (H.expand bs j)))
        (fun ii _ => 64 - (intOf ii).toNat)
      case atStart => exact ⟨0, Nat.zero_le _, rfl, HR16⟩
      case round =>
        obtain ⟨j, hj, rfl, HR⟩ := hrel
        clear HR16
        generalize ht : 16 + j = t at *
        have ht0 : 16 ≤ t := by omega
        have hlen := H.expand_len bs j
        by_cases hlt : t < 64
        · obtain ⟨c16, _⟩ := words_cell HR.out.ws (i := t - 16) (by omega)
          obtain ⟨c15, _⟩ := words_cell HR.out.ws (i := t - 15) (by omega)
          obtain ⟨c7, _⟩ := words_cell HR.out.ws (i := t - 7) (by omega)
          obtain ⟨c2, _⟩ := words_cell HR.out.ws (i := t - 2) (by omega)
          obtain ⟨ct, ft⟩ := words_cell HR.out.ws (i := t) (by omega)
          have hlt' : ∀ i, (H.expand bs j).getD i 0 < 4294967296 := fun i => H.getD_lt (H.expand_lt bs j) i
          have l16 := hlt' (t - 16); have l15 := hlt' (t - 15); have l7 := hlt' (t - 7); have l2 := hlt' (t - 2)
          have HLT := Lib.hid hlt'
          clear hlt'
          generalize hx : (H.expand bs j).getD (t - 15) 0 = x at *
          generalize hy : (H.expand bs j).getD (t - 2) 0 = y at *
          generalize hu : (H.expand bs j).getD (t - 16) 0 = u at *
          generalize hv : (H.expand bs j).getD (t - 7) 0 = v at *
          have HX := Lib.hid hx; have HY := Lib.hid hy; have HU := Lib.hid hu; have HV := Lib.hid hv; have HT := Lib.hid ht
          clear hx hy hu hv hlen ht
          go_wp2_with fail
          have s16 : IntKind.i64.wrap ((t : Int) - 16) = (t : Int) - 16 := IntWalk.i64_in _ (by omega)
          have s7 : IntKind.i64.wrap ((t : Int) - 7) = (t : Int) - 7 := IntWalk.i64_in _ (by omega)
          have p16 : 0 ≤ (t : Int) - 16 := by omega
          have p7 : 0 ≤ (t : Int) - 7 := by omega
          have q16 : (t : Int) - 16 < 64 := by omega
          have z16 : (16 : Int) ≤ (t : Int) := by omega
          have z7 : (7 : Int) ≤ (t : Int) := by omega
          have z0 : (0 : Int) ≤ (t : Int) := by omega
          have z64 : (t : Int) < 64 := by omega
          have q7 : (t : Int) - 7 < 64 := by omega
          have n16 : ((t : Int) - 16).toNat = t - 16 := by omega
          have n7 : ((t : Int) - 7).toNat = t - 7 := by omega
          have hr : ∀ (z n : Nat) (_ : z < 4294967296) (_ : n ≤ 31) (r : Nat) (_ : H.ror z n = r) (m : Int) (_ : m = n) (W : World), Calls Tryd.prog 49 #[.int .u32 z, .int .i64 m] W fun e w' => e = .returned (.int .u32 (r : Nat)) ∧ w' = W.drew := fun z n h1 h2 r hr m hm W => by subst hr; exact rror_any z n W h1 h2 m hm
          obtain ⟨r1, hr1⟩ : ∃ r, H.ror x 7 = r := ⟨_, rfl⟩
          obtain ⟨r2, hr2⟩ : ∃ r, H.ror x 18 = r := ⟨_, rfl⟩
          obtain ⟨r3, hr3⟩ : ∃ r, H.ror y 17 = r := ⟨_, rfl⟩
          obtain ⟨r4, hr4⟩ : ∃ r, H.ror y 19 = r := ⟨_, rfl⟩
          have k1 := Lib.hid (hr x 7 l15 (by omega) r1 hr1 7 rfl)
          have k2 := Lib.hid (hr x 18 l15 (by omega) r2 hr2 18 rfl)
          have k3 := Lib.hid (hr y 17 l2 (by omega) r3 hr3 17 rfl)
          have k4 := Lib.hid (hr y 19 l2 (by omega) r4 hr4 19 rfl)
          have R1 := Lib.hid hr1; have R2 := Lib.hid hr2; have R3 := Lib.hid hr3; have R4 := Lib.hid hr4
          clear hr hr1 hr2 hr3 hr4 c15 c2
          have e16 : ∀ z, (wr.setCell ⟨w.heap.size + 1 + 1, t, none⟩ z).cell? ⟨w.heap.size + 1 + 1, t - 16, none⟩ = some (.int .u32 (u : Nat)) := fun z => (cell_set_off (by omega)).trans c16
          have e7 : ∀ z, (wr.setCell ⟨w.heap.size + 1 + 1, t, none⟩ z).cell? ⟨w.heap.size + 1 + 1, t - 7, none⟩ = some (.int .u32 (v : Nat)) := fun z => (cell_set_off (by omega)).trans c7
          go_region_held3 (fun w' => w'.cell? ⟨w.heap.size + 1 + 1, t - 16, none⟩ = some (.int .u32 (u : Nat)) ∧ w'.cell? ⟨w.heap.size + 1 + 1, t - 7, none⟩ = some (.int .u32 (v : Nat))) (first | exact ⟨c16, c7⟩ | exact ⟨e16 _, e7 _⟩ | go_keep)
            (first
              | (go_at_call 49; (with_reducible refine (k1.out _).mono ?_); rintro e w1 ⟨rfl, rfl⟩)
              | (go_at_call 49; (with_reducible refine (k2.out _).mono ?_); rintro e w1 ⟨rfl, rfl⟩)
              | (go_at_call 49; (with_reducible refine (k3.out _).mono ?_); rintro e w1 ⟨rfl, rfl⟩)
              | (go_at_call 49; (with_reducible refine (k4.out _).mono ?_); rintro e w1 ⟨rfl, rfl⟩))
          have hval : (u + (r1 ^^^ r2 ^^^ x / 8) + v + (r3 ^^^ r4 ^^^ y / 1024)) % 4294967296 = H.sched (H.expand bs j) t := by
            rw [H.sched, HX.out, HY.out, HU.out, HV.out, H.sig0, H.sig1, R1.out, R2.out, R3.out, R4.out]
          have b1 : r1 < 4294967296 := by rw [← R1.out]; exact H.ror_lt _ _ l15
          have b2 : r2 < 4294967296 := by rw [← R2.out]; exact H.ror_lt _ _ l15
          have b3 : r3 < 4294967296 := by rw [← R3.out]; exact H.ror_lt _ _ l2
          have b4 : r4 < 4294967296 := by rw [← R4.out]; exact H.ror_lt _ _ l2
          rw [sched_val (u := u) (v := v) l15 l2 b1 b2 b3 b4, hval]
          have hset : H.expand bs (j + 1) = (H.expand bs j).set t (H.sched (H.expand bs j) t) := by rw [H.expand, HT.out]
          have HN := HR.out.store t (H.sched (H.expand bs j) t)
          rw [← hset] at HN
          have HN2 := Lib.hid HN.drew.drew.drew.drew.drew
          have HJ : Hid (t + 1 = 16 + (j + 1)) := Lib.hid (by have := HT.out; omega)
          clear HN hset hval b1 b2 b3 b4 s16 s7 p16 p7 q16 q7 z16 z7 z0 z64 n16 n7 e16 e7 k1 k2 k3 k4 R1 R2 R3 R4 c16 c7 ct ft HX HY HU HV HLT l16 l15 l7 l2
          generalize (wr.setCell ⟨w.heap.size + 1 + 1, t, none⟩ (.int .u32 (H.sched (H.expand bs j) t : Nat))).drew.drew.drew.drew.drew = W1 at *
          go_wp2_with fail
          go_roundw
          case rel => exact ⟨j + 1, by have := HJ.out; omega, by rw [← HJ.out]; go_num, HN2⟩
          case measure => simp [intOf]; omega
        · have hj48 : j = 48 := by omega
          have HRW : Hid (Bx w wr s (H.expand bs 48)) := by rw [hj48] at HR; exact HR
          clear hj48 HR
          go_wp2_with fail
          clear hj hlt ht0 ht hlen
          generalize t = t0 at *
          refine (numbers_any _).mono ?_
          rintro e w2 ⟨rfl, hb2⟩
          rename_i K3 hK3 h64
          refine hK3 _ _ ?_
          clear hK3
          refine wpl_alloc_row rfl 67 rfl (words (H.fill bs 0)) (fun _ => by kernel_rfl) ?_
          refine wpList_store_row rfl 67 _ _ rfl _ (words H.K) rfl rfl _ _ (heap_alloc_new _ _) (by kernel_rfl) (by rw [words_size, words_size, H.fill_len]; rfl) (words_one _) ?_
          rw [World.setRow_alloc_new]
          refine wpList_nil ?_
          have hA2 : Below w2.heap.size w2 (w2.alloc (.cells (words H.K) 67)) := (Below.refl _ _).alloc (Nat.le_refl _) _
          have HBK := Lib.hid (HRW.out.kept (hb2.trans (hA2.mono hb2.size)))
          have hkr := heap_alloc_new w2 (.cells (words H.K) 67)
          have HKR := Lib.hid hkr
          clear hA2 hkr hb2 HRW HC
          go_simp
          generalize w2.alloc (.cells (words H.K) 67) = WK at *
          generalize w2.heap.size = kb at *
          obtain ⟨c0, c1, c2, c3, c4, c5, c6, c7⟩ := HBK.out.cells
          go_wp2_with fail
          go_quiet (fail)
          go_wp2_with fail
          clear c0 c1 c2 c3 c4 c5 c6 c7
          have HS0 := Lib.hid (H.rounds_ok HS.out (H.expand bs 48))
          go_loopw [11, 12, 13, 14, 15, 16, 17, 18, 19] (fun va vb vc vd ve vf vg vh ii wr => ∃ (j : Nat) (S : H.St), j ≤ 64 ∧ ii = .int .i64 j ∧ va = .int .u32 (S.a : Nat) ∧ vb = .int .u32 (S.b : Nat) ∧ vc = .int .u32 (S.c : Nat) ∧ vd = .int .u32 (S.d : Nat) ∧ ve = .int .u32 (S.e : Nat) ∧ vf = .int .u32 (S.f : Nat) ∧ vg = .int .u32 (S.g : Nat) ∧ vh = .int .u32 (S.h : Nat) ∧ Hid (s.rounds (H.expand bs 48) j = S) ∧ Hid (Bx w wr s (H.expand bs 48)) ∧ Hid (wr.heap[kb]? = some (.cells (words H.K) 67 (0, 0))))
            (fun _ _ _ _ _ _ _ _ ii _ => 64 - (intOf ii).toNat)
          case atStart => exact ⟨0, s, Nat.zero_le _, rfl, rfl, rfl, rfl, rfl, rfl, rfl, rfl, rfl, Lib.hid rfl, Lib.hid (HBK.out.drewN _), Lib.hid HKR.out⟩
          case round =>
            obtain ⟨j, S, hj, rfl, rfl, rfl, rfl, rfl, rfl, rfl, rfl, rfl, HJS, HB3, HK3⟩ := hrel
            obtain ⟨Sa, Sb, Sc, Sd, Se, Sf, Sg, Sh⟩ := S
            by_cases hlt : j < 64
            · have hok : H.St.ok ⟨Sa, Sb, Sc, Sd, Se, Sf, Sg, Sh⟩ := by rw [← HJS.out]; exact HS0.out j
              obtain ⟨oa, ob, oc, od, oe, of, og, oh⟩ := hok
              simp only at oa ob oc od oe of og oh
              have HOK := Lib.hid (And.intro oa (And.intro ob (And.intro oc (And.intro od (And.intro oe (And.intro of (And.intro og oh)))))))
              have hr : ∀ (z n : Nat) (_ : z < 4294967296) (_ : n ≤ 31) (r : Nat) (_ : H.ror z n = r) (m : Int) (_ : m = n) (W : World), Calls Tryd.prog 49 #[.int .u32 z, .int .i64 m] W fun e w' => e = .returned (.int .u32 (r : Nat)) ∧ w' = W.drew := fun z n h1 h2 r hr m hm W => by subst hr; exact rror_any z n W h1 h2 m hm
              have hN : ∀ (z n : Nat) (_ : z < 4294967296) (_ : n ≤ 31) (r : Nat) (_ : H.ror z n = r) (m : Int) (_ : m = n) (W : World) (k : Nat), Calls Tryd.prog 49 #[.int .u32 z, .int .i64 m] (W.drewN k) fun e w' => e = .returned (.int .u32 (r : Nat)) ∧ ∃ k', w' = W.drewN k' := fun z n h1 h2 r h3 m h4 W k => (hr z n h1 h2 r h3 m h4 _).mono (fun _ _ h => ⟨h.1, k + 1, by rw [h.2]; rfl⟩)
              obtain ⟨r1, hr1⟩ : ∃ r, H.ror Se 6 = r := ⟨_, rfl⟩
              obtain ⟨r2, hr2⟩ : ∃ r, H.ror Se 11 = r := ⟨_, rfl⟩
              obtain ⟨r3, hr3⟩ : ∃ r, H.ror Se 25 = r := ⟨_, rfl⟩
              obtain ⟨q1, hq1⟩ : ∃ r, H.ror Sa 2 = r := ⟨_, rfl⟩
              obtain ⟨q2, hq2⟩ : ∃ r, H.ror Sa 13 = r := ⟨_, rfl⟩
              obtain ⟨q3, hq3⟩ : ∃ r, H.ror Sa 22 = r := ⟨_, rfl⟩
              have k1 := Lib.hid (hN Se 6 oe (by omega) r1 hr1 6 rfl)
              have k2 := Lib.hid (hN Se 11 oe (by omega) r2 hr2 11 rfl)
              have k3 := Lib.hid (hN Se 25 oe (by omega) r3 hr3 25 rfl)
              have m1 := Lib.hid (hr Sa 2 oa (by omega) q1 hq1 2 rfl)
              have m2 := Lib.hid (hr Sa 13 oa (by omega) q2 hq2 13 rfl)
              have m3 := Lib.hid (hr Sa 22 oa (by omega) q3 hq3 22 rfl)
              have R1 := Lib.hid hr1; have R2 := Lib.hid hr2; have R3 := Lib.hid hr3; have Q1 := Lib.hid hq1; have Q2 := Lib.hid hq2; have Q3 := Lib.hid hq3
              clear hr hN hr1 hr2 hr3 hq1 hq2 hq3 ob oc od of og oh
              go_wp2_with fail
              obtain ⟨ck, _⟩ := words_cell HK3.out (i := j) (by simpa [H.K] using hlt)
              obtain ⟨cw, _⟩ := words_cell HB3.out.ws (i := j) (by rw [H.expand_len]; exact hlt)
              generalize hkj : H.K.getD j 0 = kj at ck
              generalize hwj : (H.expand bs 48).getD j 0 = wj at cw
              have HKJ := Lib.hid hkj; have HWJ := Lib.hid hwj
              clear hkj hwj
              go_quiet ((first
                | (go_at_call 49; with_reducible exact k1.out _ _)
                | (go_at_call 49; with_reducible exact k2.out _ _)
                | (go_at_call 49; with_reducible exact k3.out _ _)))
              have b1 : r1 < 4294967296 := by rw [← R1.out]; exact H.ror_lt _ _ HOK.out.2.2.2.2.1
              have b2 : r2 < 4294967296 := by rw [← R2.out]; exact H.ror_lt _ _ HOK.out.2.2.2.2.1
              have b3 : r3 < 4294967296 := by rw [← R3.out]; exact H.ror_lt _ _ HOK.out.2.2.2.2.1
              rw [p_val2 HOK.out.2.2.2.2.1 HOK.out.2.2.2.2.2.1 HOK.out.2.2.2.2.2.2.1 b1 b2 b3]
              obtain ⟨pv, hpv⟩ : ∃ pv, (Sh + (r1 ^^^ r2 ^^^ r3) + ((Se &&& Sf) ^^^ ((4294967295 - Se) &&& Sg)) + kj + wj) % 4294967296 = pv := ⟨_, rfl⟩
              rw [hpv]
              have HPV := Lib.hid hpv
              have HB4 := Lib.hid (HB3.out.drewN nq)
              have HK4 := Lib.hid (show (wr.drewN nq).heap[kb]? = some (.cells (words H.K) 67 (0, 0)) from HK3.out)
              clear hpv b1 b2 b3 ck cw k1 k2 k3 HB3 HK3
              generalize wr.drewN nq = wq2 at HB4 HK4 ⊢
              go_wp2_with (first
                | (go_at_call 49; (with_reducible refine (m1.out _).mono ?_); rintro e w1 ⟨rfl, rfl⟩)
                | (go_at_call 49; (with_reducible refine (m2.out _).mono ?_); rintro e w1 ⟨rfl, rfl⟩)
                | (go_at_call 49; (with_reducible refine (m3.out _).mono ?_); rintro e w1 ⟨rfl, rfl⟩))
              go_roundw
              case rel =>
                have d1 : q1 < 4294967296 := by rw [← Q1.out]; exact H.ror_lt _ _ HOK.out.1
                have d2 : q2 < 4294967296 := by rw [← Q2.out]; exact H.ror_lt _ _ HOK.out.1
                have d3 : q3 < 4294967296 := by rw [← Q3.out]; exact H.ror_lt _ _ HOK.out.1
                have eq := q_val2 HOK.out.1 HOK.out.2.1 HOK.out.2.2.1 d1 d2 d3
                have hp : H.St.p ⟨Sa, Sb, Sc, Sd, Se, Sf, Sg, Sh⟩ kj wj = pv := by rw [← HPV.out, ← R1.out, ← R2.out, ← R3.out]; rfl
                have hq : H.St.q ⟨Sa, Sb, Sc, Sd, Se, Sf, Sg, Sh⟩ = ((q1 ^^^ q2 ^^^ q3) + ((Sa &&& Sb) ^^^ (Sa &&& Sc) ^^^ (Sb &&& Sc))) % 4294967296 := by rw [← Q1.out, ← Q2.out, ← Q3.out]; rfl
                refine ⟨j + 1, H.St.step ⟨Sa, Sb, Sc, Sd, Se, Sf, Sg, Sh⟩ kj wj, by omega, by go_num, ?_, rfl, rfl, rfl, ?_, rfl, rfl, rfl, ?_, ?_, ?_⟩
                · rw [eq, H.St.step, hp, hq]
                  congr 1
                · rw [H.St.step, hp]
                  congr 1
                · exact Lib.hid (by rw [H.St.rounds, HJS.out, HKJ.out, HWJ.out])
                · exact Lib.hid HB4.out.drew.drew.drew
                · exact HK4
              case measure => simp [intOf]; omega
            · have hj64 : j = 64 := by omega
              have HE : Hid (s.rounds (H.expand bs 48) 64 = ⟨Sa, Sb, Sc, Sd, Se, Sf, Sg, Sh⟩) := by rw [hj64] at HJS; exact HJS
              clear hj64 HJS HBK HKR HK3
              obtain ⟨c0, c1, c2, c3, c4, c5, c6, c7⟩ := HB3.out.cells
              go_upto_region 20 with (fail)
              refine wp_region_list ?_
              repeat (fail_if_success (refine wpl_build8 rfl 53 _ rfl #[] ?_ ?_)
                      go_step)
              have e8 := words_add8 s ⟨Sa, Sb, Sc, Sd, Se, Sf, Sg, Sh⟩
              simp only at e8
              rw [show s.add ⟨Sa, Sb, Sc, Sd, Se, Sf, Sg, Sh⟩ = s.block bs by rw [H.St.block, HE.out]] at e8
              have E8 := Lib.hid e8
              clear e8
              refine wpl_build8 rfl 53 _ rfl (words (s.block bs).list) ?hbuilt ?_
              case hbuilt =>
                rw [← E8.out]
                simp [Act.eval]
                with_reducible exact built8 _ _ _ _ _ _ _ _
              clear E8
              go_simp
              obtain ⟨cs, hcs, hcz⟩ := HB3.out.out
              refine wpList_store_row rfl 53 _ _ rfl (w.heap.size + 1) (words (s.block bs).list) rfl rfl _ _ hcs (by rw [words_size]; kernel_rfl) (by rw [words_size, hcz]; rfl) (words_one _) ?_
              refine wpList_nil ?_
              go_wp2_with fail
              have hbl := HB3.out.below
              refine bodyPost_ret (v := .agg (words (s.block bs).list)) ?_ rfl ⟨rfl, ⟨hbl.os, hbl.tape, hbl.output, by rw [setRow_size]; exact hbl.size, fun k hk => (setRow_other _ _ _ _ (by omega)).trans (hbl.block k hk)⟩⟩
              exact results_cell_row Tryd.results46 _ _ (w.heap.size + 1) _ (words (s.block bs).list) _ _ rfl (setRow_heap wr (w.heap.size + 1) _ _ _ _ hcs) Tryd.underlying53 rfl (by rw [words_size]; kernel_rfl)

end Go.Proofs.YthamligdmfhmeaaDoor
