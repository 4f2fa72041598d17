/- Contract of digest's absorb. -/
import Derived.Test.YthamligdmfhmeaaDoorSched
namespace Go.Proofs.YthamligdmfhmeaaDoor
open Go.RowKit

/-- Nothing has changed but block g, and what is new. -/
structure But (g : Nat) (w w' : World) : Prop where
  os : w'.os = w.os
  tape : w'.tape = w.tape
  output : w'.output = w.output
  size : w.heap.size ≤ w'.heap.size
  block : ∀ k, k < w.heap.size → k ≠ g → w'.heap[k]? = w.heap[k]?
theorem But.refl (g : Nat) (w : World) : But g w w := ⟨rfl, rfl, rfl, Nat.le_refl _, fun _ _ _ => rfl⟩
theorem But.trans {g : Nat} {a b c : World} (h : But g a b) (k : But g b c) : But g a c :=
  ⟨k.os.trans h.os, k.tape.trans h.tape, k.output.trans h.output, Nat.le_trans h.size k.size, fun i hi hn => (k.block i (Nat.lt_of_lt_of_le hi h.size) hn).trans (h.block i hi hn)⟩
theorem But.drew {g : Nat} {a w : World} (h : But g a w) : But g a w.drew := ⟨h.os, h.tape, h.output, h.size, h.block⟩
theorem But.drewN {g : Nat} {a w : World} (h : But g a w) (n : Nat) : But g a (w.drewN n) := ⟨h.os, h.tape, h.output, h.size, h.block⟩
theorem But.of_below {g : Nat} {a w : World} (h : Below a.heap.size a w) : But g a w := ⟨h.os, h.tape, h.output, h.size, fun k hk _ => h.block k hk⟩
theorem But.below {g n : Nat} {a w : World} (h : But g a w) (hn : n ≤ g) (ha : n ≤ a.heap.size) : Below n a w := ⟨h.os, h.tape, h.output, h.size, fun k hk => h.block k (by omega) (by omega)⟩
theorem But.set {g : Nat} {a w : World} (h : But g a w) (i : Nat) (v : Value) : But g a (w.setCell ⟨g, i, none⟩ v) :=
  ⟨h.os, h.tape, h.output, by simp [World.setCell]; exact h.size, fun k hk hn => (heap_setCell_other _ _ _ _ (by simpa using hn)).trans (h.block k hk hn)⟩
theorem But.cell {g : Nat} {a w : World} (h : But g a w) {b i : Nat} (hb : b < a.heap.size) (hn : b ≠ g) : w.cell? ⟨b, i, none⟩ = a.cell? ⟨b, i, none⟩ := by
  simp only [World.cell?, h.block b hb hn]

/-- The table of the numbers K, in memory. -/
def KT (w : World) : Prop := ∀ i, i < 64 → w.cell? ⟨0, i, none⟩ = some (.int .u32 (H.K.getD i 0 : Nat))
theorem KT.pos {w : World} (h : KT w) : 0 < w.heap.size := by
  have := h 0 (by decide)
  simp only [World.cell?] at this
  by_cases hz : 0 < w.heap.size
  · exact hz
  · simp [Array.getElem?_eq_none (Nat.le_of_not_lt hz)] at this
theorem KT.kept {n : Nat} {w w' : World} (h : KT w) (hb : Below n w w') (hn : 0 < n) : KT w' := fun i hi => (hb.cell (p := ⟨0, i, none⟩) hn).trans (h i hi)
theorem KT.but {g : Nat} {w w' : World} (h : KT w) (hb : But g w w') (hn : g ≠ 0) : KT w' := fun i hi => (hb.cell h.pos (Ne.symm hn)).trans (h i hi)

theorem xor_max {e : Nat} (h : e < 4294967296) : 4294967295 ^^^ e = 4294967295 - e := by
  apply Nat.eq_of_testBit_eq
  intro i
  rw [Nat.testBit_xor, show 4294967295 = 2 ^ 32 - 1 from rfl, Nat.testBit_two_pow_sub_one, show 2 ^ 32 - 1 - e = 2 ^ 32 - (e + 1) from by omega, Nat.testBit_two_pow_sub_succ (by simpa using h)]
  by_cases hi : i < 32
  · simp [hi]
  · have hp : e < 2 ^ i := Nat.lt_of_lt_of_le (show e < 2 ^ 32 from h) (Nat.pow_le_pow_right (by decide) (by omega : 32 ≤ i))
    simp [hi, Nat.testBit_lt_two_pow hp]
theorem q_val2 {a b c r1 r2 r3 : Nat} (ha : a < 4294967296) (hb : b < 4294967296) (hc : c < 4294967296) (h1 : r1 < 4294967296) (h2 : r2 < 4294967296) (h3 : r3 < 4294967296) :
    (bits .xor .u32 (bits .xor .u32 (r1 : Int) (r2 : Int)) (r3 : Int) + bits .xor .u32 (bits .xor .u32 (bits .and .u32 (a : Int) (b : Int)) (bits .and .u32 (a : Int) (c : Int))) (bits .and .u32 (b : Int) (c : Int))) % 4294967296 = (((r1 ^^^ r2 ^^^ r3) + ((a &&& b) ^^^ (a &&& c) ^^^ (b &&& c))) % 4294967296 : Nat) := by
  have := q_val ha hb hc h1 h2 h3
  rw [IntKind.wrap_u32'] at this
  exact this
theorem p_val2 {h e f g k v r1 r2 r3 : Nat} (he : e < 4294967296) (hf : f < 4294967296) (hg : g < 4294967296) (h1 : r1 < 4294967296) (h2 : r2 < 4294967296) (h3 : r3 < 4294967296) :
    (((h : Int) + bits .xor .u32 (bits .xor .u32 (r1 : Int) (r2 : Int)) (r3 : Int) + bits .xor .u32 (bits .and .u32 (e : Int) (f : Int)) (bits .and .u32 (bits .xor .u32 (if IntKind.u32.signed = true then -1 else IntKind.u32.max) (e : Int)) (g : Int)) + (k : Int)) % 4294967296 + (v : Int)) % 4294967296 = ((h + (r1 ^^^ r2 ^^^ r3) + ((e &&& f) ^^^ ((4294967295 - e) &&& g)) + k + v) % 4294967296 : Nat) := by
  have e1 : bits .xor .u32 (if IntKind.u32.signed = true then -1 else IntKind.u32.max) (e : Int) = ((4294967295 - e : Nat) : Int) := by
    have := u32_xor_nat 4294967295 e (by decide) he
    rw [xor_max he] at this
    exact this
  rw [e1, xor3_val h1 h2 h3, u32_and_nat e f he hf, u32_and_nat (4294967295 - e) g (by omega) hg, u32_xor_nat _ _ (Nat.and_lt_two_pow (n := 32) _ hf) (Nat.and_lt_two_pow (n := 32) _ hg)]
  generalize r1 ^^^ r2 ^^^ r3 = A
  generalize (e &&& f) ^^^ ((4294967295 - e) &&& g) = B
  omega

namespace H
/-- The state s, the first i of its words with those of t added. -/
def St.addn (s t : St) (n : Nat) : List Nat := (List.zipWith (fun a b => (a + b) % 4294967296) (s.list.take n) (t.list.take n)) ++ s.list.drop n
theorem addn_zero (s t : St) : s.addn t 0 = s.list := by simp [St.addn, St.list]
theorem addn_all (s t : St) : s.addn t 8 = (s.add t).list := by simp [St.addn, St.list, St.add]
theorem addn_get (s t : St) {i : Nat} (h : i < 8) : (s.addn t i).getD i 0 = s.list.getD i 0 := by
  match i, h with
  | 0, _ | 1, _ | 2, _ | 3, _ | 4, _ | 5, _ | 6, _ | 7, _ => simp [St.addn, St.list]
theorem addn_set (s t : St) {i : Nat} (h : i < 8) : (s.addn t i).set i ((s.list.getD i 0 + t.list.getD i 0) % 4294967296) = s.addn t (i + 1) := by
  match i, h with
  | 0, _ | 1, _ | 2, _ | 3, _ | 4, _ | 5, _ | 6, _ | 7, _ => simp [St.addn, St.list]
theorem addn_len (s t : St) {i : Nat} (h : i ≤ 8) : (s.addn t i).length = 8 := by
  match i, h with
  | 0, _ | 1, _ | 2, _ | 3, _ | 4, _ | 5, _ | 6, _ | 7, _ | 8, _ => simp [St.addn, St.list]
end H
set_option maxRecDepth 100000 in
theorem index8 (t : H.St) (W : World) {i : Nat} (h : i < 8) : (Instr.index 53 (.agg #[.int .u32 (t.a : Nat), .int .u32 (t.b : Nat), .int .u32 (t.c : Nat), .int .u32 (t.d : Nat), .int .u32 (t.e : Nat), .int .u32 (t.f : Nat), .int .u32 (t.g : Nat), .int .u32 (t.h : Nat)]) (.int .i64 (i : Nat))).run Tryd.prog W = .ok (.int .u32 (t.list.getD i 0 : Nat)) W := by
  have e : i = 0 ∨ i = 1 ∨ i = 2 ∨ i = 3 ∨ i = 4 ∨ i = 5 ∨ i = 6 ∨ i = 7 := by omega
  rcases e with rfl | rfl | rfl | rfl | rfl | rfl | rfl | rfl
  all_goals rfl

/-- What the memory of a call of absorb holds: the state, the words of the block. -/
structure Ab (w wr : World) (g : Nat) (s : H.St) (ws : List Nat) : Prop where
  st : wr.heap[g]? = some (.cells (words s.list) 54 (0, 0))
  ws : ∃ c, c < wr.heap.size ∧ c ≠ g ∧ wr.heap[c]? = some (.cells (words ws) 67 (0, 0))
  but : But g w wr
theorem words8 (w : World) (g : Nat) (s : H.St) (t : TypeId) (h : w.heap[g]? = some (.cells (words s.list) t (0, 0))) :
    w.cell? ⟨g, 0, none⟩ = some (.int .u32 (s.a : Nat)) ∧ w.cell? ⟨g, 1, none⟩ = some (.int .u32 (s.b : Nat)) ∧ w.cell? ⟨g, 2, none⟩ = some (.int .u32 (s.c : Nat)) ∧ w.cell? ⟨g, 3, none⟩ = some (.int .u32 (s.d : Nat)) ∧
    w.cell? ⟨g, 4, none⟩ = some (.int .u32 (s.e : Nat)) ∧ w.cell? ⟨g, 5, none⟩ = some (.int .u32 (s.f : Nat)) ∧ w.cell? ⟨g, 6, none⟩ = some (.int .u32 (s.g : Nat)) ∧ w.cell? ⟨g, 7, none⟩ = some (.int .u32 (s.h : Nat)) :=
  ⟨(words_cell h (i := 0) (by simp [H.St.list])).1, (words_cell h (i := 1) (by simp [H.St.list])).1, (words_cell h (i := 2) (by simp [H.St.list])).1, (words_cell h (i := 3) (by simp [H.St.list])).1,
   (words_cell h (i := 4) (by simp [H.St.list])).1, (words_cell h (i := 5) (by simp [H.St.list])).1, (words_cell h (i := 6) (by simp [H.St.list])).1, (words_cell h (i := 7) (by simp [H.St.list])).1⟩

set_option maxRecDepth 100000 in
set_option maxHeartbeats 1000000 in
theorem absorb_any (s : H.St) (hs : s.ok) (g b off cap : Nat) (bs : List UInt8) (w : World) (hK : KT w) (hg0 : g ≠ 0) (hg : w.heap[g]? = some (.cells (words s.list) 54 (0, 0))) (hb : b < w.heap.size) (hc : ∀ i, i < 64 → w.cell? ⟨b, off + i, none⟩ = some (.int .u8 (H.byte bs i))) :
    Calls Tryd.prog 33 #[.pointer (some ⟨g, 0, none⟩), .slice (some ⟨b, off, none⟩) 64 cap] w fun e w' => e = .returned (.tuple #[]) ∧ w'.heap[g]? = some (.cells (words (s.block bs).list) 54 (0, 0)) ∧ But g w w' := by
  have hglt : g < w.heap.size := (Array.getElem?_eq_some_iff.1 hg).1
  obtain ⟨c0, c1, c2, c3, c4, c5, c6, c7⟩ := words8 w g s _ hg
  have HS := Lib.hid hs; have HKT := Lib.hid hK; have HG := Lib.hid hg; have HC := Lib.hid hc
  clear hs hK hg hc
  go_enter Tryd.func33, Tryd.ntmps33
  go_wp2_with fail
  go_quiet (fail)
  clear c0 c1 c2 c3 c4 c5 c6 c7
  have hbw : But g w (w.drewN nq) := (But.refl g w).drewN nq
  have HBW := Lib.hid hbw
  have hG2 : (w.drewN nq).heap[g]? = some (.cells (words s.list) 54 (0, 0)) := HG.out
  have HG2 := Lib.hid hG2
  have hC2 : ∀ i, i < 64 → (w.drewN nq).cell? ⟨b, off + i, none⟩ = some (.int .u8 (H.byte bs i)) := HC.out
  have HSC := Lib.hid (schedule_any b off cap bs (w.drewN nq) hb hC2)
  have hsz : (w.drewN nq).heap.size = w.heap.size := rfl
  have HSZ := Lib.hid hsz
  clear hbw hG2 hC2 HC hsz
  generalize w.drewN nq = wq at *
  go_wp2_with fail
  refine HSC.out.mono ?_
  rintro e w2 ⟨rfl, hb2⟩
  rename_i K3 hK3
  refine hK3 _ _ ?_
  clear hK3
  refine wpl_alloc_row rfl 67 rfl (words (H.fill bs 0)) (fun _ => by kernel_rfl) ?_
  refine wpList_store_row rfl 67 _ _ rfl _ (words (H.expand bs 48)) rfl rfl _ _ (heap_alloc_new _ _) (by rw [words_size, H.expand_len]; kernel_rfl) (by rw [words_size, words_size, H.fill_len, H.expand_len]) (words_one _) ?_
  rw [World.setRow_alloc_new]
  refine wpList_nil ?_
  have hA2 : Below w2.heap.size w2 (w2.alloc (.cells (words (H.expand bs 48)) 67)) := (Below.refl _ _).alloc (Nat.le_refl _) _
  have hbel : Below wq.heap.size wq (w2.alloc (.cells (words (H.expand bs 48)) 67)) := hb2.trans (hA2.mono hb2.size)
  have HAB : Hid ((w2.alloc (.cells (words (H.expand bs 48)) 67)).heap[g]? = some (.cells (words s.list) 54 (0, 0)) ∧
      (w2.alloc (.cells (words (H.expand bs 48)) 67)).heap[w2.heap.size]? = some (.cells (words (H.expand bs 48)) 67 (0, 0)) ∧ But g w (w2.alloc (.cells (words (H.expand bs 48)) 67)) ∧ g < w2.heap.size) :=
    Lib.hid ⟨(hbel.block g (by rw [HSZ.out]; exact hglt)).trans HG2.out, heap_alloc_new _ _, HBW.out.trans (But.of_below hbel), by have := hb2.size; rw [HSZ.out] at this; omega⟩
  clear hA2 hbel hb2 HBW HG2 HSC HSZ HG
  go_simp
  generalize w2.alloc (.cells (words (H.expand bs 48)) 67) = WK at *
  generalize w2.heap.size = wb at *
  go_wp2_with fail
  have HS0 := Lib.hid (H.rounds_ok HS.out (H.expand bs 48))
  go_loopw [4, 5, 6, 7, 8, 9, 10, 11, 52] (fun va vb vc vd ve vf vg vh ii wr => ∃ (j : Nat) (S : H.St), j ≤ 64 ∧ ii = .int .i64 j ∧ va = .int .u32 (S.a : Nat) ∧ vb = .int .u32 (S.b : Nat) ∧ vc = .int .u32 (S.c : Nat) ∧ vd = .int .u32 (S.d : Nat) ∧ ve = .int .u32 (S.e : Nat) ∧ vf = .int .u32 (S.f : Nat) ∧ vg = .int .u32 (S.g : Nat) ∧ vh = .int .u32 (S.h : Nat) ∧ Hid (s.rounds (H.expand bs 48) j = S) ∧
      Hid (wr.heap[g]? = some (.cells (words s.list) 54 (0, 0)) ∧ wr.heap[wb]? = some (.cells (words (H.expand bs 48)) 67 (0, 0)) ∧ But g w wr))
    (fun _ _ _ _ _ _ _ _ ii _ => 64 - (intOf ii).toNat)
  case atStart => exact ⟨0, s, Nat.zero_le _, rfl, rfl, rfl, rfl, rfl, rfl, rfl, rfl, rfl, Lib.hid rfl, Lib.hid ⟨HAB.out.1, HAB.out.2.1, HAB.out.2.2.1⟩⟩
  case round =>
    obtain ⟨j, S, hj, rfl, rfl, rfl, rfl, rfl, rfl, rfl, rfl, rfl, HJS, HW⟩ := hrel
    obtain ⟨Sa, Sb, Sc, Sd, Se, Sf, Sg, Sh⟩ := S
    by_cases hlt : j < 64
    · have hok : H.St.ok ⟨Sa, Sb, Sc, Sd, Se, Sf, Sg, Sh⟩ := by rw [← HJS.out]; exact HS0.out j
      obtain ⟨oa, ob, oc, od, oe, of, og, oh⟩ := hok
      simp only at oa ob oc od oe of og oh
      have HOK := Lib.hid (And.intro oa (And.intro ob (And.intro oc (And.intro od (And.intro oe (And.intro of (And.intro og oh)))))))
      have hr : ∀ (z n : Nat) (_ : z < 4294967296) (_ : 1 ≤ n) (_ : n ≤ 31) (r : Nat) (_ : H.ror z n = r) (m : Int) (_ : m = n) (W : World), Calls Tryd.prog 41 #[.int .u32 z, .int .i64 m] W fun e w' => e = .returned (.int .u32 (r : Nat)) ∧ W = w' := fun z n h1 h2 h3 r hr m hm W => by subst hr; exact ror_any z n W h1 h2 h3 m hm
      have hN : ∀ (z n : Nat) (_ : z < 4294967296) (_ : 1 ≤ n) (_ : n ≤ 31) (r : Nat) (_ : H.ror z n = r) (m : Int) (_ : m = n) (W : World) (k : Nat), Calls Tryd.prog 41 #[.int .u32 z, .int .i64 m] (W.drewN k) fun e w' => e = .returned (.int .u32 (r : Nat)) ∧ ∃ k', w' = W.drewN k' := fun z n h1 h2 h3 r h4 m h5 W k => (hr z n h1 h2 h3 r h4 m h5 _).mono (fun _ _ h => ⟨h.1, k, h.2.symm⟩)
      obtain ⟨r1, hr1⟩ : ∃ r, H.ror Se 6 = r := ⟨_, rfl⟩
      obtain ⟨r2, hr2⟩ : ∃ r, H.ror Se 11 = r := ⟨_, rfl⟩
      obtain ⟨r3, hr3⟩ : ∃ r, H.ror Se 25 = r := ⟨_, rfl⟩
      obtain ⟨q1, hq1⟩ : ∃ r, H.ror Sa 2 = r := ⟨_, rfl⟩
      obtain ⟨q2, hq2⟩ : ∃ r, H.ror Sa 13 = r := ⟨_, rfl⟩
      obtain ⟨q3, hq3⟩ : ∃ r, H.ror Sa 22 = r := ⟨_, rfl⟩
      have k1 := Lib.hid (hN Se 6 oe (by omega) (by omega) r1 hr1 6 rfl)
      have k2 := Lib.hid (hN Se 11 oe (by omega) (by omega) r2 hr2 11 rfl)
      have k3 := Lib.hid (hN Se 25 oe (by omega) (by omega) r3 hr3 25 rfl)
      have m1 := Lib.hid (hr Sa 2 oa (by omega) (by omega) q1 hq1 2 rfl)
      have m2 := Lib.hid (hr Sa 13 oa (by omega) (by omega) q2 hq2 13 rfl)
      have m3 := Lib.hid (hr Sa 22 oa (by omega) (by omega) q3 hq3 22 rfl)
      have R1 := Lib.hid hr1; have R2 := Lib.hid hr2; have R3 := Lib.hid hr3; have Q1 := Lib.hid hq1; have Q2 := Lib.hid hq2; have Q3 := Lib.hid hq3
      clear hr hN hr1 hr2 hr3 hq1 hq2 hq3 ob oc od of og oh
      go_wp2_with fail
      have ck : wr.cell? ⟨0, j, none⟩ = some (.int .u32 (H.K.getD j 0 : Nat)) := HKT.out.but HW.out.2.2 hg0 j hlt
      obtain ⟨cw, _⟩ := words_cell HW.out.2.1 (i := j) (by rw [H.expand_len]; exact hlt)
      generalize hkj : H.K.getD j 0 = kj at ck
      generalize hwj : (H.expand bs 48).getD j 0 = wj at cw
      have HKJ := Lib.hid hkj; have HWJ := Lib.hid hwj
      clear hkj hwj
      go_quiet ((first
        | (go_at_call 41; with_reducible exact k1.out _ _)
        | (go_at_call 41; with_reducible exact k2.out _ _)
        | (go_at_call 41; with_reducible exact k3.out _ _)))
      have b1 : r1 < 4294967296 := by rw [← R1.out]; exact H.ror_lt _ _ HOK.out.2.2.2.2.1
      have b2 : r2 < 4294967296 := by rw [← R2.out]; exact H.ror_lt _ _ HOK.out.2.2.2.2.1
      have b3 : r3 < 4294967296 := by rw [← R3.out]; exact H.ror_lt _ _ HOK.out.2.2.2.2.1
      rw [p_val2 HOK.out.2.2.2.2.1 HOK.out.2.2.2.2.2.1 HOK.out.2.2.2.2.2.2.1 b1 b2 b3]
      obtain ⟨pv, hpv⟩ : ∃ pv, (Sh + (r1 ^^^ r2 ^^^ r3) + ((Se &&& Sf) ^^^ ((4294967295 - Se) &&& Sg)) + kj + wj) % 4294967296 = pv := ⟨_, rfl⟩
      rw [hpv]
      have HPV := Lib.hid hpv
      have HW2 := Lib.hid (And.intro (show (wr.drewN nq).heap[g]? = some (.cells (words s.list) 54 (0, 0)) from HW.out.1) (And.intro (show (wr.drewN nq).heap[wb]? = some (.cells (words (H.expand bs 48)) 67 (0, 0)) from HW.out.2.1) (HW.out.2.2.drewN nq)))
      clear hpv b1 b2 b3 ck cw k1 k2 k3 HW
      generalize wr.drewN nq = wq2 at HW2 ⊢
      go_wp2_with (first
        | (go_at_call 41; (with_reducible refine (m1.out _).mono ?_); rintro e w1 ⟨rfl, rfl⟩)
        | (go_at_call 41; (with_reducible refine (m2.out _).mono ?_); rintro e w1 ⟨rfl, rfl⟩)
        | (go_at_call 41; (with_reducible refine (m3.out _).mono ?_); rintro e w1 ⟨rfl, rfl⟩))
      go_roundw
      case rel =>
        have d1 : q1 < 4294967296 := by rw [← Q1.out]; exact H.ror_lt _ _ HOK.out.1
        have d2 : q2 < 4294967296 := by rw [← Q2.out]; exact H.ror_lt _ _ HOK.out.1
        have d3 : q3 < 4294967296 := by rw [← Q3.out]; exact H.ror_lt _ _ HOK.out.1
        have eq := q_val2 HOK.out.1 HOK.out.2.1 HOK.out.2.2.1 d1 d2 d3
        have hp : H.St.p ⟨Sa, Sb, Sc, Sd, Se, Sf, Sg, Sh⟩ kj wj = pv := by rw [← HPV.out, ← R1.out, ← R2.out, ← R3.out]; rfl
        have hq : H.St.q ⟨Sa, Sb, Sc, Sd, Se, Sf, Sg, Sh⟩ = ((q1 ^^^ q2 ^^^ q3) + ((Sa &&& Sb) ^^^ (Sa &&& Sc) ^^^ (Sb &&& Sc))) % 4294967296 := by rw [← Q1.out, ← Q2.out, ← Q3.out]; rfl
        refine ⟨j + 1, H.St.step ⟨Sa, Sb, Sc, Sd, Se, Sf, Sg, Sh⟩ kj wj, by omega, by go_num, ?_, rfl, rfl, rfl, ?_, rfl, rfl, rfl, ?_, HW2⟩
        · rw [eq, H.St.step, hp, hq]
          congr 1
        · rw [H.St.step, hp]
          congr 1
        · exact Lib.hid (by rw [H.St.rounds, HJS.out, HKJ.out, HWJ.out])
      case measure => simp [intOf]; omega
    · have hj64 : j = 64 := by omega
      have HE : Hid (s.rounds (H.expand bs 48) 64 = ⟨Sa, Sb, Sc, Sd, Se, Sf, Sg, Sh⟩) := by rw [hj64] at HJS; exact HJS
      clear hj64 HJS HAB
      go_wp2_with fail
      clear hj hlt
      generalize j = j0 at *
      go_loopw [124] (fun ii wr => ∃ i : Nat, i ≤ 8 ∧ ii = .int .i64 i ∧ Hid (wr.heap[g]? = some (.cells (words (s.addn ⟨Sa, Sb, Sc, Sd, Se, Sf, Sg, Sh⟩ i)) 54 (0, 0)) ∧ But g w wr))
        (fun ii _ => 8 - (intOf ii).toNat)
      case atStart => exact ⟨0, Nat.zero_le _, rfl, Lib.hid ⟨by rw [H.addn_zero]; exact HW.out.1, HW.out.2.2⟩⟩
      case round =>
        obtain ⟨i, hi, rfl, HI⟩ := hrel
        clear HW
        by_cases hlt : i < 8
        · obtain ⟨ci, fi⟩ := words_cell HI.out.1 (i := i) (by rw [H.addn_len _ _ hi]; exact hlt)
          rw [H.addn_get _ _ hlt] at ci
          have hidx := fun W => index8 ⟨Sa, Sb, Sc, Sd, Se, Sf, Sg, Sh⟩ W hlt
          simp only at hidx
          have HSET := Lib.hid (H.addn_set s ⟨Sa, Sb, Sc, Sd, Se, Sf, Sg, Sh⟩ hlt)
          generalize s.list.getD i 0 = x at ci HSET
          generalize (H.St.list ⟨Sa, Sb, Sc, Sd, Se, Sf, Sg, Sh⟩).getD i 0 = y at hidx HSET
          go_wp2_with fail
          go_region
          have e1 : ((x : Int) + (y : Int)) % 4294967296 = (((x + y) % 4294967296 : Nat) : Int) := by omega
          rw [e1]
          have HN : Hid ((wr.setCell ⟨g, i, none⟩ (.int .u32 (((x + y) % 4294967296 : Nat) : Int))).drew.heap[g]? = some (.cells (words (s.addn ⟨Sa, Sb, Sc, Sd, Se, Sf, Sg, Sh⟩ (i + 1))) 54 (0, 0)) ∧ But g w (wr.setCell ⟨g, i, none⟩ (.int .u32 (((x + y) % 4294967296 : Nat) : Int))).drew) :=
            Lib.hid ⟨by rw [← HSET.out]; exact words_store HI.out.1 i _, (HI.out.2.set i _).drew⟩
          clear e1 ci fi hidx HSET
          generalize (wr.setCell ⟨g, i, none⟩ (.int .u32 (((x + y) % 4294967296 : Nat) : Int))).drew = W1 at HN ⊢
          go_wp2_with fail
          go_roundw
          case rel => exact ⟨i + 1, by omega, by go_num, HN⟩
          case measure => simp [intOf]; omega
        · have hi8 : i = 8 := by omega
          have HF : Hid (wr.heap[g]? = some (.cells (words (s.block bs).list) 54 (0, 0)) ∧ But g w wr) := Lib.hid (by
            have h := HI.out
            rw [hi8, H.addn_all, ← HE.out] at h
            exact h)
          clear hi8 HI
          go_wp2_with fail
          go_end0
          exact ⟨rfl, HF.out.1, HF.out.2⟩

end Go.Proofs.YthamligdmfhmeaaDoor
