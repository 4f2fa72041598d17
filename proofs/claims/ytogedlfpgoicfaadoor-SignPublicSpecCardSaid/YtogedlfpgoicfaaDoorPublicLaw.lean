/- The law SignPublicSpec: the reference's Public and Sign, and the walk. -/
import Derived.Test.YtogedlfpgoicfaaDoorVerifyLaw
namespace Go.Proofs.YtogedlfpgoicfaaDoor
open Go.RowKit

set_option maxRecDepth 100000 in
set_option maxHeartbeats 1000000 in
theorem risp_any (k : Int) (w : World) :
    Calls Tryd.prog 84 #[.int .i64 k] w fun e w' => e = .returned (.bool (decide (1 ≤ k) && decide (k < 2305843009213688669))) ∧ w = w' := by
  by_cases h1 : 1 ≤ k
  · have q1 : decide (1 ≤ k) = true := decide_eq_true h1
    by_cases h2 : k < 2305843009213688669
    · have q2 : decide (k < 2305843009213688669) = true := decide_eq_true h2
      rw [q1, q2]
      clear h1 h2
      go_enter Tryd.func84, Tryd.ntmps84
      go_wp2
      go_ret
      exact ⟨rfl, rfl⟩
    · have q2 : decide (k < 2305843009213688669) = false := decide_eq_false h2
      rw [q1, q2]
      clear h1 h2
      go_enter Tryd.func84, Tryd.ntmps84
      go_wp2
      go_ret
      exact ⟨rfl, rfl⟩
  · have q1 : decide (1 ≤ k) = false := decide_eq_false h1
    rw [q1, Bool.false_and]
    clear h1
    go_enter Tryd.func84, Tryd.ntmps84
    go_wp2
    go_ret
    exact ⟨rfl, rfl⟩

set_option maxRecDepth 100000 in
set_option maxHeartbeats 1000000 in
theorem rpublic_ok (x z : Nat) (w : World) (h1 : 1 ≤ x) (h2 : x < 2305843009213688669) (HZ : Hid (z = G.pw 4 x)) :
    Calls Tryd.prog 41 #[.int .i64 x] w fun e w' => e = .returned (.tuple #[.int .i64 z, .int .i64 0]) ∧ Below w.heap.size w w' := by
  have HV : Hid (∀ W : World, Calls Tryd.prog 84 #[.int .i64 x] W fun e w' => e = .returned (.bool true) ∧ W = w') := Lib.hid fun W => by
    have h := risp_any x W
    rw [show (decide ((1 : Int) ≤ x) && decide ((x : Int) < 2305843009213688669)) = true by rw [Bool.and_eq_true, decide_eq_true_iff, decide_eq_true_iff]; omega] at h
    exact h
  have HB : Hid (∀ W : World, Calls Tryd.prog 85 #[.int .i64 x] W fun e w' => e = .returned (.tuple #[.int .i64 z, .int .i64 0]) ∧ Below W.heap.size W w') := Lib.hid fun W => rbase_ok x z W h2 HZ
  clear h1 h2
  go_enter Tryd.func41, Tryd.ntmps41
  go_wp2_with fail
  refine (HV.out _).mono ?_
  rintro e w1 ⟨rfl, rfl⟩
  go_wp2_with (go_at_call 85; (with_reducible refine (HB.out _).mono ?_); rintro e w2 ⟨rfl, hb2⟩)
  go_ret2
  exact ⟨rfl, hb2⟩

set_option maxRecDepth 100000 in
set_option maxHeartbeats 1000000 in
theorem rpublic_no (x : Int) (w : World) (h : (decide (1 ≤ x) && decide (x < 2305843009213688669)) = false) :
    Calls Tryd.prog 41 #[.int .i64 x] w fun e w' => e = .returned (.tuple #[.int .i64 0, .int .i64 40]) ∧ Below w.heap.size w w' := by
  have HV : Hid (∀ W : World, Calls Tryd.prog 84 #[.int .i64 x] W fun e w' => e = .returned (.bool false) ∧ W = w') := Lib.hid fun W => by
    have h' := risp_any x W
    rw [h] at h'
    exact h'
  clear h
  go_enter Tryd.func41, Tryd.ntmps41
  go_wp2_with fail
  refine (HV.out _).mono ?_
  rintro e w1 ⟨rfl, rfl⟩
  go_wp2_with fail
  go_ret2
  exact ⟨rfl, Below.refl _ _⟩

theorem sig_keep {a b : World} {n g : Nat} {r s : Int} (h : Hid (Sig a g r s)) (k : Below n a b) (hg : g < n) : Hid (Sig b g r s) := Lib.hid ((k.block g hg).trans h.out)

set_option maxRecDepth 100000 in
set_option maxHeartbeats 1000000 in
theorem rsum_ok2 (n m z : Nat) (W : World) (hn : n < 2305843009213688669) (hm : m < 2305843009213688669) (HZ : Hid (z = (n + m) % 2305843009213688669)) :
    Calls Tryd.prog 33 #[.int .i64 n, .int .i64 m] W fun x w' => x = .returned (.tuple #[.int .i64 z, .int .i64 0]) ∧ Below W.heap.size W w' := by
  have HA : Hid (∀ W : World, Calls Tryd.prog 77 #[.int .i64 n] W fun e w' => e = .returned (.bool true) ∧ W = w') := Lib.hid fun W => by rw [← G.sc_nat hn]; exact risc_any n W
  have HB : Hid (∀ W : World, Calls Tryd.prog 77 #[.int .i64 m] W fun e w' => e = .returned (.bool true) ∧ W = w') := Lib.hid fun W => by rw [← G.sc_nat hm]; exact risc_any m W
  have HS : Hid (∀ W : World, Calls Tryd.prog 78 #[.int .i64 n, .int .i64 m, .int .i64 2305843009213688669] W fun e w' => e = .returned (.int .i64 z) ∧ W = w') := Lib.hid fun W => rsum_any n m 2305843009213688669 _ W hn hm (by decide) HZ
  clear hn hm HZ
  go_enter Tryd.func33, Tryd.ntmps33
  go_wp2_with (first | (go_at_call 77; (with_reducible refine (HA.out _).mono ?_); rintro e w' ⟨rfl, rfl⟩) | (go_at_call 77; (with_reducible refine (HB.out _).mono ?_); rintro e w' ⟨rfl, rfl⟩) | (go_at_call 78; (with_reducible refine (HS.out _).mono ?_); rintro e w' ⟨rfl, rfl⟩))
  go_ret2
  exact ⟨rfl, Below.refl _ _⟩

set_option maxRecDepth 100000 in
set_option maxHeartbeats 1000000 in
theorem rprod_ok2 (n m z : Nat) (W : World) (hn : n < 2305843009213688669) (hm : m < 2305843009213688669) (HZ : Hid (z = n * m % 2305843009213688669)) :
    Calls Tryd.prog 35 #[.int .i64 n, .int .i64 m] W fun x w' => x = .returned (.tuple #[.int .i64 z, .int .i64 0]) ∧ Below W.heap.size W w' := by
  have HA : Hid (∀ W : World, Calls Tryd.prog 77 #[.int .i64 n] W fun e w' => e = .returned (.bool true) ∧ W = w') := Lib.hid fun W => by rw [← G.sc_nat hn]; exact risc_any n W
  have HB : Hid (∀ W : World, Calls Tryd.prog 77 #[.int .i64 m] W fun e w' => e = .returned (.bool true) ∧ W = w') := Lib.hid fun W => by rw [← G.sc_nat hm]; exact risc_any m W
  have HS : Hid (∀ W : World, Calls Tryd.prog 80 #[.int .i64 n, .int .i64 m, .int .i64 2305843009213688669] W fun e w' => e = .returned (.int .i64 z) ∧ W = w') := Lib.hid fun W => modular_any n m 2305843009213688669 _ W hn (by omega) (by decide) HZ
  clear hn hm HZ
  go_enter Tryd.func35, Tryd.ntmps35
  go_wp2_with (first | (go_at_call 77; (with_reducible refine (HA.out _).mono ?_); rintro e w' ⟨rfl, rfl⟩) | (go_at_call 77; (with_reducible refine (HB.out _).mono ?_); rintro e w' ⟨rfl, rfl⟩) | (go_at_call 80; (with_reducible refine (HS.out _).mono ?_); rintro e w' ⟨rfl, rfl⟩))
  go_ret2
  exact ⟨rfl, Below.refl _ _⟩

set_option maxRecDepth 100000 in
set_option maxHeartbeats 1000000 in
theorem rsign_no (x : Int) (v : Value) (w : World) (h : (decide (1 ≤ x) && decide (x < 2305843009213688669)) = false) :
    Calls Tryd.prog 43 #[.int .i64 x, v] w fun e w' => e = .returned (.tuple #[.agg #[.int .i64 0, .int .i64 0], .int .i64 40]) ∧ Below w.heap.size w w' := by
  have HP : Hid (∀ W : World, Calls Tryd.prog 41 #[.int .i64 x] W fun e w' => e = .returned (.tuple #[.int .i64 0, .int .i64 40]) ∧ Below W.heap.size W w') := Lib.hid fun W => rpublic_no x W h
  clear h
  go_enter Tryd.func43, Tryd.ntmps43
  go_wp2_with fail
  have HG0 : Hid (Sig (w.alloc (.cells #[.int .i64 0, .int .i64 0] 52)) w.heap.size 0 0) := Lib.hid (Sig.new w 0 0)
  have HW0 : Hid (Below w.heap.size w (w.alloc (.cells #[.int .i64 0, .int .i64 0] 52))) := Lib.hid ((Below.refl _ _).alloc (Nat.le_refl _) _)
  generalize w.alloc (.cells #[.int .i64 0, .int .i64 0] 52) = W0 at HG0 HW0 ⊢
  refine (HP.out _).mono ?_
  rintro e w1 ⟨rfl, hb1⟩
  have HG := sig_step HG0 hb1
  have HW := step_below HW0 hb1
  clear hb1 HG0 HW0
  have k0 := HG.out.c0; have k1 := HG.out.c1; have k2 := HG.out.f0; have k3 := HG.out.f1
  go_wp2_with fail
  refine bodyPost_ret (v := .tuple #[.agg #[.int .i64 0, .int .i64 0], .int .i64 40]) ?_ rfl ⟨rfl, (HW.out.setCell (p := ⟨w.heap.size, 0, none⟩) (Nat.le_refl _) _).setCell (p := ⟨w.heap.size, 1, none⟩) (Nat.le_refl _) _⟩
  exact ret_sig2 Tryd.results43 _ _ w.heap.size _ _ _ rfl rfl (HG.out.put 0 0)

set_option maxRecDepth 100000 in
set_option maxHeartbeats 2000000 in
theorem rsign_ok (x : Nat) (a : Option Addr) (n cap : Nat) (bs : List UInt8) (w : World) (h1 : 1 ≤ x) (h2 : x < 2305843009213688669) (hn : bs.length = n) (hl : n ≤ 100000) (hb : BytesAt w a bs) :
    Calls Tryd.prog 43 #[.int .i64 x, .slice a n cap] w fun e w' => e = .returned (.tuple #[.agg #[.int .i64 (G.sigR x bs : Nat), .int .i64 (G.sigS x bs : Nat)], .int .i64 0]) ∧ Below w.heap.size w w' := by
  have HB := Lib.hid hb; have HN := Lib.hid hn
  obtain ⟨p, hp⟩ : ∃ p, p = G.pw 4 x := ⟨_, rfl⟩
  obtain ⟨k, hk⟩ : ∃ k, k = G.nonc x bs := ⟨_, rfl⟩
  obtain ⟨r, hr⟩ : ∃ r, r = G.sigR x bs := ⟨_, rfl⟩
  obtain ⟨c, hc⟩ : ∃ c, c = G.sigH x bs := ⟨_, rfl⟩
  obtain ⟨m, hm⟩ : ∃ m, m = G.ml c x := ⟨_, rfl⟩
  obtain ⟨s, hs⟩ : ∃ s, s = G.sigS x bs := ⟨_, rfl⟩
  have hkl : k < 2305843009213688669 := by rw [hk]; exact G.nonc_lt _ _
  have hcl : c < 2305843009213688669 := by rw [hc]; exact G.sigH_lt _ _
  have hml : m < 2305843009213688669 := by rw [hm]; exact G.ml_lt _ _
  have P1 : Hid (∀ W : World, Calls Tryd.prog 41 #[.int .i64 x] W fun e w' => e = .returned (.tuple #[.int .i64 p, .int .i64 0]) ∧ Below W.heap.size W w') := Lib.hid fun W => rpublic_ok x p W h1 h2 (Lib.hid hp)
  have HS : Hid (∀ V A c' base, Below w.heap.size w V → V.ownsRow base 5 1 (.slice A (8 + n) c') (8 + n) (bytes (G.num8 x ++ bs)) → Calls Tryd.prog 37 #[.string ⟨#[110, 111, 110, 99, 101]⟩, .slice A (8 + n) c'] V fun e w' => e = .returned (.int .i64 k) ∧ Below V.heap.size V w') := Lib.hid (fun V A c' base hV ho => by
    obtain ⟨hc', hby⟩ := owns_slice ho
    refine (rscalar_any ⟨#[110, 111, 110, 99, 101]⟩ A (8 + n) c' (G.num8 x ++ bs) V (by decide) (by rw [List.length_append, G.num8_len, HN.out]) (by omega) hby).mono ?_
    rintro e w' ⟨rfl, hb'⟩
    exact ⟨by rw [hk]; rfl, hb'⟩)
  have P3 : Hid (∀ W : World, Calls Tryd.prog 85 #[.int .i64 k] W fun e w' => e = .returned (.tuple #[.int .i64 r, .int .i64 0]) ∧ Below W.heap.size W w') := Lib.hid fun W => rbase_ok k r W hkl (Lib.hid (by rw [hr, hk]; rfl))
  have P4 : Hid (∀ W : World, Below w.heap.size w W → Calls Tryd.prog 89 #[.int .i64 p, .int .i64 r, .slice a n cap] W fun e w' => e = .returned (.int .i64 c) ∧ Below W.heap.size W w') := Lib.hid fun W hW => by
    rw [hc, G.sigH, ← hp, ← hr]; exact rchallenge_any p r a n cap bs W HN.out hl (HB.out.kept hW)
  have P5 : Hid (∀ W : World, Calls Tryd.prog 35 #[.int .i64 c, .int .i64 x] W fun e w' => e = .returned (.tuple #[.int .i64 m, .int .i64 0]) ∧ Below W.heap.size W w') := Lib.hid fun W => rprod_ok2 c x m W hcl h2 (Lib.hid hm)
  have P6 : Hid (∀ W : World, Calls Tryd.prog 33 #[.int .i64 k, .int .i64 m] W fun e w' => e = .returned (.tuple #[.int .i64 s, .int .i64 0]) ∧ Below W.heap.size W w') := Lib.hid fun W => rsum_ok2 k m s W hkl hml (Lib.hid (by rw [hs, G.sigS, hm, hc, hk]; rfl))
  rw [← hr, ← hs]
  clear hb hn hp hk hr hc hm hs hkl hcl hml h1 h2
  go_enter Tryd.func43, Tryd.ntmps43
  go_wp2_with fail
  have HG0 : Hid (Sig (w.alloc (.cells #[.int .i64 0, .int .i64 0] 52)) w.heap.size 0 0) := Lib.hid (Sig.new w 0 0)
  have HW0 : Hid (Below w.heap.size w (w.alloc (.cells #[.int .i64 0, .int .i64 0] 52))) := Lib.hid ((Below.refl _ _).alloc (Nat.le_refl _) _)
  generalize w.alloc (.cells #[.int .i64 0, .int .i64 0] 52) = W0 at HG0 HW0 ⊢
  refine (P1.out _).mono ?_
  rintro e w1 ⟨rfl, hb1⟩
  have HG := sig_step HG0 hb1
  have HW := step_below HW0 hb1
  clear hb1 HG0 HW0
  have hgl := (Array.getElem?_eq_some_iff.1 HG.out).1
  go_wp2_with fail
  refine (rbytes_any x _).mono ?_
  rintro e w6 ⟨v6, rfl, ho6, hb6⟩
  have HO6 := Lib.hid ho6
  have HGL := Lib.hid hgl
  have HWL := Lib.hid HW.out.size
  have HB6 := Lib.hid hb6.size
  replace HG := sig_step HG hb6
  replace HW := step_below HW hb6
  clear ho6 hb6 hgl
  have HAP : Hid (∀ w7 : World, Keeps w1.heap.size w6 w7 → Hid (Below w.heap.size w w7) ∧ Hid (Sig w7 w.heap.size 0 0)) := Lib.hid fun w7 h2 =>
    ⟨Lib.hid (HW.out.trans ((h2.below HB6.out).mono HWL.out)), sig_keep HG (h2.below HB6.out) HGL.out⟩
  have k0 := HG.out.c0; have k1 := HG.out.c1; have k2 := HG.out.f0; have k3 := HG.out.f1
  go_wp2_with (first
    | (at_builtin; refine wpl_cat rfl _ _ rfl w1.heap.size v6 8 (G.num8 x) rfl HO6.out a n cap bs rfl HN.out (HB.out.kept HW.out) (by omega) HB6.out ?_; intro v7 w7 h1 h2; have HW := (HAP.out _ h2).1; have HG := (HAP.out _ h2).2; clear k0 k1 k2 k3; have k0 := HG.out.c0; have k1 := HG.out.c1; have k2 := HG.out.f0; have k3 := HG.out.f1; obtain ⟨A7, c7, rfl, _, _, _⟩ := owns_bytesAt h1; have HE := Lib.hid h1; clear h1 h2)
    | (go_at_call 37; (with_reducible refine (HS.out _ _ _ _ HW.out HE.out).mono ?_); rintro e wc ⟨rfl, hb⟩; replace HG := sig_step HG hb; have k0 := HG.out.c0; have k1 := HG.out.c1; have k2 := HG.out.f0; have k3 := HG.out.f1; replace HW := step_below HW hb; clear hb)
    | (go_at_call 85; (with_reducible refine (P3.out _).mono ?_); rintro e wc ⟨rfl, hb⟩; replace HG := sig_step HG hb; have k0 := HG.out.c0; have k1 := HG.out.c1; have k2 := HG.out.f0; have k3 := HG.out.f1; replace HW := step_below HW hb; clear hb)
    | (go_at_call 89; (with_reducible refine (P4.out _ HW.out).mono ?_); rintro e wc ⟨rfl, hb⟩; replace HG := sig_step HG hb; have k0 := HG.out.c0; have k1 := HG.out.c1; have k2 := HG.out.f0; have k3 := HG.out.f1; replace HW := step_below HW hb; clear hb)
    | (go_at_call 35; (with_reducible refine (P5.out _).mono ?_); rintro e wc ⟨rfl, hb⟩; replace HG := sig_step HG hb; have k0 := HG.out.c0; have k1 := HG.out.c1; have k2 := HG.out.f0; have k3 := HG.out.f1; replace HW := step_below HW hb; clear hb)
    | (go_at_call 33; (with_reducible refine (P6.out _).mono ?_); rintro e wc ⟨rfl, hb⟩; replace HG := sig_step HG hb; have k0 := HG.out.c0; have k1 := HG.out.c1; have k2 := HG.out.f0; have k3 := HG.out.f1; replace HW := step_below HW hb; clear hb))
  refine bodyPost_ret (v := .tuple #[.agg #[.int .i64 r, .int .i64 s], .int .i64 0]) ?_ rfl ⟨rfl, (HW.out.setCell (p := ⟨w.heap.size, 0, none⟩) (Nat.le_refl _) _).setCell (p := ⟨w.heap.size, 1, none⟩) (Nat.le_refl _) _⟩
  exact ret_sig2 Tryd.results43 _ _ w.heap.size _ _ _ rfl rfl (HG.out.put r s)

set_option maxRecDepth 100000 in
set_option maxHeartbeats 4000000 in
theorem pspec_walk (pr : Int) (a : Option Addr) (n cap : Nat) (bs : List UInt8) (w : World) (hK : KT w) (_ : -9223372036854775808 ≤ pr) (_ : pr ≤ 9223372036854775807) (hn : bs.length = n) (_ : n ≤ cap) (hb : BytesAt w a bs) :
    Calls Tryd.prog 8 #[.int .i64 pr, .slice a n cap] w fun e w' => e = .returned (.bool true) ∧ Below w.heap.size w w' := by
  have HK := Lib.hid hK; have HB := Lib.hid hb; have HN := Lib.hid hn
  clear hK hb hn
  have HS := Lib.hid (ssane_any w HK.out)
  by_cases g1 : 1000 < n
  · have q1 : decide ((1000 : Int) < (n : Int)) = true := by rw [decide_eq_true_iff]; omega
    go_enter Tryd.func8, Tryd.ntmps8
    go_wp2_with fail
    refine HS.out.mono ?_
    rintro e w1 ⟨rfl, hb1⟩
    have HW := Lib.hid hb1
    clear hb1 HS
    go_wp2_with fail
    go_ret
    exact ⟨rfl, HW.out⟩
  have q1 : decide ((1000 : Int) < (n : Int)) = false := by rw [decide_eq_false_iff_not]; omega
  have HL := Lib.hid (show n ≤ 100000 by omega)
  clear g1
  go_enter Tryd.func8, Tryd.ntmps8
  go_wp2_with fail
  refine HS.out.mono ?_
  rintro e w1 ⟨rfl, hb1⟩
  have HW : Hid (Below w.heap.size w w1) := Lib.hid hb1
  clear hb1 HS
  have HG1 : Hid (∀ v : Int, ∃ (p e r s g : Int), (∀ W : World, Calls Tryd.prog 40 #[.int .i64 v] W fun x w' => x = .returned (.tuple #[.int .i64 p, .int .i64 e]) ∧ Below W.heap.size W w') ∧
      (∀ W : World, Calls Tryd.prog 41 #[.int .i64 v] W fun x w' => x = .returned (.tuple #[.int .i64 p, .int .i64 e]) ∧ Below W.heap.size W w') ∧
      (∀ W : World, Below w.heap.size w W → Calls Tryd.prog 42 #[.int .i64 v, .slice a n cap] W fun x w' => x = .returned (.tuple #[.agg #[.int .i64 r, .int .i64 s], .int .i64 g]) ∧ Below W.heap.size W w') ∧
      (∀ W : World, Below w.heap.size w W → Calls Tryd.prog 43 #[.int .i64 v, .slice a n cap] W fun x w' => x = .returned (.tuple #[.agg #[.int .i64 r, .int .i64 s], .int .i64 g]) ∧ Below W.heap.size W w')) := Lib.hid fun v => by
    cases h : (decide (1 ≤ v) && decide (v < 2305843009213688669)) with
    | false => exact ⟨0, 40, 0, 0, 40, fun W => public_no v W h, fun W => rpublic_no v W h, fun W _ => sign_no v _ W h, fun W _ => rsign_no v _ W h⟩
    | true =>
      rw [Bool.and_eq_true, decide_eq_true_iff, decide_eq_true_iff] at h
      obtain ⟨x, rfl⟩ : ∃ x : Nat, v = x := ⟨v.toNat, by omega⟩
      exact ⟨_, 0, _, _, 0, fun W => public_ok x _ W (by omega) (by omega) (Lib.hid rfl), fun W => rpublic_ok x _ W (by omega) (by omega) (Lib.hid rfl),
        fun W hW => sign_ok x a n cap bs W (HK.out.kept hW HK.out.pos) (by omega) (by omega) HN.out HL.out (HB.out.kept hW), fun W hW => rsign_ok x a n cap bs W (by omega) (by omega) HN.out HL.out (HB.out.kept hW)⟩
  go_wp2_with fail
  refine (key_any pr _).mono ?_
  rintro e w2 ⟨⟨y, hy1, hy2, rfl⟩, rfl⟩
  clear hy1 hy2
  go_wp2_with fail
  have HL4 : Hid ((w1.alloc (.cells #[.int .i64 pr, .int .i64 y] 3)).heap[w1.heap.size]? = some (.cells #[.int .i64 pr, .int .i64 y] 3 (0, 0))) := Lib.hid (heap_alloc_new w1 _)
  have HV0 : Hid (Below w.heap.size w (w1.alloc (.cells #[.int .i64 pr, .int .i64 y] 3))) := Lib.hid (HW.out.alloc HW.out.size _)
  generalize w1.alloc (.cells #[.int .i64 pr, .int .i64 y] 3) = W5 at HL4 HV0 ⊢
  generalize w1.heap.size = h at HL4 ⊢
  clear HW
  go_loopw [25] (fun ii wr => ∃ i : Nat, i ≤ 2 ∧ ii = .int .i64 i ∧ Hid (Below W5.heap.size W5 wr))
    (fun ii _ => 2 - (intOf ii).toNat)
  case atStart => exact ⟨0, Nat.zero_le _, rfl, Lib.hid (Below.refl _ _)⟩
  case round =>
    obtain ⟨i, hi, rfl, HI⟩ := hrel
    by_cases hlt : i < 2
    · obtain ⟨v, hv⟩ : ∃ v : Int, wr.cell? ⟨h, i, none⟩ = some (.int .i64 v) := by
        rw [cell_of_row _ _ _ _ _ _ ((HI.out.block _ (Array.getElem?_eq_some_iff.1 HL4.out).1).trans HL4.out)]
        have h4 : i = 0 ∨ i = 1 := by omega
        rcases h4 with rfl | rfl <;> exact ⟨_, rfl⟩
      have s1 : decide ((i : Int) < 2) = true := by rw [decide_eq_true_iff]; omega
      have HV : Hid (Below w.heap.size w wr) := step_below HV0 HI.out
      obtain ⟨p, e, r, s, g, B1, B2, B3, B4⟩ := HG1.out v
      have P1 := Lib.hid B1; have P2 := Lib.hid B2; have P3 := Lib.hid B3; have P4 := Lib.hid B4
      clear B1 B2 B3 B4
      go_wp2_with (first
        | (go_at_call 40; (with_reducible refine (P1.out _).mono ?_); rintro e wc ⟨rfl, hb⟩; replace HV := step_below HV hb; replace HI := step_below HI hb; clear hb)
        | (go_at_call 41; (with_reducible refine (P2.out _).mono ?_); rintro e wc ⟨rfl, hb⟩; replace HV := step_below HV hb; replace HI := step_below HI hb; clear hb)
        | (go_at_call 42; (with_reducible refine (P3.out _ HV.out).mono ?_); rintro e wc ⟨rfl, hb⟩; replace HV := step_below HV hb; replace HI := step_below HI hb; clear hb)
        | (go_at_call 43; (with_reducible refine (P4.out _ HV.out).mono ?_); rintro e wc ⟨rfl, hb⟩; replace HV := step_below HV hb; replace HI := step_below HI hb; clear hb))
      have HA : Below wc.heap.size wc (wc.alloc (.cells #[.int .i64 r, .int .i64 s] 52)) := (Below.refl _ _).alloc (Nat.le_refl _) _
      have HS0 : Hid (Sig (wc.alloc (.cells #[.int .i64 r, .int .i64 s] 52)) wc.heap.size r s) := Lib.hid (Sig.new wc r s)
      replace HV := step_below HV HA
      replace HI := step_below HI HA
      refine (P4.out _ HV.out).mono ?_
      rintro e' wd ⟨rfl, hb⟩
      have HS1 := sig_step HS0 hb
      replace HV := step_below HV hb
      replace HI := step_below HI hb
      generalize wc.heap.size = g0 at HS1 ⊢
      clear hb HS0 HA P1 P2 P3 P4
      have HA : Below wd.heap.size wd (wd.alloc (.cells #[.int .i64 r, .int .i64 s] 52)) := (Below.refl _ _).alloc (Nat.le_refl _) _
      have HS2 := sig_step HS1 HA
      have HT2 : Hid (Sig (wd.alloc (.cells #[.int .i64 r, .int .i64 s] 52)) wd.heap.size r s) := Lib.hid (Sig.new wd r s)
      replace HV := step_below HV HA
      replace HI := step_below HI HA
      clear HA HS1
      have k0 := HS2.out.c0; have k1 := HS2.out.c1; have k2 := HT2.out.c0; have k3 := HT2.out.c1
      go_wp2_with fail
      refine ⟨⟨i + 1, by omega, by go_num, HI⟩, ?_⟩
      simp [intOf]; omega
    · obtain rfl : i = 2 := by omega
      have HV : Hid (Below w.heap.size w wr) := step_below HV0 HI.out
      clear hi hlt
      go_wp2_with fail
      go_ret
      exact ⟨rfl, HV.out⟩

end Go.Proofs.YtogedlfpgoicfaaDoor
