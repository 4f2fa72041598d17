/- Contracts of Sign and Verify. -/
import Derived.Test.YtogedlfpgoicfaaDoorSFun
import Derived.Test.YtogedlfpgoicfaaDoorEq
namespace Go.Proofs.YtogedlfpgoicfaaDoor
open Go.RowKit

theorem step_below {a b c : World} (h : Hid (Below a.heap.size a b)) (k : Below b.heap.size b c) : Hid (Below a.heap.size a c) := Lib.hid (h.out.trans (k.mono h.out.size))
/-- A signature in a block. -/
def Sig (w : World) (g : Nat) (r s : Int) : Prop := w.heap[g]? = some (.cells #[.int .i64 r, .int .i64 s] 52 (0, 0))
theorem Sig.new (w : World) (r s : Int) : Sig (w.alloc (.cells #[.int .i64 r, .int .i64 s] 52)) w.heap.size r s := heap_alloc_new w _
theorem Sig.c0 {w : World} {g : Nat} {r s : Int} (h : Sig w g r s) : w.cell? ⟨g, 0, none⟩ = some (.int .i64 r) := by rw [cell_of_row _ _ _ _ _ _ h]; rfl
theorem Sig.c1 {w : World} {g : Nat} {r s : Int} (h : Sig w g r s) : w.cell? ⟨g, 1, none⟩ = some (.int .i64 s) := by rw [cell_of_row _ _ _ _ _ _ h]; rfl
theorem Sig.f0 {w : World} {g : Nat} {r s : Int} (h : Sig w g r s) : w.frozen? ⟨g, 0, none⟩ = false := frozen_of_row _ _ _ _ _ h
theorem Sig.f1 {w : World} {g : Nat} {r s : Int} (h : Sig w g r s) : w.frozen? ⟨g, 1, none⟩ = false := frozen_of_row _ _ _ _ _ h
theorem sig_step {a b : World} {g : Nat} {r s : Int} (h : Hid (Sig a g r s)) (k : Below a.heap.size a b) : Hid (Sig b g r s) :=
  Lib.hid ((k.block g (Array.getElem?_eq_some_iff.1 h.out).1).trans h.out)
theorem Sig.put {w : World} {g : Nat} {r s : Int} (h : Sig w g r s) (r' s' : Int) : Sig ((w.setCell ⟨g, 0, none⟩ (.int .i64 r')).setCell ⟨g, 1, none⟩ (.int .i64 s')) g r' s' :=
  heap_setCell_same _ g 1 _ _ _ (heap_setCell_same w g 0 _ _ _ h)
theorem sig_size : (Tryd.prog.info? 52).map (·.size) = some 2 := by kernel_rfl
/-- Results of type Signature, in its cell, and another one. -/
theorem ret_sig2 {fn : Func} {p q : Tmp} (h : fn.results = #[.cell p 52, .tmp q]) (tmps : Array Value) (w : World) (B : Nat) (r s : Int) (v : Value) (hp : tmps.getD p undef = .pointer (some ⟨B, 0, none⟩)) (hq : tmps.getD q undef = v) (hd : Sig w B r s) :
    (results fn tmps).run Tryd.prog w = .ok (.tuple #[.agg #[.int .i64 r, .int .i64 s], v]) w := by
  have hp' : tmps[p]?.getD undef = .pointer (some ⟨B, 0, none⟩) := by simpa using hp
  have hq' : tmps[q]?.getD undef = v := by simpa using hq
  simp [results, h, hp', hq', asAddr, run_loadVar_row w B _ _ _ _ _ hd Tryd.underlying52 rfl sig_size]

set_option maxRecDepth 100000 in
set_option maxHeartbeats 1000000 in
theorem sign_no (x : Int) (v : Value) (w : World) (h : (decide (1 ≤ x) && decide (x < 2305843009213688669)) = false) :
    Calls Tryd.prog 42 #[.int .i64 x, v] w fun e w' => e = .returned (.tuple #[.agg #[.int .i64 0, .int .i64 0], .int .i64 40]) ∧ Below w.heap.size w w' := by
  have HP : Hid (∀ W : World, Calls Tryd.prog 40 #[.int .i64 x] W fun e w' => e = .returned (.tuple #[.int .i64 0, .int .i64 40]) ∧ Below W.heap.size W w') := Lib.hid fun W => public_no x W h
  clear h
  go_enter Tryd.func42, Tryd.ntmps42
  go_wp2_with fail
  have HG0 : Hid (Sig (w.alloc (.cells #[.int .i64 0, .int .i64 0] 52)) w.heap.size 0 0) := Lib.hid (Sig.new w 0 0)
  have HW0 : Hid (Below w.heap.size w (w.alloc (.cells #[.int .i64 0, .int .i64 0] 52))) := Lib.hid ((Below.refl _ _).alloc (Nat.le_refl _) _)
  generalize w.alloc (.cells #[.int .i64 0, .int .i64 0] 52) = W0 at HG0 HW0 ⊢
  refine (HP.out _).mono ?_
  rintro e w1 ⟨rfl, hb1⟩
  have HG := sig_step HG0 hb1
  have HW := step_below HW0 hb1
  clear hb1 HG0 HW0
  have k0 := HG.out.c0; have k1 := HG.out.c1; have k2 := HG.out.f0; have k3 := HG.out.f1
  go_wp2_with fail
  refine bodyPost_ret (v := .tuple #[.agg #[.int .i64 0, .int .i64 0], .int .i64 40]) ?_ rfl ⟨rfl, (HW.out.setCell (p := ⟨w.heap.size, 0, none⟩) (Nat.le_refl _) _).setCell (p := ⟨w.heap.size, 1, none⟩) (Nat.le_refl _) _⟩
  exact ret_sig2 Tryd.results42 _ _ w.heap.size _ _ _ rfl rfl (HG.out.put 0 0)

set_option maxRecDepth 100000 in
set_option maxHeartbeats 2000000 in
theorem sign_ok (x : Nat) (a : Option Addr) (n cap : Nat) (bs : List UInt8) (w : World) (hK : KT w) (h1 : 1 ≤ x) (h2 : x < 2305843009213688669) (hn : bs.length = n) (hl : n ≤ 100000) (hb : BytesAt w a bs) :
    Calls Tryd.prog 42 #[.int .i64 x, .slice a n cap] w fun e w' => e = .returned (.tuple #[.agg #[.int .i64 (G.sigR x bs : Nat), .int .i64 (G.sigS x bs : Nat)], .int .i64 0]) ∧ Below w.heap.size w w' := by
  have HK := Lib.hid hK; have HB := Lib.hid hb; have HN := Lib.hid hn
  obtain ⟨p, hp⟩ : ∃ p, p = G.pw 4 x := ⟨_, rfl⟩
  obtain ⟨k, hk⟩ : ∃ k, k = G.nonc x bs := ⟨_, rfl⟩
  obtain ⟨r, hr⟩ : ∃ r, r = G.sigR x bs := ⟨_, rfl⟩
  obtain ⟨c, hc⟩ : ∃ c, c = G.sigH x bs := ⟨_, rfl⟩
  obtain ⟨m, hm⟩ : ∃ m, m = G.ml c x := ⟨_, rfl⟩
  obtain ⟨s, hs⟩ : ∃ s, s = G.sigS x bs := ⟨_, rfl⟩
  have hkl : k < 2305843009213688669 := by rw [hk]; exact G.nonc_lt _ _
  have hcl : c < 2305843009213688669 := by rw [hc]; exact G.sigH_lt _ _
  have hml : m < 2305843009213688669 := by rw [hm]; exact G.ml_lt _ _
  have P1 : Hid (∀ W : World, Calls Tryd.prog 40 #[.int .i64 x] W fun e w' => e = .returned (.tuple #[.int .i64 p, .int .i64 0]) ∧ Below W.heap.size W w') := Lib.hid fun W => public_ok x p W h1 h2 (Lib.hid hp)
  have P2 : Hid (∀ W : World, Below w.heap.size w W → Calls Tryd.prog 86 #[.int .i64 x, .slice a n cap] W fun e w' => e = .returned (.int .i64 k) ∧ Below W.heap.size W w') := Lib.hid fun W hW => by
    rw [hk]; exact nonce_any x a n cap bs W (HK.out.kept hW HK.out.pos) HN.out hl (HB.out.kept hW)
  have P3 : Hid (∀ W : World, Calls Tryd.prog 49 #[.int .i64 k] W fun e w' => e = .returned (.tuple #[.int .i64 r, .int .i64 0]) ∧ Below W.heap.size W w') := Lib.hid fun W => base_ok k r W hkl (Lib.hid (by rw [hr, hk]; rfl))
  have P4 : Hid (∀ W : World, Below w.heap.size w W → Calls Tryd.prog 87 #[.int .i64 p, .int .i64 r, .slice a n cap] W fun e w' => e = .returned (.int .i64 c) ∧ Below W.heap.size W w') := Lib.hid fun W hW => by
    rw [hc, G.sigH, ← hp, ← hr]; exact challenge_any p r a n cap bs W (HK.out.kept hW HK.out.pos) HN.out hl (HB.out.kept hW)
  have P5 : Hid (∀ W : World, Calls Tryd.prog 34 #[.int .i64 c, .int .i64 x] W fun e w' => e = .returned (.tuple #[.int .i64 m, .int .i64 0]) ∧ Below W.heap.size W w') := Lib.hid fun W => prod_ok c x m W hcl h2 (Lib.hid hm)
  have P6 : Hid (∀ W : World, Calls Tryd.prog 32 #[.int .i64 k, .int .i64 m] W fun e w' => e = .returned (.tuple #[.int .i64 s, .int .i64 0]) ∧ Below W.heap.size W w') := Lib.hid fun W => sum_ok k m s W hkl hml (Lib.hid (by rw [hs, G.sigS, hm, hc, hk]; rfl))
  rw [← hr, ← hs]
  clear hK hb hn hp hk hr hc hm hs hkl hcl hml h1 h2 hl
  go_enter Tryd.func42, Tryd.ntmps42
  go_wp2_with fail
  have HG0 : Hid (Sig (w.alloc (.cells #[.int .i64 0, .int .i64 0] 52)) w.heap.size 0 0) := Lib.hid (Sig.new w 0 0)
  have HW0 : Hid (Below w.heap.size w (w.alloc (.cells #[.int .i64 0, .int .i64 0] 52))) := Lib.hid ((Below.refl _ _).alloc (Nat.le_refl _) _)
  generalize w.alloc (.cells #[.int .i64 0, .int .i64 0] 52) = W0 at HG0 HW0 ⊢
  refine (P1.out _).mono ?_
  rintro e w1 ⟨rfl, hb1⟩
  have HG := sig_step HG0 hb1
  have HW := step_below HW0 hb1
  clear hb1 HG0 HW0
  have k0 := HG.out.c0; have k1 := HG.out.c1; have k2 := HG.out.f0; have k3 := HG.out.f1
  go_wp2_with (first
    | (go_at_call 86; (with_reducible refine (P2.out _ HW.out).mono ?_); rintro e wc ⟨rfl, hb⟩; replace HG := sig_step HG hb; have k0 := HG.out.c0; have k1 := HG.out.c1; have k2 := HG.out.f0; have k3 := HG.out.f1; replace HW := step_below HW hb; clear hb)
    | (go_at_call 49; (with_reducible refine (P3.out _).mono ?_); rintro e wc ⟨rfl, hb⟩; replace HG := sig_step HG hb; have k0 := HG.out.c0; have k1 := HG.out.c1; have k2 := HG.out.f0; have k3 := HG.out.f1; replace HW := step_below HW hb; clear hb)
    | (go_at_call 87; (with_reducible refine (P4.out _ HW.out).mono ?_); rintro e wc ⟨rfl, hb⟩; replace HG := sig_step HG hb; have k0 := HG.out.c0; have k1 := HG.out.c1; have k2 := HG.out.f0; have k3 := HG.out.f1; replace HW := step_below HW hb; clear hb)
    | (go_at_call 34; (with_reducible refine (P5.out _).mono ?_); rintro e wc ⟨rfl, hb⟩; replace HG := sig_step HG hb; have k0 := HG.out.c0; have k1 := HG.out.c1; have k2 := HG.out.f0; have k3 := HG.out.f1; replace HW := step_below HW hb; clear hb)
    | (go_at_call 32; (with_reducible refine (P6.out _).mono ?_); rintro e wc ⟨rfl, hb⟩; replace HG := sig_step HG hb; have k0 := HG.out.c0; have k1 := HG.out.c1; have k2 := HG.out.f0; have k3 := HG.out.f1; replace HW := step_below HW hb; clear hb))
  refine bodyPost_ret (v := .tuple #[.agg #[.int .i64 r, .int .i64 s], .int .i64 0]) ?_ rfl ⟨rfl, (HW.out.setCell (p := ⟨w.heap.size, 0, none⟩) (Nat.le_refl _) _).setCell (p := ⟨w.heap.size, 1, none⟩) (Nat.le_refl _) _⟩
  exact ret_sig2 Tryd.results42 _ _ w.heap.size _ _ _ rfl rfl (HG.out.put r s)

theorem Tryd.infoErr3 : (Tryd.prog.info? 34).map (fun i => (i.zero, i.size, i.bytes)) = some (some (.int .i64 0), 1, 8) := by kernel_rfl
set_option maxRecDepth 100000 in
theorem part_err (a b c : Int) (W : World) : (part 34 #[.int .i64 a, .int .i64 b, .int .i64 c] 0).run Tryd.prog W = .ok (.int .i64 a) W ∧ (part 34 #[.int .i64 a, .int .i64 b, .int .i64 c] 1).run Tryd.prog W = .ok (.int .i64 b) W ∧ (part 34 #[.int .i64 a, .int .i64 b, .int .i64 c] 2).run Tryd.prog W = .ok (.int .i64 c) W := by
  obtain ⟨i0, hi, hz0, hz1, hz2⟩ := info_parts Tryd.infoErr3
  refine ⟨?_, ?_, ?_⟩ <;> simp [part, sizeOf, typeInfo, hi, hz1]
set_option maxRecDepth 100000 in
theorem run_eq3 (a b c : Int) (W : World) : (Op.equalIn 10000 91 (.agg #[.int .i64 a, .int .i64 b, .int .i64 c]) (.agg #[.int .i64 0, .int .i64 0, .int .i64 0])).run Tryd.prog W = .ok (decide (a = 0) && (decide (b = 0) && decide (c = 0))) W := by
  obtain ⟨i0, hi, hz0, hz1, hz2⟩ := info_parts Tryd.infoErr3
  have hc : Tryd.prog.cellsOf 34 = 1 := by kernel_rfl
  rw [run_equalIn_array (P := Tryd.prog) (w := W) 9999 _ _ (n := 3) Tryd.underlying91 hi, hc, show List.range 3 = [0, 1, 2] from rfl]
  have p0 := fun x y z V => (part_err x y z V).1
  have p1 := fun x y z V => (part_err x y z V).2.1
  have p2 := fun x y z V => (part_err x y z V).2.2
  have pe := fun (x y : Int) V => run_equalIn_int (P := Tryd.prog) V 9998 34 .i64 .i64 x y Tryd.underlying34
  by_cases h1 : a = 0 <;> by_cases h2 : b = 0 <;> by_cases h3 : c = 0 <;> simp [Op.eqItems, p0, p1, p2, pe, h1, h2, h3]

namespace G
/-- What Verify says. -/
def ver (pub r s : Int) (m : List UInt8) : Bool :=
  el pub && (el r && (sc s && decide (pw 4 s.toNat = mp r.toNat (pw pub.toNat (chal pub r m)))))
end G

set_option maxRecDepth 100000 in
set_option maxHeartbeats 2000000 in
theorem verify_any (pub r s : Int) (a : Option Addr) (n cap : Nat) (bs : List UInt8) (w : World) (hK : KT w) (hn : bs.length = n) (hl : n ≤ 100000) (hb : BytesAt w a bs) :
    Calls Tryd.prog 46 #[.int .i64 pub, .slice a n cap, .agg #[.int .i64 r, .int .i64 s]] w fun e w' => e = .returned (.bool (G.ver pub r s bs)) ∧ Below w.heap.size w w' := by
  have HK := Lib.hid hK; have HB := Lib.hid hb; have HN := Lib.hid hn
  obtain ⟨c, hc⟩ : ∃ c, c = G.chal pub r bs := ⟨_, rfl⟩
  have hcl : c < 2305843009213688669 := by rw [hc]; exact G.chal_lt _ _ _
  obtain ⟨l, e1, B1, hs1⟩ := base_gen s
  obtain ⟨p, e2, B2, hs2⟩ := exp_gen pub c hcl
  obtain ⟨q, e3, B3, hs3⟩ := mul_gen r p
  have P1 := Lib.hid B1; have P3 := Lib.hid B2; have P4 := Lib.hid B3
  have P2 : Hid (∀ W : World, Below w.heap.size w W → Calls Tryd.prog 87 #[.int .i64 pub, .int .i64 r, .slice a n cap] W fun e w' => e = .returned (.int .i64 c) ∧ Below W.heap.size W w') := Lib.hid fun W hW => by
    rw [hc]; exact challenge_any pub r a n cap bs W (HK.out.kept hW HK.out.pos) HN.out hl (HB.out.kept hW)
  have HV : Hid (G.ver pub r s bs = (decide (e1 = 0) && (decide (e2 = 0) && (decide (e3 = 0) && decide (l = q))))) := Lib.hid (by
    have hpe : G.el pub = true → G.el p = true ∧ p.toNat = G.pw pub.toNat c := fun h => by
      rcases hs2 with ⟨_, h2, _⟩ | ⟨h2, _, _⟩
      · obtain ⟨m, rfl, hm⟩ := G.el_nat h
        rw [Int.toNat_natCast] at h2 ⊢
        rw [h2, Int.toNat_natCast]
        exact ⟨G.el_iff.2 (hm.pw c), rfl⟩
      · rw [h] at h2; cases h2
    unfold G.ver
    rw [← hc]
    rcases hs2 with ⟨h2, _, rfl⟩ | ⟨h2, _, rfl⟩
    · obtain ⟨hp1, hp2⟩ := hpe h2
      rw [h2]
      rcases hs3 with ⟨h3, _, rfl, rfl⟩ | ⟨h3, rfl, rfl⟩
      · rw [h3]
        rcases hs1 with ⟨h1, rfl, rfl⟩ | ⟨h1, rfl, rfl⟩
        · rw [h1, hp2]
          simp only [Bool.true_and, decide_true]
          congr 1
          exact propext ⟨fun h => by rw [h], fun h => by omega⟩
        · rw [h1]; rfl
      · rw [hp1, Bool.and_true] at h3
        rw [h3]; simp
    · rw [h2]; simp)
  have heq := run_eq3 e1 e2 e3
  obtain ⟨b, hbb⟩ : ∃ b, b = (decide (e1 = 0) && (decide (e2 = 0) && decide (e3 = 0))) := ⟨_, rfl⟩
  rw [← hbb] at heq
  have HV2 : Hid (G.ver pub r s bs = (b && (l == q))) := Lib.hid (by
    rw [HV.out, hbb, show (l == q) = decide (l = q) by rw [Bool.eq_iff_iff]; simp]
    cases decide (e1 = 0) <;> cases decide (e2 = 0) <;> cases decide (e3 = 0) <;> rfl)
  clear hK hb hn hc hcl B1 B2 B3 hs1 hs2 hs3 hl hbb HV
  rw [HV2.out]
  cases b
  all_goals
    go_enter Tryd.func46, Tryd.ntmps46
    go_wp2_with fail
    have HG0 : Hid (Sig (w.alloc (.cells #[.int .i64 r, .int .i64 s] 52)) w.heap.size r s) := Lib.hid (Sig.new w r s)
    have HW0 : Hid (Below w.heap.size w (w.alloc (.cells #[.int .i64 r, .int .i64 s] 52))) := Lib.hid ((Below.refl _ _).alloc (Nat.le_refl _) _)
    generalize w.alloc (.cells #[.int .i64 r, .int .i64 s] 52) = W0 at HG0 HW0 ⊢
    refine (P1.out _).mono ?_
    rintro e w1 ⟨rfl, hb1⟩
    have HG := sig_step HG0 hb1
    have HW := step_below HW0 hb1
    clear hb1 HG0 HW0
    have k0 := HG.out.c0
    go_wp2_with (first
      | (go_at_call 87; (with_reducible refine (P2.out _ HW.out).mono ?_); rintro e wc ⟨rfl, hb⟩; replace HG := sig_step HG hb; have k0 := HG.out.c0; replace HW := step_below HW hb; clear hb)
      | (go_at_call 50; (with_reducible refine (P3.out _).mono ?_); rintro e wc ⟨rfl, hb⟩; replace HG := sig_step HG hb; have k0 := HG.out.c0; replace HW := step_below HW hb; clear hb)
      | (go_at_call 52; (with_reducible refine (P4.out _).mono ?_); rintro e wc ⟨rfl, hb⟩; replace HG := sig_step HG hb; have k0 := HG.out.c0; replace HW := step_below HW hb; clear hb))
    go_ret
    exact ⟨rfl, HW.out.alloc HW.out.size _⟩

end Go.Proofs.YtogedlfpgoicfaaDoor
