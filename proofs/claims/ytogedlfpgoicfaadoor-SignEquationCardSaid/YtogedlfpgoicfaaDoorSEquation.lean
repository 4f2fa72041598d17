/- The law SignEquation: the walk. -/
import Derived.Test.YtogedlfpgoicfaaDoorSSane
namespace Go.Proofs.YtogedlfpgoicfaaDoor
open Go.RowKit

/-- What Verify says, by what group's three calls say. -/
theorem ver_eq (pub r s : Int) (bs : List UInt8) (c : Nat) (hc : c = G.chal pub r bs) (l e1 p e2 q e3 : Int)
    (hs1 : (G.sc s = true ∧ l = (G.pw 4 s.toNat : Nat) ∧ e1 = 0) ∨ (G.sc s = false ∧ e1 = 1 ∧ l = 0))
    (hs2 : (G.el pub = true ∧ p = (G.pw pub.toNat c : Nat) ∧ e2 = 0) ∨ (G.el pub = false ∧ p = 0 ∧ e2 = 30))
    (hs3 : (G.el r = true ∧ G.el p = true ∧ q = (G.mp r.toNat p.toNat : Nat) ∧ e3 = 0) ∨ ((G.el r && G.el p) = false ∧ q = 0 ∧ e3 = 30)) :
    G.ver pub r s bs = (decide (e1 = 0) && (decide (e2 = 0) && (decide (e3 = 0) && decide (l = q)))) := by
  have hpe : G.el pub = true → G.el p = true ∧ p.toNat = G.pw pub.toNat c := fun h => by
    rcases hs2 with ⟨_, h2, _⟩ | ⟨h2, _, _⟩
    · obtain ⟨m, rfl, hm⟩ := G.el_nat h
      rw [Int.toNat_natCast] at h2 ⊢
      rw [h2, Int.toNat_natCast]
      exact ⟨G.el_iff.2 (hm.pw c), rfl⟩
    · rw [h] at h2; cases h2
  unfold G.ver
  rw [← hc]
  rcases hs2 with ⟨h2, _, rfl⟩ | ⟨h2, _, rfl⟩
  · obtain ⟨hp1, hp2⟩ := hpe h2
    rw [h2]
    rcases hs3 with ⟨h3, _, rfl, rfl⟩ | ⟨h3, rfl, rfl⟩
    · rw [h3]
      rcases hs1 with ⟨h1, rfl, rfl⟩ | ⟨h1, rfl, rfl⟩
      · rw [h1, hp2]
        simp only [Bool.true_and, decide_true]
        congr 1
        exact propext ⟨fun h => by rw [h], fun h => by omega⟩
      · rw [h1]; rfl
    · rw [hp1, Bool.and_true] at h3
      rw [h3]; simp
  · rw [h2]; simp

set_option maxRecDepth 100000 in
set_option maxHeartbeats 4000000 in
theorem equation_walk (pub : Int) (a : Option Addr) (n cap : Nat) (bs : List UInt8) (r s : Int) (w : World) (hK : KT w) (_ : -9223372036854775808 ≤ pub) (_ : pub ≤ 9223372036854775807) (hn : bs.length = n) (_ : n ≤ cap) (hb : BytesAt w a bs) :
    Calls Tryd.prog 12 #[.int .i64 pub, .slice a n cap, .agg #[.int .i64 r, .int .i64 s]] w fun e w' => e = .returned (.bool true) ∧ Below w.heap.size w w' := by
  have HK := Lib.hid hK; have HB := Lib.hid hb; have HN := Lib.hid hn
  clear hK hb hn
  have HS : Hid (∀ W : World, Below w.heap.size w W → Calls Tryd.prog 38 #[] W fun e w' => e = .returned (.bool true) ∧ Below W.heap.size W w') := Lib.hid fun W hW => ssane_any W (HK.out.kept hW HK.out.pos)
  have HG0 : Hid (Sig (w.alloc (.cells #[.int .i64 r, .int .i64 s] 52)) w.heap.size r s) := Lib.hid (Sig.new w r s)
  have HW0 : Hid (Below w.heap.size w (w.alloc (.cells #[.int .i64 r, .int .i64 s] 52))) := Lib.hid ((Below.refl _ _).alloc (Nat.le_refl _) _)
  by_cases g1 : 1000 < n
  · have q1 : decide ((1000 : Int) < (n : Int)) = true := by rw [decide_eq_true_iff]; omega
    go_enter Tryd.func12, Tryd.ntmps12
    go_wp2_with fail
    refine (HS.out _ HW0.out).mono ?_
    rintro e w1 ⟨rfl, hb1⟩
    have HW := step_below HW0 hb1
    clear hb1 HS
    go_wp2_with fail
    go_ret
    exact ⟨rfl, HW.out⟩
  have q1 : decide ((1000 : Int) < (n : Int)) = false := by rw [decide_eq_false_iff_not]; omega
  have HL := Lib.hid (show n ≤ 100000 by omega)
  clear g1
  obtain ⟨c, hc⟩ : ∃ c, c = G.chal pub r bs := ⟨_, rfl⟩
  have hcl : c < 2305843009213688669 := by rw [hc]; exact G.chal_lt _ _ _
  obtain ⟨l, e1, B1, hs1⟩ := base_gen s
  obtain ⟨p, e2, B2, hs2⟩ := exp_gen pub c hcl
  obtain ⟨q, e3, B3, hs3⟩ := mul_gen r p
  have hv := ver_eq pub r s bs c hc l e1 p e2 q e3 hs1 hs2 hs3
  have P1 := Lib.hid B1; have P3 := Lib.hid B2; have P4 := Lib.hid B3
  have P2 : Hid (∀ W : World, Below w.heap.size w W → Calls Tryd.prog 51 #[.int .i64 pub, .int .i64 r, .slice a n cap] W fun e w' => e = .returned (.int .i64 c) ∧ Below W.heap.size W w') := Lib.hid fun W hW => by
    rw [hc]; exact lchallenge_any pub r a n cap bs W (HK.out.kept hW HK.out.pos) HN.out HL.out (HB.out.kept hW)
  have P5 : Hid (∀ W : World, Below w.heap.size w W → Calls Tryd.prog 46 #[.int .i64 pub, .slice a n cap, .agg #[.int .i64 r, .int .i64 s]] W fun e w' => e = .returned (.bool (decide (e1 = 0) && (decide (e2 = 0) && (decide (e3 = 0) && decide (l = q))))) ∧ Below W.heap.size W w') := Lib.hid fun W hW => by
    rw [← hv]; exact verify_any pub r s a n cap bs W (HK.out.kept hW HK.out.pos) HN.out HL.out (HB.out.kept hW)
  clear hc hcl B1 B2 B3 hs1 hs2 hs3 hv
  go_enter Tryd.func12, Tryd.ntmps12
  go_wp2_with fail
  refine (HS.out _ HW0.out).mono ?_
  rintro e w1 ⟨rfl, hb1⟩
  have HV := step_below HW0 hb1
  have HG := sig_step HG0 hb1
  generalize w.heap.size = g at HG ⊢
  clear hb1 HS HG0 HW0
  have k0 := HG.out.c0; have k1 := HG.out.c1
  go_wp2_with (first
    | (go_at_call 49; (with_reducible refine (P1.out _).mono ?_); rintro e wc ⟨rfl, hb⟩; replace HG := sig_step HG hb; have k0 := HG.out.c0; have k1 := HG.out.c1; replace HV := step_below HV hb; clear hb)
    | (go_at_call 51; (with_reducible refine (P2.out _ HV.out).mono ?_); rintro e wc ⟨rfl, hb⟩; replace HG := sig_step HG hb; have k0 := HG.out.c0; have k1 := HG.out.c1; replace HV := step_below HV hb; clear hb)
    | (go_at_call 50; (with_reducible refine (P3.out _).mono ?_); rintro e wc ⟨rfl, hb⟩; replace HG := sig_step HG hb; have k0 := HG.out.c0; have k1 := HG.out.c1; replace HV := step_below HV hb; clear hb)
    | (go_at_call 52; (with_reducible refine (P4.out _).mono ?_); rintro e wc ⟨rfl, hb⟩; replace HG := sig_step HG hb; have k0 := HG.out.c0; have k1 := HG.out.c1; replace HV := step_below HV hb; clear hb))
  clear P1 P2 P3 P4 HG k0 k1 HK HB HN HL
  by_cases z1 : e1 = 0
  · by_cases z2 : e2 = 0
    · by_cases z3 : e3 = 0
      · by_cases z4 : l = q
        · have f4 : ((l : Int) == q) = true := by simpa using z4
          have P6 : Hid (∀ W : World, Below w.heap.size w W → Calls Tryd.prog 46 #[.int .i64 pub, .slice a n cap, .agg #[.int .i64 r, .int .i64 s]] W fun e w' => e = .returned (.bool true) ∧ Below W.heap.size W w') := Lib.hid fun W hW => by
            have h := P5.out W hW
            rw [show (decide (e1 = 0) && (decide (e2 = 0) && (decide (e3 = 0) && decide (l = q)))) = true from by simp [z1, z2, z3, z4]] at h
            exact h
          clear P5
          clear z4
          subst z1 z2 z3
          go_wp2_with (go_at_call 46; (with_reducible refine (P6.out _ HV.out).mono ?_); rintro e wd ⟨rfl, hb⟩; replace HV := step_below HV hb; clear hb)
          go_ret
          exact ⟨rfl, HV.out⟩
        · have f4 : ((l : Int) == q) = false := by simpa using z4
          have P6 : Hid (∀ W : World, Below w.heap.size w W → Calls Tryd.prog 46 #[.int .i64 pub, .slice a n cap, .agg #[.int .i64 r, .int .i64 s]] W fun e w' => e = .returned (.bool false) ∧ Below W.heap.size W w') := Lib.hid fun W hW => by
            have h := P5.out W hW
            rw [show (decide (e1 = 0) && (decide (e2 = 0) && (decide (e3 = 0) && decide (l = q)))) = false from by simp [z1, z2, z3, z4]] at h
            exact h
          clear P5
          clear z4
          subst z1 z2 z3
          go_wp2_with (go_at_call 46; (with_reducible refine (P6.out _ HV.out).mono ?_); rintro e wd ⟨rfl, hb⟩; replace HV := step_below HV hb; clear hb)
          go_ret
          exact ⟨rfl, HV.out⟩
      · have f0 : ((e3 : Int) == 0) = false := by simpa using z3
        have P6 : Hid (∀ W : World, Below w.heap.size w W → Calls Tryd.prog 46 #[.int .i64 pub, .slice a n cap, .agg #[.int .i64 r, .int .i64 s]] W fun e w' => e = .returned (.bool false) ∧ Below W.heap.size W w') := Lib.hid fun W hW => by
          have h := P5.out W hW
          rw [show (decide (e1 = 0) && (decide (e2 = 0) && (decide (e3 = 0) && decide (l = q)))) = false from by simp [z3]] at h
          exact h
        clear P5
        subst z1 z2
        go_wp2_with (go_at_call 46; (with_reducible refine (P6.out _ HV.out).mono ?_); rintro e wd ⟨rfl, hb⟩; replace HV := step_below HV hb; clear hb)
        go_ret
        exact ⟨rfl, HV.out⟩
    · have f0 : ((e2 : Int) == 0) = false := by simpa using z2
      have P6 : Hid (∀ W : World, Below w.heap.size w W → Calls Tryd.prog 46 #[.int .i64 pub, .slice a n cap, .agg #[.int .i64 r, .int .i64 s]] W fun e w' => e = .returned (.bool false) ∧ Below W.heap.size W w') := Lib.hid fun W hW => by
        have h := P5.out W hW
        rw [show (decide (e1 = 0) && (decide (e2 = 0) && (decide (e3 = 0) && decide (l = q)))) = false from by simp [z2]] at h
        exact h
      clear P5
      subst z1
      go_wp2_with (go_at_call 46; (with_reducible refine (P6.out _ HV.out).mono ?_); rintro e wd ⟨rfl, hb⟩; replace HV := step_below HV hb; clear hb)
      go_ret
      exact ⟨rfl, HV.out⟩
  · have f0 : ((e1 : Int) == 0) = false := by simpa using z1
    have P6 : Hid (∀ W : World, Below w.heap.size w W → Calls Tryd.prog 46 #[.int .i64 pub, .slice a n cap, .agg #[.int .i64 r, .int .i64 s]] W fun e w' => e = .returned (.bool false) ∧ Below W.heap.size W w') := Lib.hid fun W hW => by
      have h := P5.out W hW
      rw [show (decide (e1 = 0) && (decide (e2 = 0) && (decide (e3 = 0) && decide (l = q)))) = false from by simp [z1]] at h
      exact h
    clear P5
    go_wp2_with (go_at_call 46; (with_reducible refine (P6.out _ HV.out).mono ?_); rintro e wd ⟨rfl, hb⟩; replace HV := step_below HV hb; clear hb)
    go_ret
    exact ⟨rfl, HV.out⟩

end Go.Proofs.YtogedlfpgoicfaaDoor
