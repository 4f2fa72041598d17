/- The law SignDifference: the walk. -/
import Derived.Test.YtogedlfpgoicfaaDoorSSane
namespace Go.Proofs.YtogedlfpgoicfaaDoor
open Go.RowKit

set_option maxRecDepth 100000 in
set_option maxHeartbeats 4000000 in
theorem sdiff_walk (pr : Int) (a : Option Addr) (n cap : Nat) (bs : List UInt8) (b : Option Addr) (m cap2 : Nat) (cs : List UInt8) (w : World) (hK : KT w) (_ : -9223372036854775808 ≤ pr) (_ : pr ≤ 9223372036854775807) (hn : bs.length = n) (_ : n ≤ cap) (hb : BytesAt w a bs) (hm : cs.length = m) (_ : m ≤ cap2) (hc : BytesAt w b cs) :
    Calls Tryd.prog 14 #[.int .i64 pr, .slice a n cap, .slice b m cap2] w fun e w' => e = .returned (.bool true) ∧ Below w.heap.size w w' := by
  have HK := Lib.hid hK; have HB := Lib.hid hb; have HN := Lib.hid hn; have HC := Lib.hid hc; have HM := Lib.hid hm
  clear hK hb hn hc hm
  have HS := Lib.hid (ssane_any w HK.out)
  by_cases g1 : 1000 < n
  · have qg1 : decide ((1000 : Int) < (n : Int)) = true := by rw [decide_eq_true_iff]; omega
    go_enter Tryd.func14, Tryd.ntmps14
    go_wp2_with fail
    refine HS.out.mono ?_
    rintro e w1 ⟨rfl, hb1⟩
    have HW := Lib.hid hb1
    clear hb1 HS
    go_wp2_with fail
    go_ret
    exact ⟨rfl, HW.out⟩
  have qg1 : decide ((1000 : Int) < (n : Int)) = false := by rw [decide_eq_false_iff_not]; omega
  by_cases g2 : 1000 < m
  · have qg2 : decide ((1000 : Int) < (m : Int)) = true := by rw [decide_eq_true_iff]; omega
    go_enter Tryd.func14, Tryd.ntmps14
    go_wp2_with fail
    refine HS.out.mono ?_
    rintro e w1 ⟨rfl, hb1⟩
    have HW := Lib.hid hb1
    clear hb1 HS
    go_wp2_with fail
    go_ret
    exact ⟨rfl, HW.out⟩
  have qg2 : decide ((1000 : Int) < (m : Int)) = false := by rw [decide_eq_false_iff_not]; omega
  have HL := Lib.hid (show n ≤ 100000 by omega)
  have HL2 := Lib.hid (show m ≤ 100000 by omega)
  clear g1 g2
  go_enter Tryd.func14, Tryd.ntmps14
  go_wp2_with fail
  refine HS.out.mono ?_
  rintro e w1 ⟨rfl, hb1⟩
  have HW : Hid (Below w.heap.size w w1) := Lib.hid hb1
  clear hb1 HS
  go_wp2_with fail
  refine (key_any pr _).mono ?_
  rintro e w2 ⟨⟨x, hx1, hx2, rfl⟩, rfl⟩
  obtain ⟨p, hp⟩ : ∃ p, p = G.pw 4 x := ⟨_, rfl⟩
  obtain ⟨r, hr⟩ : ∃ r, r = G.sigR x bs := ⟨_, rfl⟩
  obtain ⟨s, hs⟩ : ∃ s, s = G.sigS x bs := ⟨_, rfl⟩
  obtain ⟨u, hu⟩ : ∃ u, u = G.sigR x cs := ⟨_, rfl⟩
  obtain ⟨t, ht⟩ : ∃ t, t = G.sigS x cs := ⟨_, rfl⟩
  obtain ⟨c1, hc1⟩ : ∃ c, c = G.sigH x bs := ⟨_, rfl⟩
  obtain ⟨c2, hc2⟩ : ∃ c, c = G.sigH x cs := ⟨_, rfl⟩
  obtain ⟨d, hd⟩ : ∃ d, d = G.mi s t := ⟨_, rfl⟩
  obtain ⟨c, hcc⟩ : ∃ c, c = G.mi c1 c2 := ⟨_, rfl⟩
  obtain ⟨v, hv⟩ : ∃ v, v = G.iv u := ⟨_, rfl⟩
  obtain ⟨q, hq⟩ : ∃ q, q = G.mp r v := ⟨_, rfl⟩
  obtain ⟨y, hy⟩ : ∃ y, y = G.pw p c := ⟨_, rfl⟩
  obtain ⟨z, hz⟩ : ∃ z, z = G.pw 4 d := ⟨_, rfl⟩
  have hpe : G.El p := by rw [hp]; exact G.el4.pw _
  have hre : G.El r := by rw [hr]; exact G.sigR_el _ _
  have hue : G.El u := by rw [hu]; exact G.sigR_el _ _
  have hve : G.El v := by rw [hv]; exact hue.iv
  have hqe : G.El q := by rw [hq]; exact hre.mp hve
  have hye : G.El y := by rw [hy]; exact hpe.pw _
  have hsl : s < 2305843009213688669 := by rw [hs]; exact G.sigS_lt _ _
  have htl : t < 2305843009213688669 := by rw [ht]; exact G.sigS_lt _ _
  have h1l : c1 < 2305843009213688669 := by rw [hc1]; exact G.sigH_lt _ _
  have h2l : c2 < 2305843009213688669 := by rw [hc2]; exact G.sigH_lt _ _
  have hdl : d < 2305843009213688669 := by rw [hd]; exact G.mi_lt _ _
  have hcl : c < 2305843009213688669 := by rw [hcc]; exact G.mi_lt _ _
  have hz2 : z = G.mp q y := by
    rw [hz, hd, hs, ht, G.sig_diff, hq, hv, hy, hcc, hr, hu, hp, hc1, hc2]
  have P1 : Hid (∀ W : World, Calls Tryd.prog 40 #[.int .i64 x] W fun e w' => e = .returned (.tuple #[.int .i64 p, .int .i64 0]) ∧ Below W.heap.size W w') := Lib.hid fun W => public_ok x p W hx1 hx2 (Lib.hid hp)
  have P2 : Hid (∀ W : World, Below w.heap.size w W → Calls Tryd.prog 42 #[.int .i64 x, .slice a n cap] W fun e w' => e = .returned (.tuple #[.agg #[.int .i64 r, .int .i64 s], .int .i64 0]) ∧ Below W.heap.size W w') := Lib.hid fun W hW => by
    rw [hr, hs]; exact sign_ok x a n cap bs W (HK.out.kept hW HK.out.pos) hx1 hx2 HN.out HL.out (HB.out.kept hW)
  have P3 : Hid (∀ W : World, Below w.heap.size w W → Calls Tryd.prog 42 #[.int .i64 x, .slice b m cap2] W fun e w' => e = .returned (.tuple #[.agg #[.int .i64 u, .int .i64 t], .int .i64 0]) ∧ Below W.heap.size W w') := Lib.hid fun W hW => by
    rw [hu, ht]; exact sign_ok x b m cap2 cs W (HK.out.kept hW HK.out.pos) hx1 hx2 HM.out HL2.out (HC.out.kept hW)
  have P4 : Hid (∀ W : World, Calls Tryd.prog 53 #[.int .i64 s, .int .i64 t] W fun e w' => e = .returned (.tuple #[.int .i64 d, .int .i64 0]) ∧ Below W.heap.size W w') := Lib.hid fun W => minus_any s t d W hsl htl (Lib.hid hd)
  have P5 : Hid (∀ W : World, Below w.heap.size w W → Calls Tryd.prog 51 #[.int .i64 p, .int .i64 r, .slice a n cap] W fun e w' => e = .returned (.int .i64 c1) ∧ Below W.heap.size W w') := Lib.hid fun W hW => by
    have h := lchallenge_any p r a n cap bs W (HK.out.kept hW HK.out.pos) HN.out HL.out (HB.out.kept hW)
    rw [hp, hr] at h
    rw [hp, hr, hc1]; exact h
  have P6 : Hid (∀ W : World, Below w.heap.size w W → Calls Tryd.prog 51 #[.int .i64 p, .int .i64 u, .slice b m cap2] W fun e w' => e = .returned (.int .i64 c2) ∧ Below W.heap.size W w') := Lib.hid fun W hW => by
    have h := lchallenge_any p u b m cap2 cs W (HK.out.kept hW HK.out.pos) HM.out HL2.out (HC.out.kept hW)
    rw [hp, hu] at h
    rw [hp, hu, hc2]; exact h
  have P7 : Hid (∀ W : World, Calls Tryd.prog 53 #[.int .i64 c1, .int .i64 c2] W fun e w' => e = .returned (.tuple #[.int .i64 c, .int .i64 0]) ∧ Below W.heap.size W w') := Lib.hid fun W => minus_any c1 c2 c W h1l h2l (Lib.hid hcc)
  have P8 : Hid (∀ W : World, Calls Tryd.prog 54 #[.int .i64 u] W fun e w' => e = .returned (.tuple #[.int .i64 v, .int .i64 0]) ∧ Below W.heap.size W w') := Lib.hid fun W => inv_ok u v W hue (Lib.hid (by rw [hv]; rfl))
  have P9 : Hid (∀ W : World, Calls Tryd.prog 52 #[.int .i64 r, .int .i64 v] W fun e w' => e = .returned (.tuple #[.int .i64 q, .int .i64 0]) ∧ Below W.heap.size W w') := Lib.hid fun W => mul_ok r v q W hre hve (Lib.hid (by rw [hq]; rfl))
  have PA : Hid (∀ W : World, Calls Tryd.prog 50 #[.int .i64 p, .int .i64 c] W fun e w' => e = .returned (.tuple #[.int .i64 y, .int .i64 0]) ∧ Below W.heap.size W w') := Lib.hid fun W => exp_ok p c y W hpe hcl (Lib.hid (by rw [hy]; rfl))
  have PB : Hid (∀ W : World, Calls Tryd.prog 49 #[.int .i64 d] W fun e w' => e = .returned (.tuple #[.int .i64 z, .int .i64 0]) ∧ Below W.heap.size W w') := Lib.hid fun W => base_ok d z W hdl (Lib.hid (by rw [hz]; rfl))
  have PC : Hid (∀ W : World, Calls Tryd.prog 52 #[.int .i64 q, .int .i64 y] W fun e w' => e = .returned (.tuple #[.int .i64 z, .int .i64 0]) ∧ Below W.heap.size W w') := Lib.hid fun W => mul_ok q y z W hqe hye (Lib.hid (by rw [hz2]; rfl))
  clear hp hr hs hu ht hc1 hc2 hd hcc hv hq hy hz hpe hre hue hve hqe hye hsl htl h1l h2l hdl hcl hz2 hx1 hx2
  go_wp2_with fail
  refine (P1.out _).mono ?_
  rintro e w3 ⟨rfl, hb⟩
  replace HW := step_below HW hb
  clear hb
  go_wp2_with fail
  refine (P2.out _ HW.out).mono ?_
  rintro e w4 ⟨rfl, hb⟩
  replace HW := step_below HW hb
  clear hb
  have HG0 : Hid (Sig (w4.alloc (.cells #[.int .i64 r, .int .i64 s] 52)) w4.heap.size r s) := Lib.hid (Sig.new w4 r s)
  have HV : Hid (Below w.heap.size w (w4.alloc (.cells #[.int .i64 r, .int .i64 s] 52))) := Lib.hid (HW.out.alloc HW.out.size _)
  go_wp2_with fail
  refine (P3.out _ HV.out).mono ?_
  rintro e w5 ⟨rfl, hb⟩
  have HG1 := sig_step HG0 hb
  replace HV := step_below HV hb
  generalize w4.heap.size = g at HG1 ⊢
  clear hb HG0 HW
  have HA : Below w5.heap.size w5 (w5.alloc (.cells #[.int .i64 u, .int .i64 t] 52)) := (Below.refl _ _).alloc (Nat.le_refl _) _
  have HG := sig_step HG1 HA
  replace HV := step_below HV HA
  have HH : Hid (Sig (w5.alloc (.cells #[.int .i64 u, .int .i64 t] 52)) w5.heap.size u t) := Lib.hid (Sig.new w5 u t)
  clear HA HG1 P1 P2 P3
  have k0 := HG.out.c0; have k1 := HG.out.c1; have k2 := HH.out.c0; have k3 := HH.out.c1
  go_wp2_with (go_at_call 53; (with_reducible refine (P4.out _).mono ?_); rintro e wc ⟨rfl, hb⟩; replace HG := sig_step HG hb; replace HH := sig_step HH hb; have k0 := HG.out.c0; have k1 := HG.out.c1; have k2 := HH.out.c0; have k3 := HH.out.c1; replace HV := step_below HV hb; clear hb)
  generalize w5.heap.size = h at HH k2 k3 ⊢
  replace HV : Hid (Below w.heap.size w wc.drew) := Lib.hid HV.out.drew
  replace HG : Hid (Sig wc.drew g r s) := HG
  replace HH : Hid (Sig wc.drew h u t) := HH
  go_region_held3 (fun w' => w'.cell? ⟨g, 0, none⟩ = some (.int .i64 r) ∧ w'.cell? ⟨h, 0, none⟩ = some (.int .i64 u)) (exact ⟨HG.out.c0, HH.out.c0⟩)
    (first
      | (go_at_call 51; (with_reducible refine (P5.out _ HV.out).mono ?_); rintro e wx ⟨rfl, hb⟩; have HG := sig_step HG hb; have HH := sig_step HH hb; have HV := step_below HV hb; clear hb)
      | (go_at_call 51; (with_reducible refine (P6.out _ HV.out).mono ?_); rintro e wx ⟨rfl, hb⟩; have HG := sig_step HG hb; have HH := sig_step HH hb; have HV := step_below HV hb; clear hb)
      | (go_at_call 53; (with_reducible refine (P7.out _).mono ?_); rintro e wx ⟨rfl, hb⟩; have HG := sig_step HG hb; have HH := sig_step HH hb; have HV := step_below HV hb; clear hb))
  all_goals
    have k0 := HG.out.c0; have k1 := HG.out.c1; have k2 := HH.out.c0; have k3 := HH.out.c1
    go_wp2_with (first
      | (go_at_call 54; (with_reducible refine (P8.out _).mono ?_); rintro e wc ⟨rfl, hb⟩; replace HG := sig_step HG hb; replace HH := sig_step HH hb; have k0 := HG.out.c0; have k1 := HG.out.c1; have k2 := HH.out.c0; have k3 := HH.out.c1; replace HV := step_below HV hb; clear hb)
      | (go_at_call 52; (with_reducible refine (P9.out _).mono ?_); rintro e wc ⟨rfl, hb⟩; replace HG := sig_step HG hb; replace HH := sig_step HH hb; have k0 := HG.out.c0; have k1 := HG.out.c1; have k2 := HH.out.c0; have k3 := HH.out.c1; replace HV := step_below HV hb; clear hb)
      | (go_at_call 50; (with_reducible refine (PA.out _).mono ?_); rintro e wc ⟨rfl, hb⟩; replace HG := sig_step HG hb; replace HH := sig_step HH hb; have k0 := HG.out.c0; have k1 := HG.out.c1; have k2 := HH.out.c0; have k3 := HH.out.c1; replace HV := step_below HV hb; clear hb)
      | (go_at_call 49; (with_reducible refine (PB.out _).mono ?_); rintro e wc ⟨rfl, hb⟩; replace HG := sig_step HG hb; replace HH := sig_step HH hb; have k0 := HG.out.c0; have k1 := HG.out.c1; have k2 := HH.out.c0; have k3 := HH.out.c1; replace HV := step_below HV hb; clear hb)
      | (go_at_call 52; (with_reducible refine (PC.out _).mono ?_); rintro e wc ⟨rfl, hb⟩; replace HG := sig_step HG hb; replace HH := sig_step HH hb; have k0 := HG.out.c0; have k1 := HG.out.c1; have k2 := HH.out.c0; have k3 := HH.out.c1; replace HV := step_below HV hb; clear hb))
    go_ret
    exact ⟨rfl, HV.out⟩

end Go.Proofs.YtogedlfpgoicfaaDoor
