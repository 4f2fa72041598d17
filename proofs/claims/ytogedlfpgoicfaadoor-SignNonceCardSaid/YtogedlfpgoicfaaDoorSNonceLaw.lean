/- The law SignNonce: the walk. -/
import Derived.Test.YtogedlfpgoicfaaDoorSSane
namespace Go.Proofs.YtogedlfpgoicfaaDoor
open Go.RowKit

/-- append of bytes, at an operation whose guard struck. -/
theorem wpl_cat_w {ops : Array Oper} {rest : List Oper} {o : Oper} {a : Act} {Q : Exit → Act → World → Prop} {w : World} (hw : Region.wanted o (yielded ops a.tmps) = true) (s x : Operand)
    (ho : o.op = .call { callee := .builtin .append, args := #[s, x], argTypes := #[22, 22] })
    (base : Nat) (v : Value) (n : Nat) (xs : List UInt8) (hs : a.eval s = v) (hown : w.ownsRow base 5 1 v n (bytes xs)) (A : Option Addr) (m c : Nat) (ys : List UInt8)
    (hx : a.eval x = .slice A m c) (hm : ys.length = m) (hy : BytesAt w A ys) (hn : n + m ≤ 140737488355327) (hb : base ≤ w.heap.size)
    (h : ∀ A' c' w', w'.ownsRow base 5 1 (.slice A' (n + m) c') (n + m) (bytes (xs ++ ys)) → Keeps base w w' → wpList Tryd.prog ops Q rest (a.put o.dst (.slice A' (n + m) c')) w') :
    wpList Tryd.prog ops Q (o :: rest) a w := by
  obtain ⟨v', w', hr, h2, h3⟩ := run_cat base v n xs hown A m c ys hm hy hn hb o.type
  refine BigFrame.wpList_want hw (fun K hK => ?_)
  obtain ⟨A', c', rfl, _, _, _⟩ := owns_bytesAt h2
  unfold Oper.wp execOp
  simp only [ho, resolve, invoke, builtin, Sem.run_bind, Sem.run_pure, Result.andThen_ok, List.map_toArray, List.map_cons, List.map_nil, hs, hx, hr]
  exact hK _ _ (h A' c' w' h2 h3)

set_option maxRecDepth 100000 in
set_option maxHeartbeats 4000000 in
theorem snonce_walk (pr : Int) (a : Option Addr) (n cap : Nat) (bs : List UInt8) (w : World) (hK : KT w) (_ : -9223372036854775808 ≤ pr) (_ : pr ≤ 9223372036854775807) (hn : bs.length = n) (_ : n ≤ cap) (hb : BytesAt w a bs) :
    Calls Tryd.prog 15 #[.int .i64 pr, .slice a n cap] w fun e w' => e = .returned (.bool true) ∧ Below w.heap.size w w' := by
  have HK := Lib.hid hK; have HB := Lib.hid hb; have HN := Lib.hid hn
  clear hK hb hn
  have HS := Lib.hid (ssane_any w HK.out)
  by_cases g1 : 1000 < n
  · have q1 : decide ((1000 : Int) < (n : Int)) = true := by rw [decide_eq_true_iff]; omega
    go_enter Tryd.func15, Tryd.ntmps15
    go_wp2_with fail
    refine HS.out.mono ?_
    rintro e w1 ⟨rfl, hb1⟩
    have HW := Lib.hid hb1
    clear hb1 HS
    go_wp2_with fail
    go_ret
    exact ⟨rfl, HW.out⟩
  have q1 : decide ((1000 : Int) < (n : Int)) = false := by rw [decide_eq_false_iff_not]; omega
  have HL := Lib.hid (show n ≤ 100000 by omega)
  clear g1
  go_enter Tryd.func15, Tryd.ntmps15
  go_wp2_with fail
  refine HS.out.mono ?_
  rintro e w1 ⟨rfl, hb1⟩
  have HW : Hid (Below w.heap.size w w1) := Lib.hid hb1
  clear hb1 HS
  go_wp2_with fail
  refine (key_any pr _).mono ?_
  rintro e w2 ⟨⟨x, hx1, hx2, rfl⟩, rfl⟩
  obtain ⟨p, hp⟩ : ∃ p, p = G.pw 4 x := ⟨_, rfl⟩
  obtain ⟨r, hr⟩ : ∃ r, r = G.sigR x bs := ⟨_, rfl⟩
  obtain ⟨s, hs⟩ : ∃ s, s = G.sigS x bs := ⟨_, rfl⟩
  have P1 : Hid (∀ W : World, Calls Tryd.prog 40 #[.int .i64 x] W fun e w' => e = .returned (.tuple #[.int .i64 p, .int .i64 0]) ∧ Below W.heap.size W w') := Lib.hid fun W => public_ok x p W hx1 hx2 (Lib.hid hp)
  have P2 : Hid (∀ W : World, Below w.heap.size w W → Calls Tryd.prog 42 #[.int .i64 x, .slice a n cap] W fun e w' => e = .returned (.tuple #[.agg #[.int .i64 r, .int .i64 s], .int .i64 0]) ∧ Below W.heap.size W w') := Lib.hid fun W hW => by
    rw [hr, hs]; exact sign_ok x a n cap bs W (HK.out.kept hW HK.out.pos) hx1 hx2 HN.out HL.out (HB.out.kept hW)
  obtain ⟨c, hc⟩ : ∃ c, c = G.sigH x bs := ⟨_, rfl⟩
  obtain ⟨m, hm⟩ : ∃ m, m = G.ml c x := ⟨_, rfl⟩
  obtain ⟨k, hk⟩ : ∃ k, k = G.nonc x bs := ⟨_, rfl⟩
  have hcl : c < 2305843009213688669 := by rw [hc]; exact G.sigH_lt _ _
  have hml : m < 2305843009213688669 := by rw [hm]; exact G.ml_lt _ _
  have hsl : s < 2305843009213688669 := by rw [hs]; exact G.sigS_lt _ _
  have hkl : k < 2305843009213688669 := by rw [hk]; exact G.nonc_lt _ _
  have P3 : Hid (∀ W : World, Below w.heap.size w W → Calls Tryd.prog 51 #[.int .i64 p, .int .i64 r, .slice a n cap] W fun e w' => e = .returned (.int .i64 c) ∧ Below W.heap.size W w') := Lib.hid fun W hW => by
    have h := lchallenge_any p r a n cap bs W (HK.out.kept hW HK.out.pos) HN.out HL.out (HB.out.kept hW)
    rw [hp, hr] at h
    rw [hp, hr, hc]; exact h
  have P4 : Hid (∀ W : World, Calls Tryd.prog 34 #[.int .i64 c, .int .i64 x] W fun e w' => e = .returned (.tuple #[.int .i64 m, .int .i64 0]) ∧ Below W.heap.size W w') := Lib.hid fun W => prod_ok c x m W hcl hx2 (Lib.hid hm)
  have P5 : Hid (∀ W : World, Calls Tryd.prog 53 #[.int .i64 s, .int .i64 m] W fun e w' => e = .returned (.tuple #[.int .i64 k, .int .i64 0]) ∧ Below W.heap.size W w') := Lib.hid fun W => minus_any s m k W hsl hml (Lib.hid (by rw [hk, hs, hm, hc]; exact (G.sig_nonce x bs).symm))
  have P6 : Hid (∀ W : World, Calls Tryd.prog 49 #[.int .i64 k] W fun e w' => e = .returned (.tuple #[.int .i64 r, .int .i64 0]) ∧ Below W.heap.size W w') := Lib.hid fun W => base_ok k r W hkl (Lib.hid (by rw [hr, hk]; rfl))
  have HNK := Lib.hid hk
  clear hp hr hs hx1 hx2 hc hm hk hcl hml hsl hkl
  go_wp2_with fail
  refine (P1.out _).mono ?_
  rintro e w3 ⟨rfl, hb⟩
  replace HW := step_below HW hb
  clear hb
  go_wp2_with fail
  refine (P2.out _ HW.out).mono ?_
  rintro e w4 ⟨rfl, hb⟩
  replace HW := step_below HW hb
  clear hb
  have HG : Hid (Sig (w4.alloc (.cells #[.int .i64 r, .int .i64 s] 52)) w4.heap.size r s) := Lib.hid (Sig.new w4 r s)
  have HV : Hid (Below w.heap.size w (w4.alloc (.cells #[.int .i64 r, .int .i64 s] 52))) := Lib.hid (HW.out.alloc HW.out.size _)
  clear HW P1 P2
  have k0 := HG.out.c0; have k1 := HG.out.c1
  go_wp2_with (first
    | (go_at_call 51; (with_reducible refine (P3.out _ HV.out).mono ?_); rintro e wc ⟨rfl, hb⟩; replace HG := sig_step HG hb; have k0 := HG.out.c0; have k1 := HG.out.c1; replace HV := step_below HV hb; clear hb)
    | (go_at_call 34; (with_reducible refine (P4.out _).mono ?_); rintro e wc ⟨rfl, hb⟩; replace HG := sig_step HG hb; have k0 := HG.out.c0; have k1 := HG.out.c1; replace HV := step_below HV hb; clear hb)
    | (go_at_call 53; (with_reducible refine (P5.out _).mono ?_); rintro e wc ⟨rfl, hb⟩; replace HG := sig_step HG hb; have k0 := HG.out.c0; have k1 := HG.out.c1; replace HV := step_below HV hb; clear hb)
    | (go_at_call 49; (with_reducible refine (P6.out _).mono ?_); rintro e wc ⟨rfl, hb⟩; replace HG := sig_step HG hb; have k0 := HG.out.c0; have k1 := HG.out.c1; replace HV := step_below HV hb; clear hb))
  refine (lnumber_any x _).mono ?_
  rintro e w6 ⟨v6, rfl, ho6, hb6⟩
  have HO6 := Lib.hid ho6
  have HC6 := HV
  have HB6 := Lib.hid hb6
  replace HV := step_below HV hb6
  have HS : Hid (∀ V A c, Below w.heap.size w V → V.ownsRow wc.heap.size 5 1 (.slice A (8 + n) c) (8 + n) (bytes (G.num8 x ++ bs)) → Calls Tryd.prog 36 #[.string ⟨#[110, 111, 110, 99, 101]⟩, .slice A (8 + n) c] V fun e w' => e = .returned (.int .i64 k) ∧ Hid (Below w.heap.size w w')) := Lib.hid (fun V A c hV ho => by
    obtain ⟨hc, hby⟩ := owns_slice ho
    refine (scalar_any ⟨#[110, 111, 110, 99, 101]⟩ A (8 + n) c k (G.num8 x ++ bs) V (HK.out.kept hV HK.out.pos) (by decide) (by rw [List.length_append, G.num8_len, HN.out]) (by have := HL.out; omega) hby (Lib.hid (by rw [HNK.out]; rfl))).mono ?_
    rintro e w' ⟨rfl, hb⟩
    exact ⟨rfl, Lib.hid (hV.trans (hb.mono hV.size))⟩)
  have hBW := HC6.out.size
  have HBW := Lib.hid hBW
  clear ho6 hb6 HG k0 k1 hBW
  go_wp2_with (first
    | (at_builtin; refine wpl_cat_w (by rfl) _ _ rfl wc.heap.size v6 8 (G.num8 x) rfl HO6.out a n cap bs rfl HN.out (HB.out.kept HV.out) (by have := HL.out; omega) HB6.out.size ?_; intro A7 c7 w7 h1 h2; have HE := Lib.hid (And.intro h1 (HV.out.trans ((h2.below HB6.out.size).mono HC6.out.size))); clear h1 h2)
    | (go_at_call 36; (with_reducible refine (HS.out _ _ _ HE.out.2 HE.out.1).mono ?_); rintro e w8 ⟨rfl, HX⟩))
  go_ret
  exact ⟨rfl, HX.out⟩

end Go.Proofs.YtogedlfpgoicfaaDoor
