/- The law of the chains: the walk. -/
import Derived.Test.YthamligdmfhmeaaDoorSane
import Derived.Test.YthamligdmfhmeaaDoorOf
import Derived.Test.YthamligdmfhmeaaDoorRChain
import Derived.Test.YthamligdmfhmeaaDoorDigStep
import Derived.Deep.CutRange
import Derived.Deep.DeepCutAuto
namespace Go.Proofs.YthamligdmfhmeaaDoor
open Go.RowKit

theorem ind32 {d : List UInt8} (h : d.length = 32) : (Tryd.prog.info? 24).map (·.size) = some (bytes d).length := by rw [bytes_len, h]; kernel_rfl
theorem drew_below (W : World) : Below W.heap.size W W.drew := (Below.refl _ _).drew

theorem if_w {c p q : Prop} [Decidable c] (h : c) (hp : p) : if c then p else q := by rw [if_pos h]; exact hp
theorem step_catw {ops : Array Oper} {o : Oper} {a : Act} {K : Act → World → Prop} {Q : Exit → Act → World → Prop} {E : Prop} {w : World} (t : Option Tmp) (hdst : o.dst = t) (hw : Region.wanted o (yielded ops a.tmps) = true) (s x : Operand)
    (ho : o.op = .call { callee := .builtin .append, args := #[s, x], argTypes := #[22, 22] })
    (base : Nat) (v : Value) (n : Nat) (xs : List UInt8) (hs : a.eval s = v) (hown : w.ownsRow base 5 1 v n (bytes xs)) (A : Option Addr) (m c : Nat) (ys : List UInt8)
    (hx : a.eval x = .slice A m c) (hm : ys.length = m) (hy : BytesAt w A ys) (hn : n + m ≤ 140737488355327) (hb : base ≤ w.heap.size)
    (h : ∀ A' c' w', w'.ownsRow base 5 1 (.slice A' (n + m) c') (n + m) (bytes (xs ++ ys)) → Keeps base w w' → K (a.put t (.slice A' (n + m) c')) w') :
    if Region.wanted o (yielded ops a.tmps) = true then Oper.wp Tryd.prog o a w K Q else E := by
  subst hdst
  obtain ⟨v', w', hr, h2, h3⟩ := run_cat base v n xs hown A m c ys hm hy hn hb o.type
  rw [if_pos hw]
  obtain ⟨A', c', rfl, _, _, _⟩ := owns_bytesAt h2
  unfold Oper.wp execOp
  simp only [ho, resolve, invoke, builtin, Sem.run_bind, Sem.run_pure, Result.andThen_ok, List.map_toArray, List.map_cons, List.map_nil, hs, hx, hr]
  exact h A' c' w' h2 h3
theorem step_loadc {ops : Array Oper} {o : Oper} {a : Act} {K : Act → World → Prop} {Q : Exit → Act → World → Prop} {E : Prop} {w : World} (t : Option Tmp) (hdst : o.dst = t) (hgd : o.guard = none) (x : Operand) (ho : o.op = .load 24 x)
    (B off : Nat) (cs : List Value) (hx : a.eval x = .pointer (some ⟨B, off, none⟩)) (hc : w.rangeAt B off cs) (hi : (Tryd.prog.info? 24).map (·.size) = some cs.length) (h : K (a.put t (.agg cs.toArray)) w) :
    if Region.wanted o (yielded ops a.tmps) = true then Oper.wp Tryd.prog o a w K Q else E := by
  subst hdst
  have hw : Region.wanted o (yielded ops a.tmps) = true := by simp [Region.wanted, hgd]
  rw [if_pos hw]
  unfold Oper.wp execOp
  simp only [ho, hx, Sem.run_bind, run_loadAt_mid (P := Tryd.prog) w B off 24 cs _ hc Tryd.underlying24 rfl hi, Result.andThen_ok]
  exact h
theorem owns_row_other {w : World} {base n C : Nat} {v : Value} {xs : List Value} (h : w.ownsRow base 24 32 v n xs) (hC : C < base) (cs : Array Value) : (w.setRow C cs).ownsRow base 24 32 v n xs :=
  ⟨h.1, h.2.imp id fun ⟨g, cap, cur, h1, h2, h3, h4⟩ => ⟨g, cap, cur, h1, h2, (setRow_other _ _ _ _ (by omega)).trans h3, h4⟩⟩
/-- What stands through the rounds: the two digests, the list. -/
structure Ci (w1 : World) (base g5 g6 : Nat) (A : Option Addr) (m c : Nat) (ds : List (List UInt8)) (d : List UInt8) (wr : World) : Prop where
  len : d.length = 32
  x : Dig wr g5 d
  y : Dig wr g6 d
  own : wr.ownsRow base 24 32 (.slice A m c) m (bytes ds.flatten)
  below : Below w1.heap.size w1 wr
  l5 : g5 < base
  l6 : g6 < base
  b5 : w1.heap.size ≤ g5
  b6 : w1.heap.size ≤ g6
  ne : g5 ≠ g6
theorem Ci.kept {w1 wr w' : World} {base g5 g6 : Nat} {A : Option Addr} {m c : Nat} {ds : List (List UInt8)} {d : List UInt8} (h : Ci w1 base g5 g6 A m c ds d wr) (hb : Below wr.heap.size wr w') : Ci w1 base g5 g6 A m c ds d w' :=
  ⟨h.len, h.x.kept hb h.x.lt, h.y.kept hb h.y.lt, owns_kept h.own hb, h.below.trans (hb.mono h.below.size), h.l5, h.l6, h.b5, h.b6, h.ne⟩
theorem Ci.digs {w1 wr : World} {base g5 g6 : Nat} {A : Option Addr} {m c : Nat} {ds : List (List UInt8)} {d : List UInt8} (h : Ci w1 base g5 g6 A m c ds d wr) (hd : ∀ d ∈ ds, d.length = 32) : DigsAt wr A ds := by
  obtain ⟨A', c', he, _, hda⟩ := owns_digs h.own hd
  cases he
  exact hda
theorem Ci.next {w1 wr : World} {base g5 g6 : Nat} {A : Option Addr} {m c : Nat} {ds : List (List UInt8)} {d r : List UInt8} (h : Ci w1 base g5 g6 A m c ds d wr) (hr : r.length = 32) : Ci w1 base g5 g6 A m c ds r ((wr.setRow g5 (byts r)).setRow g6 (byts r)) :=
  ⟨hr, (h.x.set hr).other h.ne _, (h.y.other (Ne.symm h.ne) _).set hr, owns_row_other (owns_row_other h.own h.l5 _) h.l6 _, below_setRow (below_setRow h.below h.b5 _) h.b6 _, h.l5, h.l6, h.b5, h.b6, h.ne⟩

set_option maxRecDepth 100000 in
set_option maxHeartbeats 4000000 in
theorem chains_walk (d0 : List UInt8) (a : Option Addr) (n cap : Nat) (bs : List UInt8) (w : World) (hK : KT w) (hd0 : d0.length = 32) (hn : bs.length = n) (hc : n ≤ cap) (hb : BytesAt w a bs) :
    Calls Tryd.prog 5 #[.agg (byts d0), .slice a n cap] w fun e w' => e = .returned (.bool true) ∧ Below w.heap.size w w' := by
  have HK := Lib.hid hK; have HB := Lib.hid hb; have HN := Lib.hid hn; have HD := Lib.hid hd0; have HCAP := Lib.hid hc
  clear hK hb hn hd0 hc
  have hb0 : Below w.heap.size w (w.alloc (.cells (byts d0) 24)) := (Below.refl _ _).alloc (Nat.le_refl _) _
  have HS : Hid (Calls Tryd.prog 6 #[] (w.alloc (.cells (byts d0) 24)) fun e w' => e = .returned (.bool true) ∧ Hid (Below w.heap.size w w' ∧ Dig w' w.heap.size d0)) := Lib.hid (by
    refine (sane_any _ (HK.out.kept hb0 HK.out.pos)).mono ?_
    rintro e w' ⟨rfl, hb⟩
    exact ⟨rfl, Lib.hid ⟨hb0.trans (hb.mono (by simp)), (Dig.new w HD.out).kept hb (by simp)⟩⟩)
  clear hb0
  go_enter Tryd.func5, Tryd.ntmps5
  go_step
  go_step
  refine wp_region_list ?_
  refine wpl_box rfl 24 _ rfl (byts d0) rfl ?_
  iterate 3 go_step
  refine wpList_nil ?_
  rename_i K1 hK1
  refine hK1 _ _ ?_
  clear hK1
  go_simp
  go_wp2_with fail
  refine HS.out.mono ?_
  rintro e w1 ⟨rfl, HW1⟩
  clear HS
  go_upto_region 3 with (fail)
  go_cut [5, 6] (fun a5 a6 wx => ∃ g5 g6 : Nat, a5 = .pointer (some ⟨g5, 0, none⟩) ∧ a6 = .pointer (some ⟨g6, 0, none⟩) ∧ Hid (Below w1.heap.size w1 wx ∧ Dig wx g5 d0 ∧ Dig wx g6 d0 ∧ g5 ≠ g6 ∧ w1.heap.size ≤ g5 ∧ w1.heap.size ≤ g6))
  case first =>
    have HD2 : Hid (∀ V, Below w1.heap.size w1 V → Dig V w.heap.size d0) := Lib.hid (fun V hV => HW1.out.2.kept hV HW1.out.2.lt)
    have hind := ind32 HD.out
    refine wp_region_held_drew (S := fun V => Below w1.heap.size w1 V) (by kernel_rfl) (drew_below w1) (fun hHeld => ?_)
    refine wpAnyH_put 0 12 rfl rfl (by kernel_rfl) (by kernel_rfl) (by kernel_rfl) (fun _ _ _ h => h) (yieldsIf_load_mid (by rfl) 24 (.tmp 2) rfl w.heap.size 0 (by rfl) (bytes d0) _ (fun V hV => dig_range (HD2.out V hV)) Tryd.underlying24 rfl hind) hHeld ?_
    (try simp only [Act.put, List.setIfInBounds_toArray, List.set_cons_zero, List.set_cons_succ])
    refine wpAnyH_put 1 13 rfl rfl (by kernel_rfl) (by kernel_rfl) (by kernel_rfl) (fun _ _ _ h => h) (yieldsIf_load_mid (by rfl) 24 (.tmp 2) rfl w.heap.size 0 (by rfl) (bytes d0) _ (fun V hV => dig_range (HD2.out V hV)) Tryd.underlying24 rfl hind) hHeld ?_
    (try simp only [Act.put, List.setIfInBounds_toArray, List.set_cons_zero, List.set_cons_succ])
    refine wpAnyH_ready (rs := [2, 3]) (by kernel_rfl) (by simp) ?_
    refine AllReadyH.cons rfl (fun K hK => ?_) (AllReadyH.cons rfl (fun K hK => ?_) AllReadyH.nil)
    · refine step_box (some 5) rfl rfl (by rfl) ?_
      intro g5 v1 hg hb hx
      have h5 : w1.heap.size ≤ g5 := Nat.le_trans hHeld.size hg
      have hN := hHeld.trans (hb.mono hHeld.size)
      clear hg hb hHeld
      refine hK.out _ _ hN (fun hHeld => ?_)
      clear hK K hN
      (try simp only [Act.put, List.setIfInBounds_toArray, List.set_cons_zero, List.set_cons_succ])
      refine wpAnyH_ready (rs := [3]) (by kernel_rfl) (by simp) ?_
      refine AllReadyH.cons rfl (fun K hK => ?_) AllReadyH.nil
      refine step_box (some 6) rfl rfl (by rfl) ?_
      intro g6 v2 hg hb hy
      have h6 : w1.heap.size ≤ g6 := Nat.le_trans hHeld.size hg
      have hne : g5 ≠ g6 := by have := hx.lt; omega
      have hx2 := hx.kept hb hx.lt
      have hN := hHeld.trans (hb.mono hHeld.size)
      clear hg hb hHeld hx
      refine hK.out _ _ hN (fun hHeld => ?_)
      clear hK K hN
      (try simp only [Act.put, List.setIfInBounds_toArray, List.set_cons_zero, List.set_cons_succ])
      refine wpAnyH_ready (rs := [4]) (by kernel_rfl) (by simp) ?_
      refine AllReadyH.cons rfl (fun K hK => ?_) AllReadyH.nil
      refine step_put (none) rfl rfl _ _ rfl g5 zero32 d0 (by rfl) (by exact congrArg Value.agg (bytes_toArray d0)) hx2 HD.out ?_
      have hN := below_setRow hHeld h5 (byts d0)
      clear hHeld
      refine hK.out _ _ hN (fun hHeld => ?_)
      clear hK K hN
      (try simp only [Act.put])
      refine wpAnyH_ready (rs := [5]) (by kernel_rfl) (by simp) ?_
      refine AllReadyH.cons rfl (fun K hK => ?_) AllReadyH.nil
      refine step_put (none) rfl rfl _ _ rfl g6 zero32 d0 (by rfl) (by exact congrArg Value.agg (bytes_toArray d0)) (hy.other (Ne.symm hne) _) HD.out ?_
      have hN := below_setRow hHeld h6 (byts d0)
      clear hHeld
      refine hK.out _ _ hN (fun hHeld => ?_)
      clear hK K hN
      (try simp only [Act.put])
      refine wpAnyH_done (by kernel_rfl) ?_ _
      have hz1 := (hx2.set HD.out).other hne (byts d0)
      have hz2 := (hy.other (Ne.symm hne) (byts d0)).set HD.out
      have HZ := Lib.hid (And.intro hHeld (And.intro hz1 (And.intro hz2 (And.intro hne (And.intro h5 h6)))))
      clear hz1 hz2 hne h5 h6 hHeld hx2 hy
      go_wp2_with fail
      go_meet
      case rel => exact ⟨_, _, rfl, rfl, HZ⟩
    · refine step_box (some 6) rfl rfl (by rfl) ?_
      intro g6 v1 hg hb hx
      have h6 : w1.heap.size ≤ g6 := Nat.le_trans hHeld.size hg
      have hN := hHeld.trans (hb.mono hHeld.size)
      clear hg hb hHeld
      refine hK.out _ _ hN (fun hHeld => ?_)
      clear hK K hN
      (try simp only [Act.put, List.setIfInBounds_toArray, List.set_cons_zero, List.set_cons_succ])
      refine wpAnyH_ready (rs := [2]) (by kernel_rfl) (by simp) ?_
      refine AllReadyH.cons rfl (fun K hK => ?_) AllReadyH.nil
      refine step_box (some 5) rfl rfl (by rfl) ?_
      intro g5 v2 hg hb hy
      have h5 : w1.heap.size ≤ g5 := Nat.le_trans hHeld.size hg
      have hne : g5 ≠ g6 := by have := hx.lt; omega
      have hx2 := hx.kept hb hx.lt
      have hN := hHeld.trans (hb.mono hHeld.size)
      clear hg hb hHeld hx
      refine hK.out _ _ hN (fun hHeld => ?_)
      clear hK K hN
      (try simp only [Act.put, List.setIfInBounds_toArray, List.set_cons_zero, List.set_cons_succ])
      refine wpAnyH_ready (rs := [4]) (by kernel_rfl) (by simp) ?_
      refine AllReadyH.cons rfl (fun K hK => ?_) AllReadyH.nil
      refine step_put (none) rfl rfl _ _ rfl g5 zero32 d0 (by rfl) (by exact congrArg Value.agg (bytes_toArray d0)) hy HD.out ?_
      have hN := below_setRow hHeld h5 (byts d0)
      clear hHeld
      refine hK.out _ _ hN (fun hHeld => ?_)
      clear hK K hN
      (try simp only [Act.put])
      refine wpAnyH_ready (rs := [5]) (by kernel_rfl) (by simp) ?_
      refine AllReadyH.cons rfl (fun K hK => ?_) AllReadyH.nil
      refine step_put (none) rfl rfl _ _ rfl g6 zero32 d0 (by rfl) (by exact congrArg Value.agg (bytes_toArray d0)) (hx2.other (Ne.symm hne) _) HD.out ?_
      have hN := below_setRow hHeld h6 (byts d0)
      clear hHeld
      refine hK.out _ _ hN (fun hHeld => ?_)
      clear hK K hN
      (try simp only [Act.put])
      refine wpAnyH_done (by kernel_rfl) ?_ _
      have hz1 := (hy.set HD.out).other hne (byts d0)
      have hz2 := (hx2.other (Ne.symm hne) (byts d0)).set HD.out
      have HZ := Lib.hid (And.intro hHeld (And.intro hz1 (And.intro hz2 (And.intro hne (And.intro h5 h6)))))
      clear hz1 hz2 hne h5 h6 hHeld hx2 hy
      go_wp2_with fail
      go_meet
      case rel => exact ⟨_, _, rfl, rfl, HZ⟩
  case rest =>
    obtain ⟨g5, g6, rfl, rfl, HC⟩ := hcut
    have HO : Hid (Calls Tryd.prog 7 #[.slice a n cap] wc fun e w' => ∃ A m c ds, e = .returned (.slice A m c) ∧ m ≤ 24 ∧ Hid (ds.length = m ∧ (∀ d ∈ ds, d.length = 32) ∧ Ci w1 wc.heap.size g5 g6 A m c ds d0 w')) := Lib.hid (by
      refine (digestsOf_own a n cap bs wc HN.out HCAP.out (HB.out.kept (HW1.out.1.trans (HC.out.1.mono HW1.out.1.size)))).mono ?_
      rintro e w' ⟨A, m, c, ds, rfl, _, h24, hm, hds, hb, ho⟩
      obtain ⟨h1, h2, h3, h4, h5, h6⟩ := HC.out
      exact ⟨A, m, c, ds, rfl, h24, Lib.hid ⟨hm, hds.1, ⟨HD.out, h2.kept hb h2.lt, h3.kept hb h3.lt, ho, h1.trans (hb.mono h1.size), h2.lt, h3.lt, h5, h6, h4⟩⟩⟩)
    go_wp2_with fail
    refine HO.out.mono ?_
    rintro e w2 ⟨A, m, c, ds, rfl, h24, HDS⟩
    clear HO HC
    generalize wc.heap.size = base at HDS
    go_wp2_with fail
    have HM := Lib.hid (And.intro HDS.out.1 HDS.out.2.1)
    have HC0 := Lib.hid HDS.out.2.2
    clear HDS
    go_loopw [17] (fun ii wr => ∃ j : Nat, ∃ d, j ≤ m ∧ ii = .int .i64 j ∧ Hid (Ci w1 base g5 g6 A m c ds d wr)) (fun ii _ => m - (intOf ii).toNat)
    case atStart => exact ⟨0, d0, Nat.zero_le _, rfl, HC0⟩
    case round =>
      obtain ⟨j, d, hj, rfl, HC⟩ := hrel
      clear HC0
      by_cases hlt : j < m
      · have hjl : j < ds.length := by rw [HM.out.1]; exact hlt
        obtain ⟨z, hz⟩ : ∃ z, z = ds[j] := ⟨_, rfl⟩
        have hzl : z.length = 32 := by rw [hz]; exact HM.out.2 _ (List.getElem_mem hjl)
        obtain ⟨b, off, hA, _, hcl⟩ := HC.out.digs HM.out.2 |>.elem hjl
        rw [← hz] at hcl
        subst hA
        rw [Nat.mul_comm 32 j] at hcl
        have HCL := Lib.hid hcl; have HZL := Lib.hid hzl
        clear hcl hz hzl hjl
        go_upto_region 6 with (fail)
        refine wp_region_list ?_
        go_step
        go_step
        refine wpl_elem rfl _ rfl b (off + j * 32) z rfl HZL.out HCL.out ?_
        refine wpl_cell rfl rfl ?_
        refine wpl_put rfl _ _ rfl wr.heap.size zero32 z rfl rfl (Dig.new wr zero32_len) HZL.out ?_
        refine wpList_nil ?_
        have HQ : Hid (Ci w1 base g5 g6 (some ⟨b, off, none⟩) m c ds d ((wr.alloc (.cells (byts zero32) 24)).setRow wr.heap.size (byts z)) ∧ Dig ((wr.alloc (.cells (byts zero32) 24)).setRow wr.heap.size (byts z)) wr.heap.size z) :=
          Lib.hid ⟨HC.out.kept (below_setRow ((Below.refl _ _).alloc (Nat.le_refl _) _) (Nat.le_refl _) _), (Dig.new wr zero32_len).set HZL.out⟩
        have HG8 := Lib.hid (And.intro HC.out.x.lt HC.out.y.lt)
        clear HC HCL
        go_simp
        generalize (wr.alloc (.cells (byts zero32) 24)).setRow wr.heap.size (byts z) = W1 at HQ ⊢
        generalize wr.heap.size = g8 at HQ HG8 ⊢
        go_upto_region 7 with (fail)
        refine wp_region_list ?_
        refine wpl_get rfl _ rfl g5 d rfl HQ.out.1.x ?_
        refine wpl_cell rfl rfl ?_
        refine wpl_put rfl _ _ rfl W1.heap.size zero32 d rfl rfl (Dig.new W1 zero32_len) HQ.out.1.len ?_
        refine wpList_nil ?_
        have HR : Hid (Ci w1 base g5 g6 (some ⟨b, off, none⟩) m c ds d ((W1.alloc (.cells (byts zero32) 24)).setRow W1.heap.size (byts d)) ∧ Dig ((W1.alloc (.cells (byts zero32) 24)).setRow W1.heap.size (byts d)) g8 z ∧ Dig ((W1.alloc (.cells (byts zero32) 24)).setRow W1.heap.size (byts d)) W1.heap.size d ∧ g8 ≠ g5 ∧ g8 ≠ g6 ∧ W1.heap.size ≠ g5 ∧ W1.heap.size ≠ g6) := Lib.hid (by
          have hb : Below W1.heap.size W1 ((W1.alloc (.cells (byts zero32) 24)).setRow W1.heap.size (byts d)) := below_setRow ((Below.refl _ _).alloc (Nat.le_refl _) _) (Nat.le_refl _) _
          have l5 := HQ.out.1.x.lt; have l6 := HQ.out.1.y.lt
          have e8 := HG8.out
          exact ⟨HQ.out.1.kept hb, HQ.out.2.kept hb HQ.out.2.lt, (Dig.new W1 zero32_len).set HQ.out.1.len, by omega, by omega, by omega, by omega⟩)
        go_simp
        generalize (W1.alloc (.cells (byts zero32) 24)).setRow W1.heap.size (byts d) = W2 at HR ⊢
        generalize W1.heap.size = g9 at HR ⊢
        clear HQ HG8
        obtain ⟨r, hr⟩ : ∃ r, H.chain d z = r := ⟨_, rfl⟩
        have hrl : r.length = 32 := by rw [← hr]; exact H.tagged_len _ _
        have hdl := HR.out.1.len
        have hzl := HZL.out
        have HRR := Lib.hid hr
        clear hr
        have HCH : Hid (∀ V, Below W2.heap.size W2 V → Calls Tryd.prog 16 #[.agg (bytes d).toArray, .agg (bytes z).toArray] V fun e w' => e = .returned (.agg (byts r)) ∧ Hid (Below W2.heap.size W2 w')) := Lib.hid (fun V hV => by
          rw [bytes_toArray, bytes_toArray]
          have hw := HW1.out.1.trans ((HR.out.1.below.trans (hV.mono HR.out.1.below.size)).mono HW1.out.1.size)
          refine (chain_any d z V (HK.out.kept hw HK.out.pos) hdl hzl).mono ?_
          rintro e w' ⟨rfl, hb⟩
          exact ⟨by rw [HRR.out], Lib.hid (hV.trans (hb.mono hV.size))⟩)
        have HRC : Hid (∀ V, Below W2.heap.size W2 V → Calls Tryd.prog 17 #[.agg (bytes d).toArray, .agg (bytes z).toArray] V fun e w' => e = .returned (.agg (byts r)) ∧ Hid (Below W2.heap.size W2 w')) := Lib.hid (fun V hV => by
          rw [bytes_toArray, bytes_toArray]
          refine (rchain_any d z V hdl hzl).mono ?_
          rintro e w' ⟨rfl, hb⟩
          exact ⟨by rw [HRR.out], Lib.hid (hV.trans (hb.mono hV.size))⟩)
        have HX5 : Hid (∀ V, Below W2.heap.size W2 V → Dig V g5 d) := Lib.hid (fun V hV => HR.out.1.x.kept hV HR.out.1.x.lt)
        have HX6 : Hid (∀ V, Below W2.heap.size W2 V → Dig V g6 d) := Lib.hid (fun V hV => HR.out.1.y.kept hV HR.out.1.y.lt)
        have HX8 : Hid (∀ V, Below W2.heap.size W2 V → Dig V g8 z) := Lib.hid (fun V hV => HR.out.2.1.kept hV HR.out.2.1.lt)
        have HX9 : Hid (∀ V, Below W2.heap.size W2 V → Dig V g9 d) := Lib.hid (fun V hV => HR.out.2.2.1.kept hV HR.out.2.2.1.lt)
        have HNE := Lib.hid HR.out.2.2.2
        go_upto_region 8 with (fail)
        go_cut [17] (fun a17 wx => a17 = .int .i64 j ∧ Hid (Ci w1 base g5 g6 (some ⟨b, off, none⟩) m c ds r wx ∧ Dig wx g8 z ∧ Dig wx g9 d))
        case first =>
          have HBV : Hid (Below W2.heap.size W2 W2.drew) := Lib.hid (drew_below W2)
          refine wp_region_held_drew (S := fun V => Dig V g8 z) (by kernel_rfl) (HX8.out _ HBV.out) (fun hHeld => ?_)
          refine wpAnyH_put 1 23 rfl rfl (by kernel_rfl) (by kernel_rfl) (by kernel_rfl) (fun _ _ _ h => h) (yieldsIf_load_mid (by rfl) 24 (.tmp 8) rfl g8 0 (by rfl) (bytes z) _ (fun V hV => dig_range hV) Tryd.underlying24 rfl (ind32 hzl)) hHeld ?_
          (try simp only [Act.put, List.setIfInBounds_toArray, List.set_cons_zero, List.set_cons_succ])
          refine wpAnyH_put 4 26 rfl rfl (by kernel_rfl) (by kernel_rfl) (by kernel_rfl) (fun _ _ _ h => h) (yieldsIf_load_mid (by rfl) 24 (.tmp 8) rfl g8 0 (by rfl) (bytes z) _ (fun V hV => dig_range hV) Tryd.underlying24 rfl (ind32 hzl)) hHeld ?_
          (try simp only [Act.put, List.setIfInBounds_toArray, List.set_cons_zero, List.set_cons_succ])
          -- region 8
          refine wpAnyH_ready (rs := [0, 3]) (by kernel_rfl) (by simp) ?_
          refine AllReadyH.cons rfl (fun K hK => ?_) (AllReadyH.cons rfl (fun K hK => ?_) AllReadyH.nil)
          · -- operation 0
            refine step_loadc (some 22) rfl rfl (.tmp 5) rfl g5 0 (bytes d) (by rfl) (dig_range (HX5.out _ HBV.out)) (ind32 hdl) ?_
            have hN := hHeld
            clear hHeld
            refine hK.out _ _ hN (fun hHeld => ?_)
            clear hK K hN
            (try simp only [Act.put, List.setIfInBounds_toArray, List.set_cons_zero, List.set_cons_succ])
            refine wpAnyH_ready (rs := [2, 3]) (by kernel_rfl) (by simp) ?_
            refine AllReadyH.cons rfl (fun K hK => ?_) (AllReadyH.cons rfl (fun K hK => ?_) AllReadyH.nil)
            · -- operation 2
              go_simp
              refine (HCH.out _ HBV.out).mono ?_
              rintro e V2 ⟨rfl, HN2⟩
              have HBV := HN2
              have hN := HX8.out _ HBV.out
              clear HN2
              clear hHeld
              refine hK.out _ _ hN (fun hHeld => ?_)
              clear hK K hN
              (try simp only [Act.put, List.setIfInBounds_toArray, List.set_cons_zero, List.set_cons_succ])
              refine wpAnyH_ready (rs := [3]) (by kernel_rfl) (by simp) ?_
              refine AllReadyH.cons rfl (fun K hK => ?_) AllReadyH.nil
              refine step_loadc (some 25) rfl rfl (.tmp 6) rfl g6 0 (bytes d) (by rfl) (dig_range (HX6.out _ HBV.out)) (ind32 hdl) ?_
              have hN := hHeld
              clear hHeld
              refine hK.out _ _ hN (fun hHeld => ?_)
              clear hK K hN
              (try simp only [Act.put, List.setIfInBounds_toArray, List.set_cons_zero, List.set_cons_succ])
              refine wpAnyH_ready (rs := [5]) (by kernel_rfl) (by simp) ?_
              refine AllReadyH.cons rfl (fun K hK => ?_) AllReadyH.nil
              go_simp
              refine (HRC.out _ HBV.out).mono ?_
              rintro e V5 ⟨rfl, HN5⟩
              have HBV := HN5
              have hN := HX8.out _ HBV.out
              clear HN5
              clear hHeld
              refine hK.out _ _ hN (fun hHeld => ?_)
              clear hK K hN
              (try simp only [Act.put, List.setIfInBounds_toArray, List.set_cons_zero, List.set_cons_succ])
              refine wpAnyH_ready (rs := [6]) (by kernel_rfl) (by simp) ?_
              refine AllReadyH.cons rfl (fun K hK => ?_) AllReadyH.nil
              refine step_put (none) rfl rfl _ _ rfl g5 d r (by rfl) (by rfl) (HX5.out _ HBV.out) hrl ?_
              have hN := (HX8.out _ HBV.out).other HNE.out.1 (byts r)
              clear hHeld
              refine hK.out _ _ hN (fun hHeld => ?_)
              clear hK K hN
              (try simp only [Act.put])
              refine wpAnyH_ready (rs := [7]) (by kernel_rfl) (by simp) ?_
              refine AllReadyH.cons rfl (fun K hK => ?_) AllReadyH.nil
              refine step_put (none) rfl rfl _ _ rfl g6 d r (by rfl) (by rfl) ((HX6.out _ HBV.out).other (Ne.symm HR.out.1.ne) _) hrl ?_
              have hN := ((HX8.out _ HBV.out).other HNE.out.1 (byts r)).other HNE.out.2.1 (byts r)
              clear hHeld
              refine hK.out _ _ hN (fun hHeld => ?_)
              clear hK K hN
              (try simp only [Act.put])
              refine wpAnyH_done (by kernel_rfl) ?_ _
              have HNX := Lib.hid (And.intro ((HR.out.1.kept HBV.out).next hrl) (And.intro ((((HX8.out _ HBV.out).other HNE.out.1 (byts r))).other HNE.out.2.1 (byts r)) ((((HX9.out _ HBV.out).other HNE.out.2.2.1 (byts r))).other HNE.out.2.2.2 (byts r))))
              clear hHeld HBV
              go_wp2_with fail
              go_meet
              case rel => exact ⟨rfl, HNX⟩
            · -- operation 3
              refine step_loadc (some 25) rfl rfl (.tmp 6) rfl g6 0 (bytes d) (by rfl) (dig_range (HX6.out _ HBV.out)) (ind32 hdl) ?_
              have hN := hHeld
              clear hHeld
              refine hK.out _ _ hN (fun hHeld => ?_)
              clear hK K hN
              (try simp only [Act.put, List.setIfInBounds_toArray, List.set_cons_zero, List.set_cons_succ])
              refine wpAnyH_ready (rs := [2]) (by kernel_rfl) (by simp) ?_
              refine AllReadyH.cons rfl (fun K hK => ?_) AllReadyH.nil
              go_simp
              refine (HCH.out _ HBV.out).mono ?_
              rintro e V2 ⟨rfl, HN2⟩
              have HBV := HN2
              have hN := HX8.out _ HBV.out
              clear HN2
              clear hHeld
              refine hK.out _ _ hN (fun hHeld => ?_)
              clear hK K hN
              (try simp only [Act.put, List.setIfInBounds_toArray, List.set_cons_zero, List.set_cons_succ])
              refine wpAnyH_ready (rs := [5]) (by kernel_rfl) (by simp) ?_
              refine AllReadyH.cons rfl (fun K hK => ?_) AllReadyH.nil
              go_simp
              refine (HRC.out _ HBV.out).mono ?_
              rintro e V5 ⟨rfl, HN5⟩
              have HBV := HN5
              have hN := HX8.out _ HBV.out
              clear HN5
              clear hHeld
              refine hK.out _ _ hN (fun hHeld => ?_)
              clear hK K hN
              (try simp only [Act.put, List.setIfInBounds_toArray, List.set_cons_zero, List.set_cons_succ])
              refine wpAnyH_ready (rs := [6]) (by kernel_rfl) (by simp) ?_
              refine AllReadyH.cons rfl (fun K hK => ?_) AllReadyH.nil
              refine step_put (none) rfl rfl _ _ rfl g5 d r (by rfl) (by rfl) (HX5.out _ HBV.out) hrl ?_
              have hN := (HX8.out _ HBV.out).other HNE.out.1 (byts r)
              clear hHeld
              refine hK.out _ _ hN (fun hHeld => ?_)
              clear hK K hN
              (try simp only [Act.put])
              refine wpAnyH_ready (rs := [7]) (by kernel_rfl) (by simp) ?_
              refine AllReadyH.cons rfl (fun K hK => ?_) AllReadyH.nil
              refine step_put (none) rfl rfl _ _ rfl g6 d r (by rfl) (by rfl) ((HX6.out _ HBV.out).other (Ne.symm HR.out.1.ne) _) hrl ?_
              have hN := ((HX8.out _ HBV.out).other HNE.out.1 (byts r)).other HNE.out.2.1 (byts r)
              clear hHeld
              refine hK.out _ _ hN (fun hHeld => ?_)
              clear hK K hN
              (try simp only [Act.put])
              refine wpAnyH_done (by kernel_rfl) ?_ _
              have HNX := Lib.hid (And.intro ((HR.out.1.kept HBV.out).next hrl) (And.intro ((((HX8.out _ HBV.out).other HNE.out.1 (byts r))).other HNE.out.2.1 (byts r)) ((((HX9.out _ HBV.out).other HNE.out.2.2.1 (byts r))).other HNE.out.2.2.2 (byts r))))
              clear hHeld HBV
              go_wp2_with fail
              go_meet
              case rel => exact ⟨rfl, HNX⟩
          · -- operation 3
            refine step_loadc (some 25) rfl rfl (.tmp 6) rfl g6 0 (bytes d) (by rfl) (dig_range (HX6.out _ HBV.out)) (ind32 hdl) ?_
            have hN := hHeld
            clear hHeld
            refine hK.out _ _ hN (fun hHeld => ?_)
            clear hK K hN
            (try simp only [Act.put, List.setIfInBounds_toArray, List.set_cons_zero, List.set_cons_succ])
            refine wpAnyH_ready (rs := [0]) (by kernel_rfl) (by simp) ?_
            refine AllReadyH.cons rfl (fun K hK => ?_) AllReadyH.nil
            refine step_loadc (some 22) rfl rfl (.tmp 5) rfl g5 0 (bytes d) (by rfl) (dig_range (HX5.out _ HBV.out)) (ind32 hdl) ?_
            have hN := hHeld
            clear hHeld
            refine hK.out _ _ hN (fun hHeld => ?_)
            clear hK K hN
            (try simp only [Act.put, List.setIfInBounds_toArray, List.set_cons_zero, List.set_cons_succ])
            refine wpAnyH_ready (rs := [2]) (by kernel_rfl) (by simp) ?_
            refine AllReadyH.cons rfl (fun K hK => ?_) AllReadyH.nil
            go_simp
            refine (HCH.out _ HBV.out).mono ?_
            rintro e V2 ⟨rfl, HN2⟩
            have HBV := HN2
            have hN := HX8.out _ HBV.out
            clear HN2
            clear hHeld
            refine hK.out _ _ hN (fun hHeld => ?_)
            clear hK K hN
            (try simp only [Act.put, List.setIfInBounds_toArray, List.set_cons_zero, List.set_cons_succ])
            refine wpAnyH_ready (rs := [5]) (by kernel_rfl) (by simp) ?_
            refine AllReadyH.cons rfl (fun K hK => ?_) AllReadyH.nil
            go_simp
            refine (HRC.out _ HBV.out).mono ?_
            rintro e V5 ⟨rfl, HN5⟩
            have HBV := HN5
            have hN := HX8.out _ HBV.out
            clear HN5
            clear hHeld
            refine hK.out _ _ hN (fun hHeld => ?_)
            clear hK K hN
            (try simp only [Act.put, List.setIfInBounds_toArray, List.set_cons_zero, List.set_cons_succ])
            refine wpAnyH_ready (rs := [6]) (by kernel_rfl) (by simp) ?_
            refine AllReadyH.cons rfl (fun K hK => ?_) AllReadyH.nil
            refine step_put (none) rfl rfl _ _ rfl g5 d r (by rfl) (by rfl) (HX5.out _ HBV.out) hrl ?_
            have hN := (HX8.out _ HBV.out).other HNE.out.1 (byts r)
            clear hHeld
            refine hK.out _ _ hN (fun hHeld => ?_)
            clear hK K hN
            (try simp only [Act.put])
            refine wpAnyH_ready (rs := [7]) (by kernel_rfl) (by simp) ?_
            refine AllReadyH.cons rfl (fun K hK => ?_) AllReadyH.nil
            refine step_put (none) rfl rfl _ _ rfl g6 d r (by rfl) (by rfl) ((HX6.out _ HBV.out).other (Ne.symm HR.out.1.ne) _) hrl ?_
            have hN := ((HX8.out _ HBV.out).other HNE.out.1 (byts r)).other HNE.out.2.1 (byts r)
            clear hHeld
            refine hK.out _ _ hN (fun hHeld => ?_)
            clear hK K hN
            (try simp only [Act.put])
            refine wpAnyH_done (by kernel_rfl) ?_ _
            have HNX := Lib.hid (And.intro ((HR.out.1.kept HBV.out).next hrl) (And.intro ((((HX8.out _ HBV.out).other HNE.out.1 (byts r))).other HNE.out.2.1 (byts r)) ((((HX9.out _ HBV.out).other HNE.out.2.2.1 (byts r))).other HNE.out.2.2.2 (byts r))))
            clear hHeld HBV
            go_wp2_with fail
            go_meet
            case rel => exact ⟨rfl, HNX⟩
        case rest =>
          obtain ⟨rfl, HZ⟩ := hcut
          clear HX5 HX6 HX8 HX9 HCH HRC HR HNE
          have HY5 : Hid (∀ V, Below wc.heap.size wc V → Dig V g5 r) := Lib.hid (fun V hV => HZ.out.1.x.kept hV HZ.out.1.x.lt)
          have HY6 : Hid (∀ V, Below wc.heap.size wc V → Dig V g6 r) := Lib.hid (fun V hV => HZ.out.1.y.kept hV HZ.out.1.y.lt)
          have HY8 : Hid (∀ V, Below wc.heap.size wc V → Dig V g8 z) := Lib.hid (fun V hV => HZ.out.2.1.kept hV HZ.out.2.1.lt)
          have HY9 : Hid (∀ V, Below wc.heap.size wc V → Dig V g9 d) := Lib.hid (fun V hV => HZ.out.2.2.kept hV HZ.out.2.2.lt)
          have HT : Hid (∀ V A c, Below wc.heap.size wc V → V.ownsRow wc.heap.size 5 1 (.slice A (0 + 32 + 32) c) (0 + 32 + 32) (bytes (([] ++ d) ++ z)) → Calls Tryd.prog 15 #[.string ⟨#[99, 104, 97, 105, 110]⟩, .slice A (0 + 32 + 32) c] V fun e w' => e = .returned (.agg (bytes r).toArray) ∧ Hid (Below wc.heap.size wc w')) := Lib.hid (fun V A c hV ho => by
            obtain ⟨hc, hby⟩ := owns_slice ho
            have hw := HW1.out.1.trans ((HZ.out.1.below.trans (hV.mono HZ.out.1.below.size)).mono HW1.out.1.size)
            refine (tagged_any ⟨#[99, 104, 97, 105, 110]⟩ A (0 + 32 + 32) c (([] ++ d) ++ z) V (HK.out.kept hw HK.out.pos) (by decide) (by simp [hdl, hzl]) (by decide) hby).mono ?_
            rintro e w' ⟨rfl, hb⟩
            exact ⟨by rw [bytes_toArray, ← HRR.out]; rfl, Lib.hid (hV.trans (hb.mono hV.size))⟩)
          have hq : ∀ W, (Op.equalIn 10000 24 (.agg (bytes r).toArray) (.agg (bytes r).toArray)).run Tryd.prog W = .ok true W := by rw [bytes_toArray]; exact run_eq_same r hrl
          have heg : Tryd.prog.eqGuardType Tryd.prog.depth 24 = false := by kernel_rfl
          have ha8 := array_all g8
          have ha9 := array_all g9
          go_upto_region 9 with (fail)
          refine wp_region_held_drew (S := fun V => Below wc.heap.size wc V) (by kernel_rfl) (drew_below wc) (fun hHeld => ?_)
          refine wpAnyH_put 0 28 rfl rfl (by kernel_rfl) (by kernel_rfl) (by kernel_rfl) (fun _ _ _ h => h) (yieldsIf_load_mid (by rfl) 24 (.tmp 5) rfl g5 0 (by rfl) (bytes r) _ (fun V hV => dig_range (HY5.out V hV)) Tryd.underlying24 rfl (ind32 hrl)) hHeld ?_
          (try simp only [Act.put, List.setIfInBounds_toArray, List.set_cons_zero, List.set_cons_succ])
          refine wpAnyH_put 1 29 rfl rfl (by kernel_rfl) (by kernel_rfl) (by kernel_rfl) (fun _ _ _ h => h) (yieldsIf_load_mid (by rfl) 24 (.tmp 6) rfl g6 0 (by rfl) (bytes r) _ (fun V hV => dig_range (HY6.out V hV)) Tryd.underlying24 rfl (ind32 hrl)) hHeld ?_
          (try simp only [Act.put, List.setIfInBounds_toArray, List.set_cons_zero, List.set_cons_succ])
          refine wpAnyH_put 2 30 (v := ?_) rfl rfl (by kernel_rfl) (by kernel_rfl) (by kernel_rfl) (fun _ _ _ h => h) (Or.inl ⟨by rfl, ?_⟩) hHeld ?_
          rotate_left
          · intro W' _
            first
              | (go_simp; with_reducible rfl)
              | (simp [Act.eval, h, go_sem]; with_reducible rfl)
          (try simp only [Act.put, List.setIfInBounds_toArray, List.set_cons_zero, List.set_cons_succ])
          refine wpAnyH_put 3 31 (v := ?_) rfl rfl (by kernel_rfl) (by kernel_rfl) (by kernel_rfl) (fun _ _ _ h => h) (Or.inl ⟨by rfl, ?_⟩) hHeld ?_
          rotate_left
          · intro W' _
            first
              | (go_simp; with_reducible rfl)
              | (simp [Act.eval, h, go_sem]; with_reducible rfl)
          (try simp only [Act.put, List.setIfInBounds_toArray, List.set_cons_zero, List.set_cons_succ])
          refine wpAnyH_put 4 32 rfl rfl (by kernel_rfl) (by kernel_rfl) (by kernel_rfl) (fun _ _ _ h => h) (yieldsIf_load_mid (by rfl) 24 (.tmp 5) rfl g5 0 (by rfl) (bytes r) _ (fun V hV => dig_range (HY5.out V hV)) Tryd.underlying24 rfl (ind32 hrl)) hHeld ?_
          (try simp only [Act.put, List.setIfInBounds_toArray, List.set_cons_zero, List.set_cons_succ])
          refine wpAnyH_put 6 34 (v := ?_) rfl rfl (by kernel_rfl) (by kernel_rfl) (by kernel_rfl) (fun _ _ _ h => h) (Or.inl ⟨by rfl, ?_⟩) hHeld ?_
          rotate_left
          · intro W' _
            have h := ha9 W'
            first
              | (go_simp; with_reducible rfl)
              | (simp [Act.eval, h, go_sem]; with_reducible rfl)
          (try simp only [Act.put, List.setIfInBounds_toArray, List.set_cons_zero, List.set_cons_succ])
          refine wpAnyH_put 8 36 (v := ?_) rfl rfl (by kernel_rfl) (by kernel_rfl) (by kernel_rfl) (fun _ _ _ h => h) (Or.inl ⟨by rfl, ?_⟩) hHeld ?_
          rotate_left
          · intro W' _
            have h := ha8 W'
            first
              | (go_simp; with_reducible rfl)
              | (simp [Act.eval, h, go_sem]; with_reducible rfl)
          (try simp only [Act.put, List.setIfInBounds_toArray, List.set_cons_zero, List.set_cons_succ])
          refine wpAnyH_ready (rs := [5]) (by kernel_rfl) (by simp) ?_
          refine AllReadyH.cons rfl (fun K hK => ?_) AllReadyH.nil
          refine if_w (by rfl) ?_
          go_simp
          have HE : Hid ((wc.alloc (.cells #[] 5 (0, 0))).drew.ownsRow wc.heap.size 5 1 (.slice (some ⟨wc.heap.size, 0, none⟩) 0 0) 0 (bytes [])) := Lib.hid (owns_none wc.heap.size wc (Nat.le_refl _))
          have hN : Below wc.heap.size wc (wc.alloc (.cells #[] 5 (0, 0))).drew := ((Below.refl _ _).alloc (Nat.le_refl _) _).drew
          clear hHeld
          refine hK.out _ _ hN (fun hHeld => ?_)
          clear hK K hN
          generalize (wc.alloc (.cells #[] 5 (0, 0))).drew = V2 at HE hHeld ⊢
          (try simp only [Act.put, List.setIfInBounds_toArray, List.set_cons_zero, List.set_cons_succ])
          refine wpAnyH_ready (rs := [7]) (by kernel_rfl) (by simp) ?_
          refine AllReadyH.cons rfl (fun K hK => ?_) AllReadyH.nil
          refine step_catw (some 35) rfl (by rfl) _ _ (by rfl) wc.heap.size _ 0 [] (by rfl) HE.out (some ⟨g9, 0, none⟩) 32 32 d (by rfl) hdl (HY9.out _ hHeld).bytes (by decide) hHeld.size ?_
          intro A3 c3 w3 ho3 hk3
          have hN := hHeld.trans (hk3.below hHeld.size)
          have HF := Lib.hid ho3
          clear ho3 hk3 HE hHeld
          refine hK.out _ _ hN (fun hHeld => ?_)
          clear hK K hN
          (try simp only [Act.put, List.setIfInBounds_toArray, List.set_cons_zero, List.set_cons_succ])
          refine wpAnyH_ready (rs := [9]) (by kernel_rfl) (by simp) ?_
          refine AllReadyH.cons rfl (fun K hK => ?_) AllReadyH.nil
          refine step_catw (some 37) rfl (by rfl) _ _ (by rfl) wc.heap.size _ (0 + 32) ([] ++ d) (by rfl) HF.out (some ⟨g8, 0, none⟩) 32 32 z (by rfl) hzl (HY8.out _ hHeld).bytes (by decide) hHeld.size ?_
          intro A4 c4 w4 ho4 hk4
          have hN := hHeld.trans (hk4.below hHeld.size)
          have HG := Lib.hid ho4
          clear ho4 hk4 HF hHeld
          refine hK.out _ _ hN (fun hHeld => ?_)
          clear hK K hN
          (try simp only [Act.put, List.setIfInBounds_toArray, List.set_cons_zero, List.set_cons_succ])
          refine wpAnyH_ready (rs := [10]) (by kernel_rfl) (by simp) ?_
          refine AllReadyH.cons rfl (fun K hK => ?_) AllReadyH.nil
          refine if_w (by rfl) ?_
          go_simp
          refine (HT.out _ _ _ hHeld HG.out).mono ?_
          rintro e w5 ⟨rfl, HX⟩
          have hN := HX.out
          clear HX HG hHeld
          refine hK.out _ _ hN (fun hHeld => ?_)
          clear hK K hN
          (try simp only [Act.put, List.setIfInBounds_toArray, List.set_cons_zero, List.set_cons_succ])
          refine wpAnyH_put 11 39 (v := ?_) rfl rfl (by kernel_rfl) (by kernel_rfl) (by kernel_rfl) (fun _ _ _ h => h) (Or.inl ⟨by rfl, ?_⟩) hHeld ?_
          rotate_left
          · intro W' _
            first
              | (go_simp; with_reducible rfl)
              | (simp [Act.eval, h, go_sem]; with_reducible rfl)
          (try simp only [Act.put, List.setIfInBounds_toArray, List.set_cons_zero, List.set_cons_succ])
          refine wpAnyH_put 12 40 (v := ?_) rfl rfl (by kernel_rfl) (by kernel_rfl) (by kernel_rfl) (fun _ _ _ h => h) (Or.inl ⟨by rfl, ?_⟩) hHeld ?_
          rotate_left
          · intro W' _
            first
              | (go_simp; with_reducible rfl)
              | (simp [Act.eval, h, go_sem]; with_reducible rfl)
          (try simp only [Act.put, List.setIfInBounds_toArray, List.set_cons_zero, List.set_cons_succ])
          refine wpAnyH_done (by kernel_rfl) ?_ _
          have HEND := Lib.hid (HZ.out.1.kept hHeld)
          clear hHeld hq heg ha8 ha9 HY5 HY6 HY8 HY9 HT HZ
          go_wp2_with fail
          go_roundw
          case rel => exact ⟨j + 1, r, by omega, by go_num, HEND⟩
          case measure => simp [intOf]; omega
      · have HEND := Lib.hid (HW1.out.1.trans (HC.out.below.mono HW1.out.1.size))
        go_wp2_with fail
        go_ret
        exact ⟨rfl, HEND.out⟩

end Go.Proofs.YthamligdmfhmeaaDoor
