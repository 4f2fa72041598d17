/- Contract of climb. -/
import Derived.Test.YthamligdmfhmeaaDoorEq
namespace Go.Proofs.YthamligdmfhmeaaDoor
open Go.RowKit

namespace H
/-- climb, along a path that is turned round. -/
def climbR (d : List UInt8) : (at_ n : Nat) → List (List UInt8) → List UInt8 × Bool
  | at_, n, p => if n = 1 then (leaf d, p.isEmpty) else match p with
    | [] => (zero32, false)
    | x :: r => if at_ < split n then (node (climbR d at_ (split n) r).1 x, (climbR d at_ (split n) r).2) else (node x (climbR d (at_ - split n) (n - split n) r).1, (climbR d (at_ - split n) (n - split n) r).2)
theorem climbR_one (d : List UInt8) (at_ : Nat) (p : List (List UInt8)) : climbR d at_ 1 p = (leaf d, p.isEmpty) := by
  cases p <;> simp [climbR]
theorem climbR_nil (d : List UInt8) (at_ n : Nat) (h : n ≠ 1) : climbR d at_ n [] = (zero32, false) := by simp [climbR, h]
theorem climbR_left (d : List UInt8) (at_ n : Nat) (h : n ≠ 1) (x : List UInt8) (r : List (List UInt8)) (hl : at_ < split n) : climbR d at_ n (x :: r) = (node (climbR d at_ (split n) r).1 x, (climbR d at_ (split n) r).2) := by simp [climbR, h, hl]
theorem climbR_right (d : List UInt8) (at_ n : Nat) (h : n ≠ 1) (x : List UInt8) (r : List (List UInt8)) (hl : ¬ at_ < split n) : climbR d at_ n (x :: r) = (node x (climbR d (at_ - split n) (n - split n) r).1, (climbR d (at_ - split n) (n - split n) r).2) := by simp [climbR, h, hl]
theorem leaf_len (d : List UInt8) : (leaf d).length = 32 := by rw [leaf]; exact tagged_len _ _
theorem node_len (a b : List UInt8) : (node a b).length = 32 := by rw [node]; exact tagged_len _ _
theorem climbR_len (d : List UInt8) (at_ n : Nat) (p : List (List UInt8)) : (climbR d at_ n p).1.length = 32 := by
  by_cases h : n = 1
  · subst h; rw [climbR_one]; dsimp only; exact leaf_len d
  · cases p with
    | nil => rw [climbR_nil _ _ _ h]; dsimp only; exact zero32_len
    | cons x r =>
      by_cases hl : at_ < split n
      · rw [climbR_left _ _ _ h _ _ hl]; dsimp only; exact node_len _ _
      · rw [climbR_right _ _ _ h _ _ hl]; dsimp only; exact node_len _ _
end H

/-- What climb hands back. -/
def ClimbRes (d : List UInt8) (at_ n : Nat) (ds : List (List UInt8)) (w : World) (e : Ending) (w' : World) : Prop :=
  e = .returned (.tuple #[.agg (byts (H.climbR d at_ n ds.reverse).1), .bool (H.climbR d at_ n ds.reverse).2]) ∧ Below w.heap.size w w'

theorem byts_zero : Tryd.prog.built 24 [] = some (byts zero32) := by kernel_rfl

/-- Results of type Digest, in its cell, and another one. -/
theorem ret_dig2 {fn : Func} {p q : Tmp} (h : fn.results = #[.cell p 24, .tmp q]) (tmps : Array Value) (w : World) (B : Nat) (d : List UInt8) (v : Value) (hp : tmps.getD p undef = .pointer (some ⟨B, 0, none⟩)) (hq : tmps.getD q undef = v) (hd : Dig w B d) :
    (results fn tmps).run Tryd.prog w = .ok (.tuple #[.agg (byts d), v]) w := by
  have hp' : tmps[p]?.getD undef = .pointer (some ⟨B, 0, none⟩) := by simpa using hp
  have hq' : tmps[q]?.getD undef = v := by simpa using hq
  simp [results, h, hp', hq', asAddr, run_loadVar_row w B _ _ _ _ _ hd.1 Tryd.underlying24 rfl (byts_size32 hd.2)]

/-- A parameter's box and a result. -/
theorem boxes1 (w : World) {a : List UInt8} (ha : a.length = 32) :
    Below w.heap.size w ((w.alloc (.cells (byts a) 24)).alloc (.cells (byts zero32) 24)) ∧ Dig ((w.alloc (.cells (byts a) 24)).alloc (.cells (byts zero32) 24)) w.heap.size a ∧
      Dig ((w.alloc (.cells (byts a) 24)).alloc (.cells (byts zero32) 24)) (w.heap.size + 1) zero32 := by
  have n1 := Dig.new (w.alloc (.cells (byts a) 24)) zero32_len
  rw [World.size_alloc] at n1
  exact ⟨((Below.refl _ _).alloc (Nat.le_refl _) _).alloc (by simp) _, (Dig.new w ha).alloc _, n1⟩

set_option maxRecDepth 100000 in
set_option maxHeartbeats 4000000 in
theorem climb_one (d : List UInt8) (at_ : Nat) (a : Option Addr) (p cap : Nat) (ds : List (List UInt8)) (w : World) (hK : KT w) (hd : d.length = 32) (hp : ds.length = p) :
    Calls Tryd.prog 27 #[.agg (byts d), .int .i64 at_, .int .i64 1, .slice a p cap] w (ClimbRes d at_ 1 ds w) := by
  have HK := Lib.hid hK; have HDL := Lib.hid hd; have HP := Lib.hid hp
  clear hK hd hp
  have hb : (decide (p = 0)) = (H.climbR d at_ 1 ds.reverse).2 := by
    rw [H.climbR_one, ← HP.out]
    cases ds <;> simp
  have hr0 : H.leaf d = (H.climbR d at_ 1 ds.reverse).1 := by rw [H.climbR_one]
  unfold ClimbRes
  rw [← hb, ← hr0]
  clear hb hr0
  obtain ⟨r, hr⟩ : ∃ r, H.leaf d = r := ⟨_, rfl⟩
  rw [hr]
  have hrl : r.length = 32 := by rw [← hr]; exact H.leaf_len d
  have HR := Lib.hid hr; have HRL := Lib.hid hrl
  clear hr hrl
  go_enter Tryd.func27, Tryd.ntmps27
  go_step
  go_step
  refine wp_region_list ?_
  refine wpl_box rfl 24 _ rfl (byts d) rfl ?_
  refine wpl_cell rfl rfl ?_
  go_step
  go_step
  go_step
  refine wpList_nil ?_
  rename_i K1 hK1
  refine hK1 _ _ ?_
  clear hK1
  have HW := Lib.hid (boxes1 w HDL.out)
  go_simp
  generalize (w.alloc (.cells (byts d) 24)).alloc (.cells (byts zero32) 24) = W1 at HW ⊢
  have HL := Lib.hid (leaf_any d W1 (HK.out.kept HW.out.1 HK.out.pos) HDL.out)
  go_upto_region 2 with (fail)
  refine wp_region_list ?_
  refine wpl_get rfl _ rfl w.heap.size d rfl HW.out.2.1 ?_
  go_simp
  go_wp2_with fail
  refine HL.out.mono ?_
  rintro e w4 ⟨rfl, hb4⟩
  rename_i K9 hK9
  refine hK9 _ _ ?_
  clear hK9
  rw [HR.out]
  have hd4 := HW.out.2.2.kept hb4 HW.out.2.2.lt
  have hput := run_put hd4 HRL.out
  have hsz : (byts r).size = 32 := by rw [byts_size, HRL.out]
  have HF := Lib.hid (And.intro (below_setRow (C := w.heap.size + 1) (HW.out.1.trans (hb4.mono HW.out.1.size)) (by omega) (byts r)) (hd4.set HRL.out))
  clear hd4 hb4
  go_wp2_with fail
  have hbe : ((p : Int) == 0) = decide (p = 0) := by rw [Bool.eq_iff_iff]; simp
  refine bodyPost_ret (v := .tuple #[.agg (byts r), .bool (decide (p = 0))]) ?_ rfl ⟨rfl, HF.out.1⟩
  rw [← hbe]
  exact ret_dig2 Tryd.results27 _ _ (w.heap.size + 1) _ _ rfl rfl HF.out.2

set_option maxRecDepth 100000 in
set_option maxHeartbeats 1000000 in
theorem climb_none (d : List UInt8) (at_ n : Int) (a : Option Addr) (cap : Nat) (w : World) (hd : d.length = 32) (hn : n ≠ 1) :
    Calls Tryd.prog 27 #[.agg (byts d), .int .i64 at_, .int .i64 n, .slice a 0 cap] w fun e w' => e = .returned (.tuple #[.agg (byts zero32), .bool false]) ∧ Below w.heap.size w w' := by
  have HDL := Lib.hid hd
  have hne : (n == 1) = false := by simpa using hn
  clear hd hn
  go_enter Tryd.func27, Tryd.ntmps27
  go_step
  go_step
  refine wp_region_list ?_
  refine wpl_box rfl 24 _ rfl (byts d) rfl ?_
  refine wpl_cell rfl rfl ?_
  go_step
  go_step
  go_step
  refine wpList_nil ?_
  rename_i K1 hK1
  refine hK1 _ _ ?_
  clear hK1
  have HW := Lib.hid (boxes1 w HDL.out)
  go_simp
  generalize (w.alloc (.cells (byts d) 24)).alloc (.cells (byts zero32) 24) = W1 at HW ⊢
  go_upto_region 4 with (fail)
  refine wp_region_list ?_
  refine wpl_build_none rfl 24 rfl (byts zero32) byts_zero ?_
  refine wpl_put rfl _ _ rfl (w.heap.size + 1) _ zero32 rfl rfl HW.out.2.2 zero32_len ?_
  have HF := Lib.hid (And.intro (below_setRow (C := w.heap.size + 1) HW.out.1 (by omega) (byts zero32)) (HW.out.2.2.set zero32_len))
  go_simp
  generalize W1.setRow (w.heap.size + 1) (byts zero32) = W2 at HF ⊢
  go_step
  go_step
  go_step
  refine wpList_nil ?_
  go_wp2_with fail
  refine bodyPost_ret (v := .tuple #[.agg (byts zero32), .bool false]) ?_ rfl ⟨rfl, HF.out.1⟩
  exact ret_dig2 Tryd.results27 _ _ (w.heap.size + 1) _ _ rfl rfl HF.out.2

set_option maxRecDepth 100000 in
set_option maxHeartbeats 1000000 in
theorem path_no (a : Option Addr) (n cap : Nat) (at_ : Int) (w : World) (h : at_ < 0 ∨ (n : Int) ≤ at_) :
    Calls Tryd.prog 10 #[.slice a n cap, .int .i64 at_] w fun e w' => e = .returned (.tuple #[.slice none 0 0, .int .i64 1]) ∧ w = w' := by
  by_cases h0 : at_ < 0
  · have hd : decide (at_ < 0) = true := by simpa using h0
    go_enter Tryd.func10, Tryd.ntmps10
    go_wp2_with fail
    go_ret2
    exact ⟨rfl, rfl⟩
  · have hd : decide (at_ < 0) = false := by simpa using h0
    have hge : (n : Int) ≤ at_ := by omega
    have hd2 : decide (at_ ≥ (n : Int)) = true := by simpa using hge
    have hd3 : decide ((n : Int) ≤ at_) = true := by simpa using hge
    go_enter Tryd.func10, Tryd.ntmps10
    go_wp2_with fail
    go_ret2
    exact ⟨rfl, rfl⟩

set_option maxRecDepth 100000 in
set_option maxHeartbeats 2000000 in
theorem top_in (d r : List UInt8) (ok : Bool) (at_ n p cap : Nat) (a : Option Addr) (w : World) (hd : d.length = 32) (hr : r.length = 32) (h1 : at_ < n) (h2 : n ≤ 1099511627776)
    (hcl : ∀ W, Below w.heap.size w W → Calls Tryd.prog 27 #[.agg (byts d), .int .i64 at_, .int .i64 n, .slice a p cap] W fun e w' => e = .returned (.tuple #[.agg (byts r), .bool ok]) ∧ Below W.heap.size W w') :
    Calls Tryd.prog 13 #[.agg (byts d), .int .i64 at_, .int .i64 n, .slice a p cap] w fun e w' => e = .returned (.tuple #[.agg (byts (if ok then r else zero32)), .int .i64 (if ok then 0 else 1)]) ∧ Below w.heap.size w w' := by
  have HDL := Lib.hid hd; have HRL := Lib.hid hr; have HCL := Lib.hid hcl
  clear hd hr hcl
  have g1 : decide ((at_ : Int) < 0) = false := by simp
  have g2 : decide ((at_ : Int) ≥ (n : Int)) = false := by simp; omega
  have g3 : decide ((n : Int) > 1099511627776) = false := by simp; omega
  have g4 : decide ((1099511627776 : Int) < (n : Int)) = false := by simp; omega
  have g5 : decide ((n : Int) ≤ (at_ : Int)) = false := by simp; omega
  have g6 : decide (n ≤ at_) = false := by simp; omega
  go_enter Tryd.func13, Tryd.ntmps13
  go_step
  go_step
  refine wp_region_list ?_
  refine wpl_box rfl 24 _ rfl (byts d) rfl ?_
  refine wpl_cell rfl rfl ?_
  go_step
  go_step
  go_step
  refine wpList_nil ?_
  rename_i K1 hK1
  refine hK1 _ _ ?_
  clear hK1
  have HW := Lib.hid (boxes1 w HDL.out)
  go_simp
  generalize (w.alloc (.cells (byts d) 24)).alloc (.cells (byts zero32) 24) = W1 at HW ⊢
  have HL := Lib.hid (HCL.out W1 HW.out.1)
  go_upto_region 3 with (fail)
  refine wp_region_list ?_
  refine wpl_get rfl _ rfl w.heap.size d rfl HW.out.2.1 ?_
  go_simp
  go_wp2_with fail
  refine HL.out.mono ?_
  rintro e w4 ⟨rfl, hb4⟩
  rename_i K9 hK9
  refine hK9 _ _ ?_
  clear hK9
  have hd4 := HW.out.2.2.kept hb4 HW.out.2.2.lt
  have hput := run_put hd4 HRL.out
  have hsz : (byts r).size = 32 := by rw [byts_size, HRL.out]
  have HF := Lib.hid (And.intro (below_setRow (C := w.heap.size + 1) (HW.out.1.trans (hb4.mono HW.out.1.size)) (by omega) (byts r)) (hd4.set HRL.out))
  clear hd4 hb4
  cases ok
  · go_upto_region 5 with (fail)
    clear hput hsz
    generalize w4.setRow (w.heap.size + 1) (byts r) = W5 at HF ⊢
    refine wp_region_list ?_
    refine wpl_build_none rfl 24 rfl (byts zero32) byts_zero ?_
    refine wpl_put rfl _ _ rfl (w.heap.size + 1) _ zero32 rfl rfl HF.out.2 zero32_len ?_
    have HZ := Lib.hid (And.intro (below_setRow (C := w.heap.size + 1) HF.out.1 (by omega) (byts zero32)) (HF.out.2.set zero32_len))
    go_simp
    generalize W5.setRow (w.heap.size + 1) (byts zero32) = W2 at HZ ⊢
    go_step
    go_step
    go_step
    refine wpList_nil ?_
    go_wp2_with fail
    refine bodyPost_ret (v := .tuple #[.agg (byts zero32), .int .i64 1]) ?_ rfl ⟨rfl, HZ.out.1⟩
    exact ret_dig2 Tryd.results13 _ _ (w.heap.size + 1) _ _ rfl rfl HZ.out.2
  · go_upto_region 6 with (fail)
    clear hput hsz
    generalize w4.setRow (w.heap.size + 1) (byts r) = W5 at HF ⊢
    refine wp_region_list ?_
    refine wpl_get rfl _ rfl (w.heap.size + 1) r rfl HF.out.2 ?_
    refine wpl_put rfl _ _ rfl (w.heap.size + 1) _ r rfl rfl HF.out.2 HRL.out ?_
    have HZ := Lib.hid (And.intro (below_setRow (C := w.heap.size + 1) HF.out.1 (by omega) (byts r)) (HF.out.2.set HRL.out))
    go_simp
    generalize W5.setRow (w.heap.size + 1) (byts r) = W2 at HZ ⊢
    go_step
    go_step
    go_step
    refine wpList_nil ?_
    go_wp2_with fail
    refine bodyPost_ret (v := .tuple #[.agg (byts r), .int .i64 0]) ?_ rfl ⟨rfl, HZ.out.1⟩
    exact ret_dig2 Tryd.results13 _ _ (w.heap.size + 1) _ _ rfl rfl HZ.out.2

end Go.Proofs.YthamligdmfhmeaaDoor
