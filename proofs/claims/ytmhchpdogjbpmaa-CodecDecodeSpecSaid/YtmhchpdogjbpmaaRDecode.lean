/- Contract of the reference's Decode. -/
import Derived.Test.YtmhchpdogjbpmaaRList
import Derived.Test.YtmhchpdogjbpmaaRoundTrip
import Derived.Test.YtmhchpdogjbpmaaRefCheck
namespace Go.Proofs.Ytmhchpdogjbpmaa
open Go.RowKit

theorem RR.start {w : World} {a : Option Addr} {bs : List UInt8} {cap : Nat} (hl : bs.length ≤ 1000000) (hc : bs.length ≤ cap) (h : BytesAt w a bs) (o1 : Obj) :
    RR ((w.alloc o1).alloc (.cells #[.slice a bs.length cap, .int .i64 0, .bool false] 56)) (w.heap.size + 1) a bs cap 0 false := by
  have hh := heap_alloc_new (w.alloc o1) (.cells #[.slice a bs.length cap, .int .i64 0, .bool false] 56)
  have hs : (w.alloc o1).heap.size = w.heap.size + 1 := by simp
  rw [hs] at hh
  refine ⟨hh, hc, hl, fun i hi => ?_⟩
  obtain ⟨ad, ha, hcell⟩ := h i hi
  have hlt := block_lt_of_cell hcell
  rw [add_block] at hlt
  have hb : Below w.heap.size w ((w.alloc o1).alloc (.cells #[.slice a bs.length cap, .int .i64 0, .bool false] 56)) := ((Below.refl _ _).alloc (Nat.le_refl _) _).alloc (by simp) _
  exact ⟨ad, ha, by omega, (hb.cell (by rw [add_block]; exact hlt)).trans hcell⟩

theorem set4_size (w : World) (B : Nat) (u0 u1 u2 u3 : Value) : ((((w.setCell ⟨B, 0, none⟩ u0).setCell ⟨B, 1, none⟩ u1).setCell ⟨B, 2, none⟩ u2).setCell ⟨B, 3, none⟩ u3).heap.size = w.heap.size := by simp [World.setCell]
theorem below_set4 {w w' : World} (h : Below w.heap.size w w') {B : Nat} (hB : w.heap.size ≤ B) (u0 u1 u2 u3 : Value) :
    Below w.heap.size w ((((w'.setCell ⟨B, 0, none⟩ u0).setCell ⟨B, 1, none⟩ u1).setCell ⟨B, 2, none⟩ u2).setCell ⟨B, 3, none⟩ u3) :=
  ⟨h.os, h.tape, h.output, by rw [set4_size]; exact h.size, fun k hk => (heap_other4 w' (by omega) u0 u1 u2 u3).trans (h.block k hk)⟩

set_option maxRecDepth 100000 in
set_option maxHeartbeats 4000000 in
/-- Decode, of bytes that are no value. -/
theorem rdecode_bad (a : Option Addr) (cap : Nat) (bs : List UInt8) (w : World) (hl : bs.length ≤ 1000000) (hc : bs.length ≤ cap) (hb : BytesAt w a bs) (hv : M.rdVal 16 bs = none) :
    Calls Try.prog 19 #[.slice a bs.length cap] w (DecNo w) := by
  have hrr := RR.start hl hc hb (.cells #[.int .i64 0, .int .i64 0, .string ⟨#[]⟩, .slice none 0 0] 24)
  have hval := rvalue_any 16 0 _ _ _ _ _ 0 (by decide) (by omega) (by omega) hrr
  rw [List.drop_zero, hv] at hval
  have HV := Lib.hid hval
  have HBY := Lib.hid hb
  clear hval hrr hb hv hc
  have hbx := heap_alloc_new w (.cells #[.int .i64 0, .int .i64 0, .string ⟨#[]⟩, .slice none 0 0] 24)
  go_enter Try.func19, Try.ntmps19
  go_wp2_with fail
  refine (HV.out).mono ?_
  rintro e w1 ⟨k, n, s, ax, lx, px, at', rfl, hal, hleft⟩
  have hB := (hleft.2.block w.heap.size (by simp; omega) (by simp)).trans ((Below.heap_alloc _ _ _ (by simp)).trans hbx)
  have hs := hleft.2.size
  simp at hs
  obtain ⟨⟨c0, c1, c2⟩, g0, g1, g2⟩ := cells3 hleft.1.1
  have hg : Below w.heap.size w w1 := grownBy_below (grownBy_new (grownBy_alloc _ (grownBy_alloc _ hleft.2)) (by omega))
  have HG := Lib.hid hg
  clear hg hbx HV
  go_wp2_with fail
  have hA : Below w1.heap.size w1 (w1.alloc (.cells #[.int .i64 k, .int .i64 n, .string s, .slice ax lx px] 24)) := (Below.refl _ _).alloc (Nat.le_refl _) _
  have hRD := (hA.block (w.heap.size + 1) (by omega)).trans hleft.1.1
  have hBA := (hA.block w.heap.size (by omega)).trans hB
  have hVA := heap_alloc_new w1 (.cells #[.int .i64 k, .int .i64 n, .string s, .slice ax lx px] 24)
  have HGA := Lib.hid (HG.out.trans (hA.mono HG.out.size))
  have hsz : (w1.alloc (.cells #[.int .i64 k, .int .i64 n, .string s, .slice ax lx px] 24)).heap.size = w1.heap.size + 1 := by simp
  generalize w1.alloc (.cells #[.int .i64 k, .int .i64 n, .string s, .slice ax lx px] 24) = W at *
  generalize w1.heap.size = V at *
  clear c0 c1 c2 g0 g1 g2 hA hleft HG hB w1
  obtain ⟨⟨c0, c1, c2⟩, gg⟩ := cells3 hRD
  clear gg
  have x1 := cell_regrown c1; have x2 := cell_regrown c2
  clear c0 c1 c2
  refine wp_region_qb (by kernel_rfl) ?_
  repeat (go_big_quiet_step (fail))
  refine wpQuiet_nil ?_
  intro W2 hb2
  have hB2 := (hb2.block w.heap.size (by omega)).trans hBA
  have HB2 := Lib.hid (HGA.out.trans (hb2.mono HGA.out.size))
  clear x1 x2 hb2 hBA HGA hVA hRD
  generalize W.heap.size = SZ at *
  obtain ⟨⟨d0, d1, d2, d3⟩, f0, f1, f2, f3⟩ := cells4 hB2
  go_wp2_with fail
  refine bodyPost_ret (v := .tuple #[.agg #[.int .i64 0, .int .i64 0, .string ⟨#[]⟩, .slice none 0 0], .int .i64 10]) (by simp [results, Try.results19, go_sem, d0, d1, d2, d3]) rfl ?_
  exact ⟨rfl, below_set4 HB2.out (Nat.le_refl _) _ _ _ _⟩

set_option maxRecDepth 100000 in
set_option maxHeartbeats 4000000 in
/-- Decode, of more than a value. -/
theorem rdecode_more (a : Option Addr) (cap : Nat) (bs : List UInt8) (w : World) (hl : bs.length ≤ 1000000) (hc : bs.length ≤ cap) (hb : BytesAt w a bs) (t : M.T 17) (rest : List UInt8) (hv : M.rdVal 16 bs = some (t, rest)) (hr : 0 < rest.length) :
    Calls Try.prog 19 #[.slice a bs.length cap] w (DecNo w) := by
  have hrr := RR.start hl hc hb (.cells #[.int .i64 0, .int .i64 0, .string ⟨#[]⟩, .slice none 0 0] 24)
  have hval := rvalue_any 16 0 _ _ _ _ _ 0 (by decide) (by omega) (by omega) hrr
  rw [List.drop_zero, hv] at hval
  have HV := Lib.hid hval
  have HBY := Lib.hid hb
  clear hval hrr hb hv hc
  have hbx := heap_alloc_new w (.cells #[.int .i64 0, .int .i64 0, .string ⟨#[]⟩, .slice none 0 0] 24)
  go_enter Try.func19, Try.ntmps19
  go_wp2_with fail
  refine (HV.out).mono ?_
  rintro e w1 ⟨v, at', rfl, hrep, hal, hrest, hleft⟩
  obtain ⟨k, n, s, ax, lx, px, rfl⟩ := hrep.shape
  have hat : at' < bs.length := by rw [hrest, List.length_drop] at hr; omega
  have hne : ((at' : Int) != (bs.length : Int)) = true := by simp; omega
  clear hrep hrest hr
  have hB := (hleft.2.block w.heap.size (by simp; omega) (by simp)).trans ((Below.heap_alloc _ _ _ (by simp)).trans hbx)
  have hs := hleft.2.size
  simp at hs
  obtain ⟨⟨c0, c1, c2⟩, g0, g1, g2⟩ := cells3 hleft.1.1
  have hg : Below w.heap.size w w1 := grownBy_below (grownBy_new (grownBy_alloc _ (grownBy_alloc _ hleft.2)) (by omega))
  have HG := Lib.hid hg
  clear hg hbx HV
  go_wp2_with fail
  have hA : Below w1.heap.size w1 (w1.alloc (.cells #[.int .i64 k, .int .i64 n, .string s, .slice ax lx px] 24)) := (Below.refl _ _).alloc (Nat.le_refl _) _
  have hRD := (hA.block (w.heap.size + 1) (by omega)).trans hleft.1.1
  have hBA := (hA.block w.heap.size (by omega)).trans hB
  have hVA := heap_alloc_new w1 (.cells #[.int .i64 k, .int .i64 n, .string s, .slice ax lx px] 24)
  have HGA := Lib.hid (HG.out.trans (hA.mono HG.out.size))
  have hsz : (w1.alloc (.cells #[.int .i64 k, .int .i64 n, .string s, .slice ax lx px] 24)).heap.size = w1.heap.size + 1 := by simp
  generalize w1.alloc (.cells #[.int .i64 k, .int .i64 n, .string s, .slice ax lx px] 24) = W at *
  generalize w1.heap.size = V at *
  clear c0 c1 c2 g0 g1 g2 hA hleft HG hB w1
  obtain ⟨⟨c0, c1, c2⟩, gg⟩ := cells3 hRD
  clear gg
  have x1 := cell_regrown c1; have x2 := cell_regrown c2
  clear c0 c1 c2
  refine wp_region_qb (by kernel_rfl) ?_
  repeat (go_big_quiet_step (fail))
  refine wpQuiet_nil ?_
  intro W2 hb2
  have hB2 := (hb2.block w.heap.size (by omega)).trans hBA
  have HB2 := Lib.hid (HGA.out.trans (hb2.mono HGA.out.size))
  clear x1 x2 hb2 hBA HGA hVA hRD
  generalize W.heap.size = SZ at *
  obtain ⟨⟨d0, d1, d2, d3⟩, f0, f1, f2, f3⟩ := cells4 hB2
  go_wp2_with fail
  refine bodyPost_ret (v := .tuple #[.agg #[.int .i64 0, .int .i64 0, .string ⟨#[]⟩, .slice none 0 0], .int .i64 10]) (by simp [results, Try.results19, go_sem, d0, d1, d2, d3]) rfl ?_
  exact ⟨rfl, below_set4 HB2.out (Nat.le_refl _) _ _ _ _⟩

set_option maxRecDepth 100000 in
set_option maxHeartbeats 4000000 in
/-- Decode, of a value. -/
theorem rdecode_good (a : Option Addr) (cap : Nat) (bs : List UInt8) (w : World) (hl : bs.length ≤ 1000000) (hc : bs.length ≤ cap) (hb : BytesAt w a bs) (t : M.T 17) (hv : M.rdVal 16 bs = some (t, [])) :
    Calls Try.prog 19 #[.slice a bs.length cap] w (DecAt t w) := by
  have hdc : M.dec bs = some t := by unfold M.dec; rw [hv]
  obtain ⟨hck, hen⟩ := enc_dec hdc
  have HCK := Lib.hid hck; have HEN := Lib.hid hen
  clear hck hen hdc
  have hrr := RR.start hl hc hb (.cells #[.int .i64 0, .int .i64 0, .string ⟨#[]⟩, .slice none 0 0] 24)
  have hval := rvalue_any 16 0 _ _ _ _ _ 0 (by decide) (by omega) (by omega) hrr
  rw [List.drop_zero, hv] at hval
  have HV := Lib.hid hval
  have HBY := Lib.hid hb
  clear hval hrr hb hv hc
  have hbx := heap_alloc_new w (.cells #[.int .i64 0, .int .i64 0, .string ⟨#[]⟩, .slice none 0 0] 24)
  go_enter Try.func19, Try.ntmps19
  go_wp2_with fail
  refine (HV.out).mono ?_
  rintro e w1 ⟨v, at', rfl, hrep, hal, hrest, hleft⟩
  obtain ⟨k, n, s, ax, lx, px, rfl⟩ := hrep.shape
  obtain rfl : at' = bs.length := by
    have := congrArg List.length hrest
    rw [List.length_drop] at this; simp at this; omega
  have hne : ((bs.length : Int) != (bs.length : Int)) = false := by simp
  have HREP := Lib.hid (hrep.rep (B := w1.heap.size) (fun k hk => hk.2))
  have HRP := Lib.hid (hrep.mono (P' := fun k => w.heap.size + 1 ≤ k ∧ k < w1.heap.size) (fun k hk => ⟨by have := hk.1; simp at this; omega, hk.2⟩))
  clear hrep hrest
  have hB := (hleft.2.block w.heap.size (by simp; omega) (by simp)).trans ((Below.heap_alloc _ _ _ (by simp)).trans hbx)
  have hs := hleft.2.size
  simp at hs
  obtain ⟨⟨c0, c1, c2⟩, g0, g1, g2⟩ := cells3 hleft.1.1
  have hg : Below w.heap.size w w1 := grownBy_below (grownBy_new (grownBy_alloc _ (grownBy_alloc _ hleft.2)) (by omega))
  have HG := Lib.hid hg
  clear hg hbx HV
  go_wp2_with fail
  have hA : Below w1.heap.size w1 (w1.alloc (.cells #[.int .i64 k, .int .i64 n, .string s, .slice ax lx px] 24)) := (Below.refl _ _).alloc (Nat.le_refl _) _
  have hRD := (hA.block (w.heap.size + 1) (by omega)).trans hleft.1.1
  have hBA := (hA.block w.heap.size (by omega)).trans hB
  have hVA := heap_alloc_new w1 (.cells #[.int .i64 k, .int .i64 n, .string s, .slice ax lx px] 24)
  have HGA := Lib.hid (HG.out.trans (hA.mono HG.out.size))
  have hsz : (w1.alloc (.cells #[.int .i64 k, .int .i64 n, .string s, .slice ax lx px] 24)).heap.size = w1.heap.size + 1 := by simp
  have HRW := Lib.hid (HREP.out.later hA)
  have HRPW := Lib.hid ((HRP.out.kept (fun k hk => hA.block k hk.2)).mono (P' := fun j => w.heap.size + 1 ≤ j ∧ j < (w1.alloc (.cells #[.int .i64 k, .int .i64 n, .string s, .slice ax lx px] 24)).heap.size) (fun j hk => ⟨hk.1, by rw [hsz]; have := hk.2; omega⟩))
  have HBW := Lib.hid (HBY.out.kept HGA.out)
  generalize w1.alloc (.cells #[.int .i64 k, .int .i64 n, .string s, .slice ax lx px] 24) = W at *
  generalize w1.heap.size = V at *
  clear c0 c1 c2 g0 g1 g2 hA hleft HG hB HREP HRP HBY w1
  obtain ⟨⟨c0, c1, c2⟩, gg⟩ := cells3 hRD
  obtain ⟨⟨e0, e1, e2, e3⟩, gg2⟩ := cells4 hVA
  clear gg gg2
  have hbD : Below W.heap.size W W.drew := (Below.refl _ _).drew
  have hc := rcheck_any 17 t _ W.drew (HRW.out.later hbD) (by have := M.height_le 17 t; omega)
  rw [HCK.out] at hc
  have HC := Lib.hid hc
  have hEl : (M.enc 17 t).length ≤ 35184372088832 := by rw [HEN.out]; omega
  have HE : ∀ W', Below W.heap.size W W' → Calls Try.prog 28 #[.agg #[.int .i64 k, .int .i64 n, .string s, .slice ax lx px]] W' (Made bs W') := fun W' h => by
    have := rencode_any 17 t _ W' (HRW.out.later h) hEl
    rw [HEN.out] at this; exact this
  have HEH := Lib.hid HE
  have hEq : ((⟨bs.toArray⟩ : ByteArray).toList != (⟨bs.toArray⟩ : ByteArray).toList) = false := by simp
  have hzz : ((0 : Int) != 0) = false := by decide
  have HBD := Lib.hid hbD
  have HVA := Lib.hid hVA
  clear hc HE hbD hVA hRD
  go_region_law (first
    | (go_simp; go_at_call 17; (with_reducible refine (HC.out).mono ?_); rintro er w3 ⟨rfl, hb3⟩; have h3 := HBD.out.trans hb3; have hV3 := (h3.block V (by omega)).trans HVA.out; have k0 := (cells4 hV3).1.1; have k1 := (cells4 hV3).1.2.1; have k2 := (cells4 hV3).1.2.2.1; have k3 := (cells4 hV3).1.2.2.2; have cv3 := bytes_str cap (HBW.out.kept h3) rfl rfl)
    | (go_simp; go_at_call 28; (with_reducible refine (HEH.out _ h3).mono ?_); rintro er w4 ⟨g4, p4, rfl, ho4, hb4⟩; have h4 := h3.trans (hb4.mono h3.size); have cv4 := bytes_str cap (HBW.out.kept h4) rfl rfl; have cv5 := bytes_str p4 (owns_bytesAt ho4) rfl rfl))
  all_goals
    have hV4 := (h4.block V (by omega)).trans HVA.out
    have hB4 := (h4.block w.heap.size (by omega)).trans hBA
    have HR4 := Lib.hid ((HRPW.out.kept (fun k hk => h4.block k hk.2)).mono (P' := fun k => w.heap.size + 1 ≤ k ∧ k < w4.heap.size) (fun k hk => ⟨hk.1, Nat.lt_of_lt_of_le hk.2 h4.size⟩))
    have HG4 := Lib.hid (HGA.out.trans (h4.mono HGA.out.size))
    have hVS : V < w4.heap.size := (Array.getElem?_eq_some_iff.1 hV4).1
    clear k0 k1 k2 k3 cv3 cv4 cv5 hV3 c0 c1 c2 e0 e1 e2 e3 hEq hne hzz ho4 hb3 hb4 h3 h4 HC HEH HBD HBW HVA HRW HRPW HGA hBA
    obtain ⟨⟨d0, d1, d2, d3⟩, f0, f1, f2, f3⟩ := cells4 hB4
    obtain ⟨⟨e0, e1, e2, e3⟩, _⟩ := cells4 hV4
    go_wp2_with fail
    have hbs := below_set4 HG4.out (Nat.le_refl _) (.int .i64 k) (.int .i64 n) (.string s) (.slice ax lx px)
    refine bodyPost_ret (v := .tuple #[.agg #[.int .i64 k, .int .i64 n, .string s, .slice ax lx px], .int .i64 0]) (by simp [results, Try.results19, go_sem, d0, d1, d2, d3]) rfl ?_
    refine ⟨k, n, s, ax, lx, px, rfl, ?_, hbs⟩
    exact (HR4.out.kept (fun k hk => heap_other4 w4 (by have := hk.1; omega) _ _ _ _)).rep (fun k hk => by rw [set4_size]; exact hk.2)

/-- The reference's Decode, at all bytes. -/
theorem rdecode_at (a : Option Addr) (n cap : Nat) (bs : List UInt8) (w : World) (t : M.T 17) (hn : bs.length = n) (hl : n ≤ 1000000) (hc : n ≤ cap) (hb : BytesAt w a bs) (hd : M.dec bs = some t) :
    Calls Try.prog 19 #[.slice a n cap] w (DecAt t w) := by
  subst hn
  unfold M.dec at hd
  cases hv : M.rdVal 16 bs with
  | none => rw [hv] at hd; simp at hd
  | some p =>
    obtain ⟨u, rest⟩ := p
    rw [hv] at hd
    cases rest with
    | nil => obtain rfl : u = t := by simpa using hd
             exact rdecode_good a cap bs w hl hc hb u hv
    | cons c r => simp at hd
theorem rdecode_no (a : Option Addr) (n cap : Nat) (bs : List UInt8) (w : World) (hn : bs.length = n) (hl : n ≤ 1000000) (hc : n ≤ cap) (hb : BytesAt w a bs) (hd : M.dec bs = none) :
    Calls Try.prog 19 #[.slice a n cap] w (DecNo w) := by
  subst hn
  unfold M.dec at hd
  cases hv : M.rdVal 16 bs with
  | none => exact rdecode_bad a cap bs w hl hc hb hv
  | some p =>
    obtain ⟨u, rest⟩ := p
    rw [hv] at hd
    cases rest with
    | nil => simp at hd
    | cons c r => exact rdecode_more a cap bs w hl hc hb u _ hv (by simp)

end Go.Proofs.Ytmhchpdogjbpmaa
