/- Contract of Decode. -/
import Derived.Test.YtmhchpdogjbpmaaList
import Derived.Defers
import Derived.Recover
import Derived.Outline
namespace Go.Proofs.Ytmhchpdogjbpmaa
open Go.RowKit

/-- recover marks the panic; the results are laid. -/
theorem catch_panicking (B : Nat) (a0 a1 a2 a3 x : Value) (u : TypeId) (pv : Value) (older : List PanicEntry) (w : World)
    (hc : w.heap[B]? = some (.cells #[a0, a1, a2, a3] 24 (0, 0))) (hx : w.cell? ⟨B + 1, 0, none⟩ = some x) (hz : w.frozen? ⟨B + 1, 0, none⟩ = false) :
    CallsD Try.prog 32 #[.pointer (some ⟨B, 0, none⟩), .pointer (some ⟨B + 1, 0, none⟩)] (.panicking ({ v := .iface u pv, recovered := false } :: older)) w fun e u' w' =>
      e = .returned (.tuple #[]) ∧ u' = .panicking ({ v := .iface u pv, recovered := true } :: older) ∧ w' = ((((w.setCell ⟨B, 0, none⟩ (.int .i64 0)).setCell ⟨B, 1, none⟩ (.int .i64 0)).setCell ⟨B, 2, none⟩ (.string ⟨#[]⟩)).setCell ⟨B, 3, none⟩ (.slice none 0 0)).setCell ⟨B + 1, 0, none⟩ (.int .i64 10) := by
  obtain ⟨⟨d0, d1, d2, d3⟩, g0, g1, g2, g3⟩ := cells4 hc
  refine callsD_of_wpS Try.func32 rfl fun c₀ cs hu => ?_
  apply wpS_seq
  apply wpS_region
  simp [wpOpsS, go_sem, recoverD, hu, Try.ntmps32, Exit.thenS]
  refine wpS_cond (t := true) (by simp [Act.eval, Array.replicate]) ?_
  simp only [if_true]
  apply wpS_region
  simp [wpOpsS, go_sem, d0, d1, d2, d3, g0, g1, g2, g3, hx, hz, bodyPostS, results, Try.results32]

theorem catch_idle (p q : Addr) (w : World) :
    CallsD Try.prog 32 #[.pointer (some p), .pointer (some q)] .returning w fun e u' w' => e = .returned (.tuple #[]) ∧ u' = .returning ∧ w' = w := by
  refine callsD_of_wpS Try.func32 rfl fun c₀ cs hu => ?_
  apply wpS_seq
  apply wpS_region
  simp [wpOpsS, go_sem, recoverD, hu, Try.ntmps32, Exit.thenS]
  refine wpS_cond (t := false) (by simp [Act.eval, Array.replicate]) ?_
  simp only [Bool.false_eq_true, if_false]
  refine wpS_of_wp (wp_skip ?_)
  cases c₀
  simp_all [bodyPostS, results, Try.results32]

theorem end_ok (rb : Nat) (a : Option Addr) (cap : Nat) (w : World) (hc : w.cell? ⟨rb, 0, none⟩ = some (.slice a 0 cap)) : Calls Try.prog 34 #[.pointer (some ⟨rb, 0, none⟩)] w fun e w' => e = .returned (.tuple #[]) ∧ w = w' := by
  go_enter Try.func34, Try.ntmps34
  go_wp2_with fail
  go_end0
  exact ⟨rfl, rfl⟩

theorem end_bad (rb : Nat) (a : Option Addr) (n cap : Nat) (w : World) (hc : w.cell? ⟨rb, 0, none⟩ = some (.slice a n cap)) (h0 : 0 < n) (_ : n ≤ 1099511627776) : Calls Try.prog 34 #[.pointer (some ⟨rb, 0, none⟩)] w fun e w' => Bad e ∧ w = w' := by
  go_enter Try.func34, Try.ntmps34
  go_wp2_with fail
  exact ⟨rfl, rfl, rfl⟩

theorem cell0 {w : World} {B : Nat} {v : Value} {t : TypeId} (h : w.heap[B]? = some (.cells #[v] t (0, 0))) : w.cell? ⟨B, 0, none⟩ = some v := by rw [cell_of_row w B _ _ _ _ h]; rfl

/-- The bytes of a slice. -/
def BytesAt (w : World) (a : Option Addr) (bs : List UInt8) : Prop := ∀ i (h : i < bs.length), ∃ ad, a = some ad ∧ w.cell? (ad.add i) = some (.int .u8 (bs[i]).toNat)

theorem frozen_new {w : World} {B o : Nat} {cs : Array Value} {t : TypeId} (h : w.heap[B]? = some (.cells cs t (0, 0))) : w.frozen? ⟨B, o, none⟩ = false := by simp [World.frozen?, h]

theorem RS.start {w : World} {a : Option Addr} {bs : List UInt8} {cap : Nat} (hl : bs.length ≤ 1099511627776) (hc : bs.length ≤ cap) (h : BytesAt w a bs) (o1 o2 : Obj) (t : TypeId) :
    RS (((w.alloc o1).alloc o2).alloc (.cells #[.slice a bs.length cap] t)) (w.heap.size + 1 + 1) bs := by
  have hh := heap_alloc_new ((w.alloc o1).alloc o2) (.cells #[.slice a bs.length cap] t)
  have hs : ((w.alloc o1).alloc o2).heap.size = w.heap.size + 1 + 1 := by simp
  rw [hs] at hh
  refine ⟨frozen_new hh, hl, a, cap, by rw [cell_of_row _ (w.heap.size + 1 + 1) _ _ _ _ hh]; rfl, hc, fun i hi => ?_⟩
  obtain ⟨ad, ha, hcell⟩ := h i hi
  have hlt := block_lt_of_cell hcell
  rw [add_block] at hlt
  have hb : Below w.heap.size w (((w.alloc o1).alloc o2).alloc (.cells #[.slice a bs.length cap] t)) := (((Below.refl _ _).alloc (Nat.le_refl _) _).alloc (by simp) _).alloc (by simp; omega) _
  exact ⟨ad, ha, by omega, (hb.cell (by rw [add_block]; exact hlt)).trans hcell⟩

theorem grownBy_new {w w' : World} {rb : Nat} (h : w.grownBy w' (some rb)) (hr : w.heap.size ≤ rb) : w.grownBy w' none :=
  ⟨h.os, h.tape, h.output, h.size, fun k hk _ => h.block k hk (by simp; omega)⟩

theorem heap_set4 {w : World} {B : Nat} {v0 v1 v2 v3 : Value} {t : TypeId} (h : w.heap[B]? = some (.cells #[v0, v1, v2, v3] t (0, 0))) (u0 u1 u2 u3 : Value) :
    ((((w.setCell ⟨B, 0, none⟩ u0).setCell ⟨B, 1, none⟩ u1).setCell ⟨B, 2, none⟩ u2).setCell ⟨B, 3, none⟩ u3).heap[B]? = some (.cells #[u0, u1, u2, u3] t (0, 0)) := by
  simp [World.setCell, Array.getElem?_modify, h]
theorem heap_other4 (w : World) {B k : Nat} (h : k ≠ B) (u0 u1 u2 u3 : Value) :
    ((((w.setCell ⟨B, 0, none⟩ u0).setCell ⟨B, 1, none⟩ u1).setCell ⟨B, 2, none⟩ u2).setCell ⟨B, 3, none⟩ u3).heap[k]? = w.heap[k]? := by
  have hne : ∀ (W : World) (o : Nat) (u : Value), (W.setCell ⟨B, o, none⟩ u).heap[k]? = W.heap[k]? := fun W o u => Below.heap_setCell _ _ _ _ (by simpa using h)
  rw [hne, hne, hne, hne]

/-- The value of an encoding. -/
def M.dec (bs : List UInt8) : Option (M.T 17) := match M.rdVal 16 bs with
  | some (t, []) => some t
  | _ => none

/-- What Decode hands back. -/
def DecRes (r : Option (M.T 17)) (w : World) (e : Ending) (w' : World) : Prop :=
  w.grownBy w' none ∧ match r with
    | some t => ∃ v, e = .returned (.tuple #[v, .int .i64 0]) ∧ RepP (fun k => w.heap.size ≤ k ∧ k < w'.heap.size) w' 17 t v
    | none => e = .returned (.tuple #[.agg #[.int .i64 0, .int .i64 0, .string ⟨#[]⟩, .slice none 0 0], .int .i64 10])

/-- The two results' variables. -/
theorem boxes_kept {w w1 : World} {o3 : Obj} {rb : Nat} (hrb : rb = w.heap.size + 1 + 1) (hg : (((w.alloc (.cells #[.int .i64 0, .int .i64 0, .string ⟨#[]⟩, .slice none 0 0] 24)).alloc (.cells #[.int .i64 0] 28)).alloc o3).grownBy w1 (some rb)) :
    w1.heap[w.heap.size]? = some (.cells #[.int .i64 0, .int .i64 0, .string ⟨#[]⟩, .slice none 0 0] 24 (0, 0)) ∧ w1.heap[w.heap.size + 1]? = some (.cells #[.int .i64 0] 28 (0, 0)) ∧ w.heap.size + 3 ≤ w1.heap.size ∧ w.grownBy w1 none := by
  have hs := hg.size
  simp at hs
  refine ⟨?_, ?_, by omega, grownBy_new (grownBy_alloc _ (grownBy_alloc _ (grownBy_alloc _ hg))) (by omega)⟩
  · rw [hg.block w.heap.size (by simp; omega) (by simp; omega), Below.heap_alloc _ _ _ (by simp; omega), Below.heap_alloc _ _ _ (by simp)]
    exact heap_alloc_new w _
  · rw [hg.block (w.heap.size + 1) (by simp) (by simp; omega), Below.heap_alloc _ _ _ (by simp)]
    have := heap_alloc_new (w.alloc (.cells #[.int .i64 0, .int .i64 0, .string ⟨#[]⟩, .slice none 0 0] 24)) (.cells #[.int .i64 0] 28)
    simpa using this

set_option maxHeartbeats 1000000 in
theorem decode_badval (a : Option Addr) (cap : Nat) (bs : List UInt8) (w : World) (hl : bs.length ≤ 1099511627776) (hc : bs.length ≤ cap) (hb : BytesAt w a bs) (hv : M.rdVal 16 bs = none) :
    Calls Try.prog 18 #[.slice a bs.length cap] w (DecRes none w) := by
  have hrs := RS.start hl hc hb (.cells #[.int .i64 0, .int .i64 0, .string ⟨#[]⟩, .slice none 0 0] 24) (.cells #[.int .i64 0] 28) 53
  have hval := value_any 16 (by omega) _ bs _ hrs
  rw [hv] at hval
  have HV := Lib.hid hval; clear hval hrs hb hv
  have hmf : ∀ (fn : Fn) (first cap : Array Value) (w : World), (Instr.makeFunc fn first cap).run Try.prog w = .ok (.func fn first cap) w := fun _ _ _ _ => rfl
  go_enter_defers Try.func18, Try.ntmps18
  go_wp2_with fail
  refine (HV.out).mono ?_
  rintro e w1 ⟨hg1, hbad⟩
  unfold Bad at hbad; subst hbad
  obtain ⟨hB, hE, hs, hg⟩ := boxes_kept rfl hg1
  refine leaves_cons (f := 32) (args := #[.pointer (some ⟨w.heap.size, 0, none⟩), .pointer (some ⟨w.heap.size + 1, 0, none⟩)]) (by simp) (by simp [go_sem]) ?_
  refine (catch_panicking w.heap.size _ _ _ _ (.int .i64 0) _ _ [] w1 hB (cell0 hE) (frozen_new hE)).mono ?_
  rintro e u' w'' ⟨rfl, rfl, rfl⟩
  obtain ⟨⟨d0, d1, d2, d3⟩, g0, g1, g2, g3⟩ := cells4 hB
  have e0 := cell0 hE
  simp [Leaves, settle, results, Try.results18, go_sem, d0, d1, d2, d3, e0]
  exact ⟨grownBy_store (grownBy_store (grownBy_store (grownBy_store (grownBy_store hg (Nat.le_refl _) _) (Nat.le_refl _) _) (Nat.le_refl _) _) (Nat.le_refl _) _) (by omega) _, rfl⟩

set_option maxHeartbeats 1000000 in
theorem decode_more (a : Option Addr) (cap : Nat) (bs : List UInt8) (w : World) (hl : bs.length ≤ 1099511627776) (hc : bs.length ≤ cap) (hb : BytesAt w a bs) (t : M.T 17) (rest : List UInt8) (hv : M.rdVal 16 bs = some (t, rest)) (hr : 0 < rest.length) :
    Calls Try.prog 18 #[.slice a bs.length cap] w (DecRes none w) := by
  have hrs := RS.start hl hc hb (.cells #[.int .i64 0, .int .i64 0, .string ⟨#[]⟩, .slice none 0 0] 24) (.cells #[.int .i64 0] 28) 53
  have hval := value_any 16 (by omega) _ bs _ hrs
  rw [hv] at hval
  have HV := Lib.hid hval; clear hval hrs hb hv
  have hmf : ∀ (fn : Fn) (first cap : Array Value) (w : World), (Instr.makeFunc fn first cap).run Try.prog w = .ok (.func fn first cap) w := fun _ _ _ _ => rfl
  go_enter_defers Try.func18, Try.ntmps18
  go_wp2_with fail
  refine (HV.out).mono ?_
  rintro e w1 ⟨hg1, hrs1, v, he, hrep⟩
  obtain ⟨kx, nx, sx, ax, lx, px, hvx⟩ := hrep.shape
  subst hvx
  subst he
  obtain ⟨hB, hE, hs, hg⟩ := boxes_kept rfl hg1
  obtain ⟨⟨d0, d1, d2, d3⟩, g0, g1, g2, g3⟩ := cells4 hB
  clear hrep
  obtain ⟨hf1, hl1, a1, cap1, hc1, _, _⟩ := hrs1
  go_wp2_with fail
  refine (end_bad (w.heap.size + 1 + 1) a1 rest.length cap1 _ ((World.cell?_of_block (w := w1) (heap_other4 w1 (by simp; omega) _ _ _ _)).trans hc1) hr hl1).mono ?_
  rintro e w2 ⟨hbad, rfl⟩
  unfold Bad at hbad; subst hbad
  refine leaves_cons (f := 32) (args := #[.pointer (some ⟨w.heap.size, 0, none⟩), .pointer (some ⟨w.heap.size + 1, 0, none⟩)]) (by simp) (by simp [go_sem]) ?_
  have hB4 := heap_set4 hB (.int .i64 kx) (.int .i64 nx) (.string sx) (.slice ax lx px)
  have hE4 := (heap_other4 w1 (B := w.heap.size) (k := w.heap.size + 1) (by omega) (.int .i64 kx) (.int .i64 nx) (.string sx) (.slice ax lx px)).trans hE
  refine (catch_panicking w.heap.size _ _ _ _ (.int .i64 0) _ _ [] _ hB4 (cell0 hE4) (frozen_new hE4)).mono ?_
  rintro e u' w'' ⟨rfl, rfl, rfl⟩
  obtain ⟨⟨k0, k1, k2, k3⟩, _⟩ := cells4 hB4
  have e0 := cell0 hE4
  have hg4 := grownBy_store (grownBy_store (grownBy_store (grownBy_store hg (Nat.le_refl _) (.int .i64 kx) (o := 0)) (Nat.le_refl _) (.int .i64 nx) (o := 1)) (Nat.le_refl _) (.string sx) (o := 2)) (Nat.le_refl _) (.slice ax lx px) (o := 3)
  generalize ((((w1.setCell { block := w.heap.size, off := 0 } (.int .i64 kx)).setCell { block := w.heap.size, off := 1 } (.int .i64 nx)).setCell { block := w.heap.size, off := 2 } (.string sx)).setCell { block := w.heap.size, off := 3 } (.slice ax lx px)) = W4 at *
  simp [Leaves, settle, results, Try.results18, go_sem, k0, k1, k2, k3, e0]
  exact ⟨grownBy_store (grownBy_store (grownBy_store (grownBy_store (grownBy_store hg4 (Nat.le_refl _) _) (Nat.le_refl _) _) (Nat.le_refl _) _) (Nat.le_refl _) _) (by omega) _, rfl⟩

set_option maxHeartbeats 1000000 in
theorem decode_good (a : Option Addr) (cap : Nat) (bs : List UInt8) (w : World) (hl : bs.length ≤ 1099511627776) (hc : bs.length ≤ cap) (hb : BytesAt w a bs) (t : M.T 17) (hv : M.rdVal 16 bs = some (t, [])) :
    Calls Try.prog 18 #[.slice a bs.length cap] w (DecRes (some t) w) := by
  have hrs := RS.start hl hc hb (.cells #[.int .i64 0, .int .i64 0, .string ⟨#[]⟩, .slice none 0 0] 24) (.cells #[.int .i64 0] 28) 53
  have hval := value_any 16 (by omega) _ bs _ hrs
  rw [hv] at hval
  have HV := Lib.hid hval; clear hval hrs hb hv
  have hmf : ∀ (fn : Fn) (first cap : Array Value) (w : World), (Instr.makeFunc fn first cap).run Try.prog w = .ok (.func fn first cap) w := fun _ _ _ _ => rfl
  go_enter_defers Try.func18, Try.ntmps18
  go_wp2_with fail
  refine (HV.out).mono ?_
  rintro e w1 ⟨hg1, hrs1, v, he, hrep⟩
  obtain ⟨kx, nx, sx, ax, lx, px, hvx⟩ := hrep.shape
  subst hvx
  subst he
  obtain ⟨hB, hE, hs, hg⟩ := boxes_kept rfl hg1
  obtain ⟨⟨d0, d1, d2, d3⟩, g0, g1, g2, g3⟩ := cells4 hB
  have e0 := cell0 hE
  have f0 := frozen_new (o := 0) hE
  have HREP := Lib.hid hrep
  clear hrep
  obtain ⟨hf1, hl1, a1, cap1, hc1, _, _⟩ := hrs1
  go_wp2_with fail
  refine (end_ok (w.heap.size + 1 + 1) a1 cap1 _ ((World.cell?_of_block (w := w1) (heap_other4 w1 (by simp; omega) _ _ _ _)).trans hc1)).mono ?_
  rintro e w2 ⟨rfl, rfl⟩
  have hB4 := heap_set4 hB (.int .i64 kx) (.int .i64 nx) (.string sx) (.slice ax lx px)
  have hE4 := (heap_other4 w1 (B := w.heap.size) (k := w.heap.size + 1) (by omega) (.int .i64 kx) (.int .i64 nx) (.string sx) (.slice ax lx px)).trans hE
  have hg4 := grownBy_store (grownBy_store (grownBy_store (grownBy_store hg (Nat.le_refl _) (.int .i64 kx) (o := 0)) (Nat.le_refl _) (.int .i64 nx) (o := 1)) (Nat.le_refl _) (.string sx) (o := 2)) (Nat.le_refl _) (.slice ax lx px) (o := 3)
  have hR4 : RepP (fun k => w.heap.size + 3 ≤ k ∧ k < ((((w1.setCell { block := w.heap.size, off := 0 } (.int .i64 kx)).setCell { block := w.heap.size, off := 1 } (.int .i64 nx)).setCell { block := w.heap.size, off := 2 } (.string sx)).setCell { block := w.heap.size, off := 3 } (.slice ax lx px)).heap.size) ((((w1.setCell { block := w.heap.size, off := 0 } (.int .i64 kx)).setCell { block := w.heap.size, off := 1 } (.int .i64 nx)).setCell { block := w.heap.size, off := 2 } (.string sx)).setCell { block := w.heap.size, off := 3 } (.slice ax lx px)) 17 t (.agg #[.int .i64 kx, .int .i64 nx, .string sx, .slice ax lx px]) := by
    refine (HREP.out.kept (fun k hk => ?_)).mono (fun k hk => ?_)
    · have := hk.1; simp at this
      exact heap_other4 w1 (by omega) _ _ _ _
    · have := hk.1; simp at this
      exact ⟨by omega, by simp [World.setCell]; exact hk.2⟩
  have HR4 := Lib.hid hR4
  clear hR4 HREP hB hE d0 d1 d2 d3 g0 g1 g2 g3 e0 f0 hc1 hg1 hg hf1 hl1
  have hs4 : w.heap.size + 3 ≤ ((((w1.setCell { block := w.heap.size, off := 0 } (.int .i64 kx)).setCell { block := w.heap.size, off := 1 } (.int .i64 nx)).setCell { block := w.heap.size, off := 2 } (.string sx)).setCell { block := w.heap.size, off := 3 } (.slice ax lx px)).heap.size := by simp [World.setCell]; omega
  clear hs
  generalize ((((w1.setCell { block := w.heap.size, off := 0 } (.int .i64 kx)).setCell { block := w.heap.size, off := 1 } (.int .i64 nx)).setCell { block := w.heap.size, off := 2 } (.string sx)).setCell { block := w.heap.size, off := 3 } (.slice ax lx px)) = W4 at *
  obtain ⟨⟨d0, d1, d2, d3⟩, g0, g1, g2, g3⟩ := cells4 hB4
  have e0 := cell0 hE4
  have f0 := frozen_new (o := 0) hE4
  go_wp2_with fail
  refine leaves_cons (f := 32) (args := #[.pointer (some ⟨w.heap.size, 0, none⟩), .pointer (some ⟨w.heap.size + 1, 0, none⟩)]) (by simp) (by simp [go_sem]) ?_
  refine (catch_idle ⟨w.heap.size, 0, none⟩ ⟨w.heap.size + 1, 0, none⟩ _).mono ?_
  rintro e u' w'' ⟨rfl, rfl, rfl⟩
  have hB8 := heap_set4 hB4 (.int .i64 kx) (.int .i64 nx) (.string sx) (.slice ax lx px)
  have hE8 := (heap_other4 W4 (B := w.heap.size) (k := w.heap.size + 1) (by omega) (.int .i64 kx) (.int .i64 nx) (.string sx) (.slice ax lx px)).trans hE4
  have hg8 := grownBy_store (grownBy_store (grownBy_store (grownBy_store hg4 (Nat.le_refl _) (.int .i64 kx) (o := 0)) (Nat.le_refl _) (.int .i64 nx) (o := 1)) (Nat.le_refl _) (.string sx) (o := 2)) (Nat.le_refl _) (.slice ax lx px) (o := 3)
  have hR8 : RepP (fun k => w.heap.size + 3 ≤ k ∧ k < ((((W4.setCell { block := w.heap.size, off := 0 } (.int .i64 kx)).setCell { block := w.heap.size, off := 1 } (.int .i64 nx)).setCell { block := w.heap.size, off := 2 } (.string sx)).setCell { block := w.heap.size, off := 3 } (.slice ax lx px)).heap.size) ((((W4.setCell { block := w.heap.size, off := 0 } (.int .i64 kx)).setCell { block := w.heap.size, off := 1 } (.int .i64 nx)).setCell { block := w.heap.size, off := 2 } (.string sx)).setCell { block := w.heap.size, off := 3 } (.slice ax lx px)) 17 t (.agg #[.int .i64 kx, .int .i64 nx, .string sx, .slice ax lx px]) :=
    (HR4.out.kept (fun k hk => heap_other4 W4 (by have := hk.1; omega) _ _ _ _)).mono (fun k hk => ⟨hk.1, by simp [World.setCell]; exact hk.2⟩)
  clear HR4 hB4 hE4 hg4 d0 d1 d2 d3 g0 g1 g2 g3 e0 f0
  generalize ((((W4.setCell { block := w.heap.size, off := 0 } (.int .i64 kx)).setCell { block := w.heap.size, off := 1 } (.int .i64 nx)).setCell { block := w.heap.size, off := 2 } (.string sx)).setCell { block := w.heap.size, off := 3 } (.slice ax lx px)) = W8 at *
  obtain ⟨⟨d0, d1, d2, d3⟩, _⟩ := cells4 hB8
  have e0 := cell0 hE8
  simp [Leaves, settle, results, Try.results18, go_sem, d0, d1, d2, d3, e0]
  exact ⟨grownBy_store hg8 (by omega) _, _, rfl, (hR8.kept (fun k hk => Below.heap_setCell _ _ _ _ (by have := hk.1; simp; omega))).mono (fun k hk => ⟨by have := hk.1; omega, by simp [World.setCell]; exact hk.2⟩)⟩

/-- Decode, at all bytes. -/
theorem decode_any (a : Option Addr) (cap : Nat) (bs : List UInt8) (w : World) (hl : bs.length ≤ 1099511627776) (hc : bs.length ≤ cap) (hb : BytesAt w a bs) :
    Calls Try.prog 18 #[.slice a bs.length cap] w (DecRes (M.dec bs) w) := by
  unfold M.dec
  cases hv : M.rdVal 16 bs with
  | none => exact decode_badval a cap bs w hl hc hb hv
  | some p =>
    obtain ⟨t, rest⟩ := p
    cases rest with
    | nil => exact decode_good a cap bs w hl hc hb t hv
    | cons c r => exact decode_more a cap bs w hl hc hb t _ hv (by simp)

end Go.Proofs.Ytmhchpdogjbpmaa
