/- Contracts of leaf, pair, node, Chain. -/
import Derived.Test.YthamligdmfhmeaaDoorTagged
import Derived.Deep.MidRow
import Derived.StillTailTactics
namespace Go.Proofs.YthamligdmfhmeaaDoor
open Go.RowKit

namespace H
def sLeaf : List UInt8 := [108, 101, 97, 102]
def sNode : List UInt8 := [110, 111, 100, 101]
def sChain : List UInt8 := [99, 104, 97, 105, 110]
def sEmpty : List UInt8 := [101, 109, 112, 116, 121]
def leaf (d : List UInt8) : List UInt8 := tagged sLeaf d
def node (a b : List UInt8) : List UInt8 := tagged sNode (a ++ b)
def chain (a b : List UInt8) : List UInt8 := tagged sChain (a ++ b)
end H

/-- A parameter's box. -/
theorem wpl_box {ops : Array Oper} {rest : List Oper} {o : Oper} {a : Act} {w : World} {Q : Exit → Act → World → Prop} (hg : o.guard = none) (t : TypeId) (x : Operand) (ho : o.op = .box t x)
    (cs : Array Value) (hx : a.eval x = .agg cs) (h : wpList Tryd.prog ops Q rest (a.put o.dst (.pointer (some ⟨w.heap.size, 0, none⟩))) (w.alloc (.cells cs t))) : wpList Tryd.prog ops Q (o :: rest) a w :=
  wpList_plain hg fun _ hK => by
    have h' := hK _ _ h
    unfold Oper.wp execOp
    simp only [ho, hx, Instr.box, newVar, Sem.run_bind, Sem.run_pure, Value.cells]
    simpa [go_sem] using h'

/-- A digest in memory. -/
def Dig (w : World) (B : Nat) (d : List UInt8) : Prop := w.heap[B]? = some (.cells (byts d) 24 (0, 0)) ∧ d.length = 32
theorem Dig.kept {w w' : World} {B n : Nat} {d : List UInt8} (h : Dig w B d) (hb : Below n w w') (hB : B < n) : Dig w' B d := ⟨(hb.block B hB).trans h.1, h.2⟩
theorem Dig.lt {w : World} {B : Nat} {d : List UInt8} (h : Dig w B d) : B < w.heap.size := (Array.getElem?_eq_some_iff.1 h.1).1
theorem Dig.new (w : World) {d : List UInt8} (h : d.length = 32) : Dig (w.alloc (.cells (byts d) 24)) w.heap.size d := ⟨heap_alloc_new w _, h⟩
theorem Dig.alloc {w : World} {B : Nat} {d : List UInt8} (h : Dig w B d) (o : Obj) : Dig (w.alloc o) B d := ⟨(Below.heap_alloc _ _ _ h.lt).trans h.1, h.2⟩
theorem Dig.set {w : World} {B : Nat} {d : List UInt8} (h : Dig w B d) {e : List UInt8} (he : e.length = 32) : Dig (w.setRow B (byts e)) B e := ⟨setRow_heap w B _ _ _ _ h.1, he⟩
theorem Dig.other {w : World} {B C : Nat} {d : List UInt8} (h : Dig w B d) (hn : B ≠ C) (cs : Array Value) : Dig (w.setRow C cs) B d := ⟨(setRow_other w C B cs hn).trans h.1, h.2⟩
theorem below_setRow {n C : Nat} {w w' : World} (h : Below n w w') (hC : n ≤ C) (cs : Array Value) : Below n w (w'.setRow C cs) :=
  ⟨h.os, h.tape, h.output, by rw [setRow_size]; exact h.size, fun k hk => (setRow_other _ _ _ _ (by omega)).trans (h.block k hk)⟩
theorem byts_size32 {d : List UInt8} (h : d.length = 32) : (Tryd.prog.info? 24).map (·.size) = some (byts d).size := by rw [byts_size, h]; kernel_rfl
theorem Dig.bytes {w : World} {B : Nat} {d : List UInt8} (h : Dig w B d) : BytesAt w (some ⟨B, 0, none⟩) d := BytesAt.row h.1
/-- Thirty-two zeros. -/
def zero32 : List UInt8 := H.outn H.init 0
theorem zero32_len : zero32.length = 32 := H.outn_len _ 0
/-- A result of type Digest in its cell. -/
theorem wpl_cell {ops : Array Oper} {rest : List Oper} {o : Oper} {a : Act} {w : World} {Q : Exit → Act → World → Prop} (hg : o.guard = none) (ho : o.op = .alloc 24)
    (h : wpList Tryd.prog ops Q rest (a.put o.dst (.pointer (some ⟨w.heap.size, 0, none⟩))) (w.alloc (.cells (byts zero32) 24))) : wpList Tryd.prog ops Q (o :: rest) a w :=
  wpl_alloc_row hg 24 ho (byts zero32) (fun _ => by kernel_rfl) h
/-- A whole digest stored. -/
theorem wpl_put {ops : Array Oper} {rest : List Oper} {o : Oper} {a : Act} {w : World} {Q : Exit → Act → World → Prop} (hg : o.guard = none) (x y : Operand) (ho : o.op = .store 24 x y)
    (B : Nat) (d e : List UInt8) (hx : a.eval x = .pointer (some ⟨B, 0, none⟩)) (hy : a.eval y = .agg (byts e)) (hd : Dig w B d) (he : e.length = 32)
    (h : wpList Tryd.prog ops Q rest (a.put o.dst undef) (w.setRow B (byts e))) : wpList Tryd.prog ops Q (o :: rest) a w :=
  wpList_store_row hg 24 x y ho B (byts e) hx hy 24 _ hd.1 (byts_size32 he) (by rw [byts_size, byts_size, hd.2, he]) (byts_one _) h
/-- A whole digest loaded. -/
theorem wpl_get {ops : Array Oper} {rest : List Oper} {o : Oper} {a : Act} {w : World} {Q : Exit → Act → World → Prop} (hg : o.guard = none) (x : Operand) (ho : o.op = .load 24 x)
    (B : Nat) (d : List UInt8) (hx : a.eval x = .pointer (some ⟨B, 0, none⟩)) (hd : Dig w B d)
    (h : wpList Tryd.prog ops Q rest (a.put o.dst (.agg (byts d))) w) : wpList Tryd.prog ops Q (o :: rest) a w :=
  wpList_load_row hg 24 x ho B hx _ _ _ _ hd.1 Tryd.underlying24 rfl (byts_size32 hd.2) h
theorem run_put {w : World} {B : Nat} {d e : List UInt8} (hd : Dig w B d) (he : e.length = 32) : (storeCells ⟨B, 0, none⟩ (byts e).toList 0).run Tryd.prog w = .ok () (w.setRow B (byts e)) := by
  have h := run_storeVar_row (P := Tryd.prog) w B 24 24 _ (byts e) hd.1 (byts_size32 he) (by rw [byts_size, byts_size, hd.2, he]) (byts_one _)
  have h32 := byts_size32 he
  cases hq : Tryd.prog.info? 24 with
  | none => rw [hq] at h32; simp at h32
  | some i =>
    have hs : i.size = (byts e).size := by rw [hq] at h32; simpa using h32
    simpa [storeVar, Sem.run_bind, sizeOf, typeInfo, hq, hs, Value.cells] using h
theorem run_get {w : World} {B : Nat} {d : List UInt8} (hd : Dig w B d) : (loadCellsFrom ⟨B, 0, none⟩ 0 32 #[]).run Tryd.prog w = .ok (byts d) w := by
  have h := run_loadCells_list (P := Tryd.prog) w ⟨B, 0, none⟩ (byts d).toList (fun j v hv => by
    have hadd : (⟨B, 0, none⟩ : Addr).add j = ⟨B, j, none⟩ := by unfold Addr.add; split <;> simp_all
    rw [hadd, cell_of_row _ _ j _ _ _ hd.1]
    simpa using hv)
  have hl : (byts d).toList.length = 32 := by rw [Array.length_toList, byts_size, hd.2]
  rw [hl] at h
  simpa [loadCells] using h
theorem ret_dig {fn : Func} {p : Tmp} (h : fn.results = #[.cell p 24]) (tmps : Array Value) (w : World) (B : Nat) (d : List UInt8) (hp : tmps.getD p undef = .pointer (some ⟨B, 0, none⟩)) (hd : Dig w B d) :
    (results fn tmps).run Tryd.prog w = .ok (.agg (byts d)) w :=
  results_cell_row h tmps w B _ _ _ _ hp hd.1 Tryd.underlying24 rfl (byts_size32 hd.2)

set_option maxRecDepth 100000 in
set_option maxHeartbeats 1000000 in
theorem leaf_any (d : List UInt8) (w : World) (hK : KT w) (hd : d.length = 32) :
    Calls Tryd.prog 19 #[.agg (byts d)] w fun e w' => e = .returned (.agg (byts (H.leaf d))) ∧ Below w.heap.size w w' := by
  have HK := Lib.hid hK; have HDL := Lib.hid hd
  clear hK hd
  go_enter Tryd.func19, Tryd.ntmps19
  go_step
  go_step
  refine wp_region_list ?_
  refine wpl_box rfl 24 _ rfl (byts d) rfl ?_
  refine wpl_cell rfl rfl ?_
  refine wpList_nil ?_
  rename_i K1 hK1
  refine hK1 _ _ ?_
  clear hK1
  go_simp
  have HW : Hid (Below w.heap.size w ((w.alloc (.cells (byts d) 24)).alloc (.cells (byts zero32) 24)) ∧ Dig ((w.alloc (.cells (byts d) 24)).alloc (.cells (byts zero32) 24)) w.heap.size d ∧ Dig ((w.alloc (.cells (byts d) 24)).alloc (.cells (byts zero32) 24)) (w.heap.size + 1) zero32) :=
    Lib.hid ⟨((Below.refl _ _).alloc (Nat.le_refl _) _).alloc (by simp) _, (Dig.new w HDL.out).alloc _, by have := Dig.new (w.alloc (.cells (byts d) 24)) zero32_len; rwa [World.size_alloc] at this⟩
  generalize (w.alloc (.cells (byts d) 24)).alloc (.cells (byts zero32) 24) = W1 at HW ⊢
  have HT := Lib.hid (tagged_any ⟨#[108, 101, 97, 102]⟩ (some ⟨w.heap.size, 0, none⟩) 32 32 d W1 (HK.out.kept HW.out.1 HK.out.pos) (by decide) HDL.out (by decide) HW.out.2.1.bytes)
  have harr := array_all w.heap.size
  go_wp2_with fail
  refine HT.out.mono ?_
  rintro e w4 ⟨rfl, hb⟩
  rename_i K9 hK9
  refine hK9 _ _ ?_
  clear hK9
  have hd2 := HW.out.2.2.kept hb HW.out.2.2.lt
  have hbw := HW.out.1.trans (hb.mono HW.out.1.size)
  refine wpl_put rfl _ _ rfl (w.heap.size + 1) _ (H.leaf d) rfl rfl hd2 (H.tagged_len _ _) ?_
  refine wpList_nil ?_
  have HZ := Lib.hid (And.intro (hd2.set (H.tagged_len H.sLeaf d)) (below_setRow (C := w.heap.size + 1) hbw (by omega) (byts (H.tagged H.sLeaf d))))
  go_wp2_with fail
  refine bodyPost_ret (v := .agg (byts (H.leaf d))) ?_ rfl ⟨rfl, HZ.out.2⟩
  exact ret_dig Tryd.results19 _ _ (w.heap.size + 1) _ rfl HZ.out.1

set_option maxRecDepth 100000 in
set_option maxHeartbeats 1000000 in
theorem pair_any (tag : ByteArray) (a b : List UInt8) (w : World) (hK : KT w) (ht : tag.size ≤ 1000) (ha : a.length = 32) (hb : b.length = 32) :
    Calls Tryd.prog 31 #[.string tag, .agg (byts a), .agg (byts b)] w fun e w' => e = .returned (.agg (byts (H.tagged tag.data.toList (a ++ b)))) ∧ Below w.heap.size w w' := by
  have HK := Lib.hid hK; have HA := Lib.hid ha; have HB := Lib.hid hb
  clear hK ha hb
  obtain ⟨r, hr⟩ : ∃ r, H.tagged tag.data.toList (a ++ b) = r := ⟨_, rfl⟩
  have hrl : r.length = 32 := by rw [← hr]; exact H.tagged_len _ _
  rw [hr]
  have HR := Lib.hid hr; have HRL := Lib.hid hrl
  clear hr hrl
  go_enter Tryd.func31, Tryd.ntmps31
  go_step
  go_step
  refine wp_region_list ?_
  refine wpl_box rfl 24 _ rfl (byts a) rfl ?_
  refine wpl_box rfl 24 _ rfl (byts b) rfl ?_
  refine wpl_cell rfl rfl ?_
  refine wpList_nil ?_
  rename_i K1 hK1
  refine hK1 _ _ ?_
  clear hK1
  go_simp
  have HW : Hid (Below w.heap.size w (((w.alloc (.cells (byts a) 24)).alloc (.cells (byts b) 24)).alloc (.cells (byts zero32) 24)) ∧ Dig (((w.alloc (.cells (byts a) 24)).alloc (.cells (byts b) 24)).alloc (.cells (byts zero32) 24)) w.heap.size a ∧
      Dig (((w.alloc (.cells (byts a) 24)).alloc (.cells (byts b) 24)).alloc (.cells (byts zero32) 24)) (w.heap.size + 1) b ∧ Dig (((w.alloc (.cells (byts a) 24)).alloc (.cells (byts b) 24)).alloc (.cells (byts zero32) 24)) (w.heap.size + 1 + 1) zero32) := Lib.hid (by
    have n1 := Dig.new (w.alloc (.cells (byts a) 24)) HB.out
    have n2 := Dig.new ((w.alloc (.cells (byts a) 24)).alloc (.cells (byts b) 24)) zero32_len
    rw [World.size_alloc] at n1
    rw [World.size_alloc, World.size_alloc] at n2
    exact ⟨(((Below.refl _ _).alloc (Nat.le_refl _) _).alloc (by simp) _).alloc (by simp; omega) _, ((Dig.new w HA.out).alloc _).alloc _, n1.alloc _, n2⟩)
  generalize ((w.alloc (.cells (byts a) 24)).alloc (.cells (byts b) 24)).alloc (.cells (byts zero32) 24) = W1 at HW ⊢
  have hr1 := array_all w.heap.size
  have hr2 := array_all (w.heap.size + 1)
  go_wp2_with fail
  have HX : Hid (Calls Tryd.prog 30 #[.slice (some ⟨W1.heap.size, 0, none⟩) 2 2] (W1.alloc (.cells #[.slice (some ⟨w.heap.size, 0, none⟩) 32 32, .slice (some ⟨w.heap.size + 1, 0, none⟩) 32 32] 22)).drew fun e w' =>
      ∃ A' c', e = .returned (.slice A' 64 c') ∧ Hid (Calls Tryd.prog 15 #[.string tag, .slice A' 64 c'] w' fun e w4 => e = .returned (.agg (byts r)) ∧ Below W1.heap.size W1 w4)) := Lib.hid (by
    refine (concat2_any (some ⟨w.heap.size, 0, none⟩) (some ⟨w.heap.size + 1, 0, none⟩) 32 32 32 32 a b W1.drew HW.out.2.1.bytes HW.out.2.2.1.bytes HA.out HB.out (by decide)).mono ?_
    rintro e w' ⟨A', c', rfl, hc, hby, hbw⟩
    have hbw' : Below W1.heap.size W1 w' := ⟨hbw.os, hbw.tape, hbw.output, hbw.size, hbw.block⟩
    refine ⟨A', c', rfl, Lib.hid ?_⟩
    refine (tagged_any tag A' 64 c' (a ++ b) w' (HK.out.kept (HW.out.1.trans (hbw'.mono HW.out.1.size)) HK.out.pos) (by omega) (by rw [List.length_append, HA.out, HB.out]) (by decide) hby).mono ?_
    rintro e w4 ⟨rfl, hb4⟩
    exact ⟨by rw [HR.out], hbw'.trans (hb4.mono hbw'.size)⟩)
  refine Code.wp_mono onlyN ?_
  go_region_with (first
    | (go_at_call 30; (with_reducible refine HX.out.mono ?_); rintro e w3 ⟨A', c', rfl, HT⟩)
    | (go_at_call 15; (with_reducible refine HT.out.mono ?_); rintro e w4 ⟨rfl, hb4⟩; have hd4 := HW.out.2.2.2.kept hb4 HW.out.2.2.2.lt; have hput := run_put hd4 HRL.out; have hsz : (byts r).size = 32 := (by rw [byts_size, HRL.out]); have HZ := Lib.hid (And.intro hb4 hd4); clear hb4 hd4))
  have hZ2 := (HZ.out.2.set HRL.out)
  have hZ1 : Below w.heap.size w (w4.setRow (w.heap.size + 1 + 1) (byts r)) := below_setRow (HW.out.1.trans (HZ.out.1.mono HW.out.1.size)) (by omega) _
  clear hput hsz hr1 hr2
  simp only [OnlyN]
  have HF := Lib.hid (And.intro hZ1 hZ2)
  clear hZ1 hZ2
  go_wp2_with fail
  refine bodyPost_ret (v := .agg (byts r)) ?_ rfl ⟨rfl, HF.out.1⟩
  exact ret_dig Tryd.results31 _ _ (w.heap.size + 1 + 1) _ rfl HF.out.2

/-- Three boxes: two digests and a result. -/
theorem boxes2 (w : World) {a b : List UInt8} (ha : a.length = 32) (hb : b.length = 32) :
    Below w.heap.size w (((w.alloc (.cells (byts a) 24)).alloc (.cells (byts b) 24)).alloc (.cells (byts zero32) 24)) ∧ Dig (((w.alloc (.cells (byts a) 24)).alloc (.cells (byts b) 24)).alloc (.cells (byts zero32) 24)) w.heap.size a ∧
      Dig (((w.alloc (.cells (byts a) 24)).alloc (.cells (byts b) 24)).alloc (.cells (byts zero32) 24)) (w.heap.size + 1) b ∧ Dig (((w.alloc (.cells (byts a) 24)).alloc (.cells (byts b) 24)).alloc (.cells (byts zero32) 24)) (w.heap.size + 1 + 1) zero32 := by
  have n1 := Dig.new (w.alloc (.cells (byts a) 24)) hb
  have n2 := Dig.new ((w.alloc (.cells (byts a) 24)).alloc (.cells (byts b) 24)) zero32_len
  rw [World.size_alloc] at n1
  rw [World.size_alloc, World.size_alloc] at n2
  exact ⟨(((Below.refl _ _).alloc (Nat.le_refl _) _).alloc (by simp) _).alloc (by simp; omega) _, ((Dig.new w ha).alloc _).alloc _, n1.alloc _, n2⟩

set_option maxRecDepth 100000 in
set_option maxHeartbeats 1000000 in
theorem node_any (a b : List UInt8) (w : World) (hK : KT w) (ha : a.length = 32) (hb : b.length = 32) :
    Calls Tryd.prog 21 #[.agg (byts a), .agg (byts b)] w fun e w' => e = .returned (.agg (byts (H.node a b))) ∧ Below w.heap.size w w' := by
  have HK := Lib.hid hK; have HA := Lib.hid ha; have HB := Lib.hid hb
  clear hK ha hb
  obtain ⟨r, hr⟩ : ∃ r, H.node a b = r := ⟨_, rfl⟩
  have hrl : r.length = 32 := by rw [← hr]; exact H.tagged_len _ _
  rw [hr]
  have HR := Lib.hid hr; have HRL := Lib.hid hrl
  clear hr hrl
  go_enter Tryd.func21, Tryd.ntmps21
  go_step
  go_step
  refine wp_region_list ?_
  refine wpl_box rfl 24 _ rfl (byts a) rfl ?_
  refine wpl_box rfl 24 _ rfl (byts b) rfl ?_
  refine wpl_cell rfl rfl ?_
  refine wpList_nil ?_
  rename_i K1 hK1
  refine hK1 _ _ ?_
  clear hK1
  have HW := Lib.hid (boxes2 w HA.out HB.out)
  go_simp
  generalize ((w.alloc (.cells (byts a) 24)).alloc (.cells (byts b) 24)).alloc (.cells (byts zero32) 24) = W1 at HW ⊢
  have HP := Lib.hid (pair_any ⟨#[110, 111, 100, 101]⟩ a b W1 (HK.out.kept HW.out.1 HK.out.pos) (by decide) HA.out HB.out)
  go_step
  refine wp_region_list ?_
  refine wpl_get rfl _ rfl w.heap.size a rfl HW.out.2.1 ?_
  refine wpl_get rfl _ rfl (w.heap.size + 1) b rfl HW.out.2.2.1 ?_
  go_simp
  go_wp2_with fail
  refine HP.out.mono ?_
  rintro e w4 ⟨rfl, hb4⟩
  rename_i K9 hK9
  refine hK9 _ _ ?_
  clear hK9
  have hd4 := HW.out.2.2.2.kept hb4 HW.out.2.2.2.lt
  refine wpl_put rfl _ _ rfl (w.heap.size + 1 + 1) _ r rfl (by rw [← HR.out]; rfl) hd4 HRL.out ?_
  refine wpList_nil ?_
  have HF := Lib.hid (And.intro (below_setRow (C := w.heap.size + 1 + 1) (HW.out.1.trans (hb4.mono HW.out.1.size)) (by omega) (byts r)) (hd4.set HRL.out))
  clear hd4 hb4
  go_wp2_with fail
  refine bodyPost_ret (v := .agg (byts r)) ?_ rfl ⟨rfl, HF.out.1⟩
  exact ret_dig Tryd.results21 _ _ (w.heap.size + 1 + 1) _ rfl HF.out.2

set_option maxRecDepth 100000 in
set_option maxHeartbeats 1000000 in
theorem chain_any (a b : List UInt8) (w : World) (hK : KT w) (ha : a.length = 32) (hb : b.length = 32) :
    Calls Tryd.prog 16 #[.agg (byts a), .agg (byts b)] w fun e w' => e = .returned (.agg (byts (H.chain a b))) ∧ Below w.heap.size w w' := by
  have HK := Lib.hid hK; have HA := Lib.hid ha; have HB := Lib.hid hb
  clear hK ha hb
  obtain ⟨r, hr⟩ : ∃ r, H.chain a b = r := ⟨_, rfl⟩
  have hrl : r.length = 32 := by rw [← hr]; exact H.tagged_len _ _
  rw [hr]
  have HR := Lib.hid hr; have HRL := Lib.hid hrl
  clear hr hrl
  go_enter Tryd.func16, Tryd.ntmps16
  go_step
  go_step
  refine wp_region_list ?_
  refine wpl_box rfl 24 _ rfl (byts a) rfl ?_
  refine wpl_box rfl 24 _ rfl (byts b) rfl ?_
  refine wpl_cell rfl rfl ?_
  refine wpList_nil ?_
  rename_i K1 hK1
  refine hK1 _ _ ?_
  clear hK1
  have HW := Lib.hid (boxes2 w HA.out HB.out)
  go_simp
  generalize ((w.alloc (.cells (byts a) 24)).alloc (.cells (byts b) 24)).alloc (.cells (byts zero32) 24) = W1 at HW ⊢
  have HP := Lib.hid (pair_any ⟨#[99, 104, 97, 105, 110]⟩ a b W1 (HK.out.kept HW.out.1 HK.out.pos) (by decide) HA.out HB.out)
  go_step
  refine wp_region_list ?_
  refine wpl_get rfl _ rfl w.heap.size a rfl HW.out.2.1 ?_
  refine wpl_get rfl _ rfl (w.heap.size + 1) b rfl HW.out.2.2.1 ?_
  go_simp
  go_wp2_with fail
  refine HP.out.mono ?_
  rintro e w4 ⟨rfl, hb4⟩
  rename_i K9 hK9
  refine hK9 _ _ ?_
  clear hK9
  have hd4 := HW.out.2.2.2.kept hb4 HW.out.2.2.2.lt
  refine wpl_put rfl _ _ rfl (w.heap.size + 1 + 1) _ r rfl (by rw [← HR.out]; rfl) hd4 HRL.out ?_
  refine wpList_nil ?_
  have HF := Lib.hid (And.intro (below_setRow (C := w.heap.size + 1 + 1) (HW.out.1.trans (hb4.mono HW.out.1.size)) (by omega) (byts r)) (hd4.set HRL.out))
  clear hd4 hb4
  go_wp2_with fail
  refine bodyPost_ret (v := .agg (byts r)) ?_ rfl ⟨rfl, HF.out.1⟩
  exact ret_dig Tryd.results16 _ _ (w.heap.size + 1 + 1) _ rfl HF.out.2

end Go.Proofs.YthamligdmfhmeaaDoor
