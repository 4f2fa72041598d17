/- Contract of the reference's climb. -/
import Derived.Test.YthamligdmfhmeaaDoorRLength
import Derived.Test.YthamligdmfhmeaaDoorRTree
import Derived.Test.YthamligdmfhmeaaDoorClimb
import Derived.Test.YthamligdmfhmeaaDoorOps
namespace Go.Proofs.YthamligdmfhmeaaDoor
open Go.RowKit

def valOf (L : List Value) (i : Nat) (v : Value) (_ : World) : Prop := L[i]? = some v
def noNew (_ : Nat) (_ : Value) (_ : World) : Prop := True
def noPair (_ _ : Nat) (_ _ : Value) : Prop := True
theorem valOf_eq {L : List Value} {i : Nat} {v u : Value} {w : World} (h : valOf L i v w) (hu : L[i]? = some u) : v = u := by
  rw [valOf, hu] at h
  exact (Option.some.inj h).symm

set_option maxRecDepth 100000 in
set_option maxHeartbeats 4000000 in
theorem rclimb_left (d : List UInt8) (at_ n : Nat) (a : Option Addr) (p q cap : Nat) (hq : p + 1 = q) (ds : List (List UInt8)) (x r : List UInt8) (w : World) (hd : d.length = 32) (hr : r.length = 32) (hp : ds.length = p) (hpc : q ≤ cap) (h2 : 2 ≤ n) (hl : n ≤ 1099511627776) (hk1 : at_ < H.split n) (hpl : p ≤ 1099511627776) (hda : DigsAt w a (ds ++ [x]))
    (ih : ∀ W, Below w.heap.size w W → Calls Tryd.prog 29 #[.agg (byts d), .int .i64 at_, .int .i64 (H.split n : Nat), .slice a p cap] W fun e w' => e = .returned (.agg (byts r)) ∧ Below W.heap.size W w') :
    Calls Tryd.prog 29 #[.agg (byts d), .int .i64 at_, .int .i64 n, .slice a q cap] w fun e w' => e = .returned (.agg (byts (H.node r x))) ∧ Below w.heap.size w w' := by
  have hxl : x.length = 32 := hda.1 x (by simp)
  have HS := Lib.hid (fun W => rhalf_any n W h2 hl)
  obtain ⟨hb1, hs1, hs2⟩ := H.split_bounds h2 hl
  have IH := Lib.hid ih
  clear ih
  obtain ⟨k, hk⟩ : ∃ k, H.split n = k := ⟨_, rfl⟩
  rw [hk] at HS hk1 IH hs1 hs2
  obtain ⟨t, ht⟩ : ∃ t, H.node r x = t := ⟨_, rfl⟩
  have htl : t.length = 32 := by rw [← ht]; exact H.node_len _ _
  rw [ht]
  obtain ⟨b, off, ha, hbl, hcx⟩ := hda.elem (i := p) (by simp [hp])
  have hx0 : (ds ++ [x])[p]'(by simp [hp]) = x := by
    rw [List.getElem_append_right (by omega)]; simp [hp]
  rw [hx0] at hcx
  subst ha
  have HT := Lib.hid ht; have HTL := Lib.hid htl; have HRL := Lib.hid hr; have HXL := Lib.hid hxl; have HDA := Lib.hid hda; have HDL := Lib.hid hd; have HP := Lib.hid hp; have HCX := Lib.hid (And.intro hbl hcx)
  clear ht htl hr hxl hda hd hp hk hb1 hs1 hs2 hx0 hcx
  have hhead := digs_head (some ⟨b, off, none⟩) q cap p (by omega) hpc
  have hne : ((n : Int) == 1) = false := by simp; omega
  have hq1 : (q : Int) - 1 = (p : Int) := by omega
  have hwp : IntKind.i64.wrap (p : Int) = (p : Int) := by rw [IntKind.wrap_i64]; omega
  have hq2 : decide ((at_ : Int) < (k : Int)) = true := by rw [decide_eq_true_iff]; omega
  have hq3 : decide (at_ < k) = true := decide_eq_true hk1
  go_enter Tryd.func29, Tryd.ntmps29
  go_step
  go_step
  refine wp_region_list ?_
  refine wpl_box rfl 24 _ rfl (byts d) rfl ?_
  refine wpl_cell rfl rfl ?_
  refine wpList_nil ?_
  rename_i K1 hK1
  refine hK1 _ _ ?_
  clear hK1
  have HW := Lib.hid (boxes1 w HDL.out)
  go_simp
  generalize (w.alloc (.cells (byts d) 24)).alloc (.cells (byts zero32) 24) = W1 at HW ⊢
  go_upto_region 4 with (go_at_call 23; (with_reducible refine (HS.out _).mono ?_); rintro e w' ⟨rfl, rfl⟩)
  refine wp_region_list ?_
  iterate 14 go_step
  refine wpl_elem rfl _ rfl b (off + p * 32) x rfl HXL.out (fun j hj => by
    rw [HW.out.1.cell (p := ⟨b, off + p * 32 + j, none⟩) HCX.out.1, Nat.mul_comm p 32]; exact HCX.out.2 j hj) ?_
  refine wpl_cell rfl rfl ?_
  refine wpl_put rfl _ _ rfl W1.heap.size zero32 x rfl rfl (Dig.new W1 zero32_len) HXL.out ?_
  refine wpList_nil ?_
  have hlt1 := HW.out.2.1.lt
  have hlt2 := HW.out.2.2.lt
  have HA : Below W1.heap.size W1 ((W1.alloc (.cells (byts zero32) 24)).setRow W1.heap.size (byts x)) := below_setRow ((Below.refl _ _).alloc (Nat.le_refl _) _) (Nat.le_refl _) _
  have HW2 : Hid (Below w.heap.size w ((W1.alloc (.cells (byts zero32) 24)).setRow W1.heap.size (byts x)) ∧ Dig ((W1.alloc (.cells (byts zero32) 24)).setRow W1.heap.size (byts x)) w.heap.size d ∧ Dig ((W1.alloc (.cells (byts zero32) 24)).setRow W1.heap.size (byts x)) (w.heap.size + 1) zero32 ∧ Dig ((W1.alloc (.cells (byts zero32) 24)).setRow W1.heap.size (byts x)) W1.heap.size x) := Lib.hid
    ⟨HW.out.1.trans (HA.mono HW.out.1.size), HW.out.2.1.kept HA hlt1, HW.out.2.2.kept HA hlt2, (Dig.new W1 zero32_len).set HXL.out⟩
  clear HA hlt1 hlt2
  rename_i K2 hK2
  refine hK2 _ _ ?_
  clear hK2
  go_simp
  generalize (W1.alloc (.cells (byts zero32) 24)).setRow W1.heap.size (byts x) = W2 at HW2 ⊢
  generalize W1.heap.size = g at HW2 ⊢
  clear HW HCX HDA
  go_upto_region 6 with (fail)
  have HB2 : Hid (∀ V, Below W2.drew.heap.size W2.drew V → Below W2.heap.size W2 V) := Lib.hid (fun V hV => (Below.refl _ _).drew.trans (hV.mono (Nat.le_refl _)))
  refine wp_region_specs (by kernel_rfl) 11 1 rfl (by kernel_rfl) (by kernel_rfl) (by kernel_rfl) (by decide) (by kernel_rfl) (valOf [.agg (byts d), .int .i64 ((at_ : Nat) : Int), .int .i64 ((k : Nat) : Int), .slice (some ⟨b, off, none⟩) q cap, .slice (some ⟨b, off, none⟩) q cap, .int .i64 ((q : Nat) : Int), .int .i64 ((p : Nat) : Int), .slice (some ⟨b, off, none⟩) p cap, .agg (byts r), .agg (byts x), .agg (byts t)]) (fun w w' => Below w.heap.size w w') noNew noPair (fun _ _ _ _ _ _ _ _ _ _ => ⟨trivial, trivial⟩) (Below.refl _ _) (fun h k => h.trans (k.mono h.size)) (fun _ _ _ _ _ h _ => h) ?hs ?ht
  case hs =>
    rintro i' o hi' ho a' w' hG hext hdep K hK
    have hW' := HB2.out w' hG
    rcases (show i' = 0 ∨ i' = 1 ∨ i' = 2 ∨ i' = 3 ∨ i' = 4 ∨ i' = 5 ∨ i' = 6 ∨ i' = 7 ∨ i' = 8 ∨ i' = 9 ∨ i' = 10 by omega) with rfl | rfl | rfl | rfl | rfl | rfl | rfl | rfl | rfl | rfl | rfl
    · cases ho
      have e4 : a'.eval (.tmp 4) = .pointer (some ⟨w.heap.size, 0, none⟩) := hext 4 (by kernel_rfl)
      exact op_get rfl _ rfl (w.heap.size) d e4 (HW2.out.2.1.kept hW' HW2.out.2.1.lt) (hK _ _ rfl (Below.refl _ _) trivial)
    · cases ho
      have e1 : a'.eval (.tmp 1) = .int .i64 ((at_ : Nat) : Int) := hext 1 (by kernel_rfl)
      exact op_move rfl _ rfl e1 (hK _ _ rfl (Below.refl _ _) trivial)
    · cases ho
      have e9 : a'.eval (.tmp 9) = .int .i64 ((k : Nat) : Int) := hext 9 (by kernel_rfl)
      exact op_move rfl _ rfl e9 (hK _ _ rfl (Below.refl _ _) trivial)
    · cases ho
      have e3 : a'.eval (.tmp 3) = .slice (some ⟨b, off, none⟩) q cap := hext 3 (by kernel_rfl)
      exact op_move rfl _ rfl e3 (hK _ _ rfl (Below.refl _ _) trivial)
    · cases ho
      have e3 : a'.eval (.tmp 3) = .slice (some ⟨b, off, none⟩) q cap := hext 3 (by kernel_rfl)
      exact op_move rfl _ rfl e3 (hK _ _ rfl (Below.refl _ _) trivial)
    · cases ho
      have e30 : a'.eval (.tmp 30) = .slice (some ⟨b, off, none⟩) q cap := valOf_eq (hdep 4 30 (by kernel_rfl) rfl) rfl
      exact op_len rfl _ rfl e30 (hK _ _ rfl (Below.refl _ _) trivial)
    · cases ho
      have e31 : a'.eval (.tmp 31) = .int .i64 ((q : Nat) : Int) := valOf_eq (hdep 5 31 (by kernel_rfl) rfl) rfl
      exact op_sub rfl _ _ rfl e31 rfl (by rw [IntKind.wrap_i64]; omega) (hK _ _ rfl (Below.refl _ _) trivial)
    · cases ho
      have e29 : a'.eval (.tmp 29) = .slice (some ⟨b, off, none⟩) q cap := valOf_eq (hdep 3 29 (by kernel_rfl) rfl) rfl
      have e32 : a'.eval (.tmp 32) = .int .i64 ((p : Nat) : Int) := valOf_eq (hdep 6 32 (by kernel_rfl) rfl) rfl
      exact op_head rfl _ _ rfl e29 e32 (by omega) hpc (hK _ _ rfl (Below.refl _ _) trivial)
    · cases ho
      have e26 : a'.eval (.tmp 26) = .agg (byts d) := valOf_eq (hdep 0 26 (by kernel_rfl) rfl) rfl
      have e27 : a'.eval (.tmp 27) = .int .i64 ((at_ : Nat) : Int) := valOf_eq (hdep 1 27 (by kernel_rfl) rfl) rfl
      have e28 : a'.eval (.tmp 28) = .int .i64 ((k : Nat) : Int) := valOf_eq (hdep 2 28 (by kernel_rfl) rfl) rfl
      have e33 : a'.eval (.tmp 33) = .slice (some ⟨b, off, none⟩) p cap := valOf_eq (hdep 7 33 (by kernel_rfl) rfl) rfl
      refine op_call rfl 29 #[.tmp 26, .tmp 27, .tmp 28, .tmp 33] _ rfl #[.agg (byts d), .int .i64 ((at_ : Nat) : Int), .int .i64 ((k : Nat) : Int), .slice (some ⟨b, off, none⟩) p cap] (by simp [e26, e27, e28, e33]) _ (enters_of Tryd.func29 (by kernel_rfl) rfl) (IH.out _ (HW2.out.1.trans (hW'.mono HW2.out.1.size))) ?_
      rintro e v ⟨rfl, hb⟩
      exact ⟨_, rfl, hK _ _ rfl hb trivial⟩
    · cases ho
      have e10 : a'.eval (.tmp 10) = .pointer (some ⟨g, 0, none⟩) := hext 10 (by kernel_rfl)
      exact op_get rfl _ rfl (g) x e10 (HW2.out.2.2.2.kept hW' HW2.out.2.2.2.lt) (hK _ _ rfl (Below.refl _ _) trivial)
    · cases ho
      have e34 : a'.eval (.tmp 34) = .agg (byts r) := valOf_eq (hdep 8 34 (by kernel_rfl) rfl) rfl
      have e35 : a'.eval (.tmp 35) = .agg (byts x) := valOf_eq (hdep 9 35 (by kernel_rfl) rfl) rfl
      refine op_call rfl 24 #[.tmp 34, .tmp 35] _ rfl #[.agg (byts r), .agg (byts x)] (by simp [e34, e35]) _ (enters_of Tryd.func24 (by kernel_rfl) rfl) (rnode_any r x _ HRL.out HXL.out) ?_
      rintro e v ⟨rfl, hb⟩
      exact ⟨_, rfl, hK _ _ (by rw [HT.out]; rfl) hb trivial⟩
  case ht =>
    intro vs w' hG hφ hψ
    have e : vs 10 = .agg (byts t) := valOf_eq (hφ 10 (by decide)) rfl
    have hW' := HB2.out w' hG
    have h8 := HW2.out.2.2.1.kept hW' HW2.out.2.2.1.lt
    simp only [putsOf, dstOf, List.getElem?_toArray, List.getElem?_cons_zero, List.getElem?_cons_succ, Option.bind_some, Act.put, List.setIfInBounds_toArray, List.set_cons_zero, List.set_cons_succ, List.drop_succ_cons, List.drop_zero]
    rw [e]
    refine wpl_put rfl _ _ rfl (w.heap.size + 1) zero32 t rfl rfl h8 HTL.out ?_
    refine wpList_nil ?_
    have HZ := Lib.hid (And.intro (below_setRow (C := w.heap.size + 1) (HW2.out.1.trans (hW'.mono HW2.out.1.size)) (by omega) (byts t)) (h8.set HTL.out))
    clear hW' h8 hφ hψ hG
    go_wp2_with fail
    refine bodyPost_ret (v := .agg (byts t)) ?_ rfl ⟨rfl, HZ.out.1⟩
    exact ret_dig Tryd.results29 _ _ (w.heap.size + 1) _ rfl HZ.out.2

set_option maxRecDepth 100000 in
set_option maxHeartbeats 4000000 in
theorem rclimb_right (d : List UInt8) (at_ n : Nat) (a : Option Addr) (p q cap : Nat) (hq : p + 1 = q) (ds : List (List UInt8)) (x r : List UInt8) (w : World) (hd : d.length = 32) (hr : r.length = 32) (hp : ds.length = p) (hpc : q ≤ cap) (h2 : 2 ≤ n) (hl : n ≤ 1099511627776) (hk1 : ¬ at_ < H.split n) (hat' : at_ < n) (hpl : p ≤ 1099511627776) (hda : DigsAt w a (ds ++ [x]))
    (ih : ∀ W, Below w.heap.size w W → Calls Tryd.prog 29 #[.agg (byts d), .int .i64 (at_ - H.split n : Nat), .int .i64 (n - H.split n : Nat), .slice a p cap] W fun e w' => e = .returned (.agg (byts r)) ∧ Below W.heap.size W w') :
    Calls Tryd.prog 29 #[.agg (byts d), .int .i64 at_, .int .i64 n, .slice a q cap] w fun e w' => e = .returned (.agg (byts (H.node x r))) ∧ Below w.heap.size w w' := by
  have hxl : x.length = 32 := hda.1 x (by simp)
  have HS := Lib.hid (fun W => rhalf_any n W h2 hl)
  obtain ⟨hb1, hs1, hs2⟩ := H.split_bounds h2 hl
  have IH := Lib.hid ih
  clear ih
  obtain ⟨k, hk⟩ : ∃ k, H.split n = k := ⟨_, rfl⟩
  rw [hk] at HS hk1 IH hs1 hs2
  obtain ⟨t, ht⟩ : ∃ t, H.node x r = t := ⟨_, rfl⟩
  have htl : t.length = 32 := by rw [← ht]; exact H.node_len _ _
  rw [ht]
  obtain ⟨b, off, ha, hbl, hcx⟩ := hda.elem (i := p) (by simp [hp])
  have hx0 : (ds ++ [x])[p]'(by simp [hp]) = x := by
    rw [List.getElem_append_right (by omega)]; simp [hp]
  rw [hx0] at hcx
  subst ha
  have HT := Lib.hid ht; have HTL := Lib.hid htl; have HRL := Lib.hid hr; have HXL := Lib.hid hxl; have HDA := Lib.hid hda; have HDL := Lib.hid hd; have HP := Lib.hid hp; have HCX := Lib.hid (And.intro hbl hcx)
  clear ht htl hr hxl hda hd hp hk hb1 hs1 hs2 hx0 hcx
  have hhead := digs_head (some ⟨b, off, none⟩) q cap p (by omega) hpc
  have hne : ((n : Int) == 1) = false := by simp; omega
  have hq1 : (q : Int) - 1 = (p : Int) := by omega
  have hwp : IntKind.i64.wrap (p : Int) = (p : Int) := by rw [IntKind.wrap_i64]; omega
  have hq2 : decide ((at_ : Int) < (k : Int)) = false := by rw [decide_eq_false_iff_not]; omega
  have hq3 : decide (at_ < k) = false := decide_eq_false hk1
  go_enter Tryd.func29, Tryd.ntmps29
  go_step
  go_step
  refine wp_region_list ?_
  refine wpl_box rfl 24 _ rfl (byts d) rfl ?_
  refine wpl_cell rfl rfl ?_
  refine wpList_nil ?_
  rename_i K1 hK1
  refine hK1 _ _ ?_
  clear hK1
  have HW := Lib.hid (boxes1 w HDL.out)
  go_simp
  generalize (w.alloc (.cells (byts d) 24)).alloc (.cells (byts zero32) 24) = W1 at HW ⊢
  go_upto_region 4 with (go_at_call 23; (with_reducible refine (HS.out _).mono ?_); rintro e w' ⟨rfl, rfl⟩)
  refine wp_region_list ?_
  iterate 14 go_step
  refine wpl_elem rfl _ rfl b (off + p * 32) x rfl HXL.out (fun j hj => by
    rw [HW.out.1.cell (p := ⟨b, off + p * 32 + j, none⟩) HCX.out.1, Nat.mul_comm p 32]; exact HCX.out.2 j hj) ?_
  refine wpl_cell rfl rfl ?_
  refine wpl_put rfl _ _ rfl W1.heap.size zero32 x rfl rfl (Dig.new W1 zero32_len) HXL.out ?_
  refine wpList_nil ?_
  have hlt1 := HW.out.2.1.lt
  have hlt2 := HW.out.2.2.lt
  have HA : Below W1.heap.size W1 ((W1.alloc (.cells (byts zero32) 24)).setRow W1.heap.size (byts x)) := below_setRow ((Below.refl _ _).alloc (Nat.le_refl _) _) (Nat.le_refl _) _
  have HW2 : Hid (Below w.heap.size w ((W1.alloc (.cells (byts zero32) 24)).setRow W1.heap.size (byts x)) ∧ Dig ((W1.alloc (.cells (byts zero32) 24)).setRow W1.heap.size (byts x)) w.heap.size d ∧ Dig ((W1.alloc (.cells (byts zero32) 24)).setRow W1.heap.size (byts x)) (w.heap.size + 1) zero32 ∧ Dig ((W1.alloc (.cells (byts zero32) 24)).setRow W1.heap.size (byts x)) W1.heap.size x) := Lib.hid
    ⟨HW.out.1.trans (HA.mono HW.out.1.size), HW.out.2.1.kept HA hlt1, HW.out.2.2.kept HA hlt2, (Dig.new W1 zero32_len).set HXL.out⟩
  clear HA hlt1 hlt2
  rename_i K2 hK2
  refine hK2 _ _ ?_
  clear hK2
  go_simp
  generalize (W1.alloc (.cells (byts zero32) 24)).setRow W1.heap.size (byts x) = W2 at HW2 ⊢
  generalize W1.heap.size = g at HW2 ⊢
  clear HW HCX HDA
  go_upto_region 7 with (fail)
  have HB2 : Hid (∀ V, Below W2.drew.heap.size W2.drew V → Below W2.heap.size W2 V) := Lib.hid (fun V hV => (Below.refl _ _).drew.trans (hV.mono (Nat.le_refl _)))
  refine wp_region_specs (by kernel_rfl) 15 1 rfl (by kernel_rfl) (by kernel_rfl) (by kernel_rfl) (by decide) (by kernel_rfl) (valOf [.agg (byts x), .agg (byts d), .int .i64 ((at_ : Nat) : Int), .int .i64 ((k : Nat) : Int), .int .i64 ((at_ - k : Nat) : Int), .int .i64 ((n : Nat) : Int), .int .i64 ((k : Nat) : Int), .int .i64 ((n - k : Nat) : Int), .slice (some ⟨b, off, none⟩) q cap, .slice (some ⟨b, off, none⟩) q cap, .int .i64 ((q : Nat) : Int), .int .i64 ((p : Nat) : Int), .slice (some ⟨b, off, none⟩) p cap, .agg (byts r), .agg (byts t)]) (fun w w' => Below w.heap.size w w') noNew noPair (fun _ _ _ _ _ _ _ _ _ _ => ⟨trivial, trivial⟩) (Below.refl _ _) (fun h k => h.trans (k.mono h.size)) (fun _ _ _ _ _ h _ => h) ?hs ?ht
  case hs =>
    rintro i' o hi' ho a' w' hG hext hdep K hK
    have hW' := HB2.out w' hG
    rcases (show i' = 0 ∨ i' = 1 ∨ i' = 2 ∨ i' = 3 ∨ i' = 4 ∨ i' = 5 ∨ i' = 6 ∨ i' = 7 ∨ i' = 8 ∨ i' = 9 ∨ i' = 10 ∨ i' = 11 ∨ i' = 12 ∨ i' = 13 ∨ i' = 14 by omega) with rfl | rfl | rfl | rfl | rfl | rfl | rfl | rfl | rfl | rfl | rfl | rfl | rfl | rfl | rfl
    · cases ho
      have e10 : a'.eval (.tmp 10) = .pointer (some ⟨g, 0, none⟩) := hext 10 (by kernel_rfl)
      exact op_get rfl _ rfl (g) x e10 (HW2.out.2.2.2.kept hW' HW2.out.2.2.2.lt) (hK _ _ rfl (Below.refl _ _) trivial)
    · cases ho
      have e4 : a'.eval (.tmp 4) = .pointer (some ⟨w.heap.size, 0, none⟩) := hext 4 (by kernel_rfl)
      exact op_get rfl _ rfl (w.heap.size) d e4 (HW2.out.2.1.kept hW' HW2.out.2.1.lt) (hK _ _ rfl (Below.refl _ _) trivial)
    · cases ho
      have e1 : a'.eval (.tmp 1) = .int .i64 ((at_ : Nat) : Int) := hext 1 (by kernel_rfl)
      exact op_move rfl _ rfl e1 (hK _ _ rfl (Below.refl _ _) trivial)
    · cases ho
      have e9 : a'.eval (.tmp 9) = .int .i64 ((k : Nat) : Int) := hext 9 (by kernel_rfl)
      exact op_move rfl _ rfl e9 (hK _ _ rfl (Below.refl _ _) trivial)
    · cases ho
      have e39 : a'.eval (.tmp 39) = .int .i64 ((at_ : Nat) : Int) := valOf_eq (hdep 2 39 (by kernel_rfl) rfl) rfl
      have e40 : a'.eval (.tmp 40) = .int .i64 ((k : Nat) : Int) := valOf_eq (hdep 3 40 (by kernel_rfl) rfl) rfl
      exact op_sub rfl _ _ rfl e39 e40 (r := ((at_ - k : Nat) : Int)) (by rw [IntKind.wrap_i64]; omega) (hK _ _ rfl (Below.refl _ _) trivial)
    · cases ho
      have e2 : a'.eval (.tmp 2) = .int .i64 ((n : Nat) : Int) := hext 2 (by kernel_rfl)
      exact op_move rfl _ rfl e2 (hK _ _ rfl (Below.refl _ _) trivial)
    · cases ho
      have e9 : a'.eval (.tmp 9) = .int .i64 ((k : Nat) : Int) := hext 9 (by kernel_rfl)
      exact op_move rfl _ rfl e9 (hK _ _ rfl (Below.refl _ _) trivial)
    · cases ho
      have e42 : a'.eval (.tmp 42) = .int .i64 ((n : Nat) : Int) := valOf_eq (hdep 5 42 (by kernel_rfl) rfl) rfl
      have e43 : a'.eval (.tmp 43) = .int .i64 ((k : Nat) : Int) := valOf_eq (hdep 6 43 (by kernel_rfl) rfl) rfl
      exact op_sub rfl _ _ rfl e42 e43 (r := ((n - k : Nat) : Int)) (by rw [IntKind.wrap_i64]; omega) (hK _ _ rfl (Below.refl _ _) trivial)
    · cases ho
      have e3 : a'.eval (.tmp 3) = .slice (some ⟨b, off, none⟩) q cap := hext 3 (by kernel_rfl)
      exact op_move rfl _ rfl e3 (hK _ _ rfl (Below.refl _ _) trivial)
    · cases ho
      have e3 : a'.eval (.tmp 3) = .slice (some ⟨b, off, none⟩) q cap := hext 3 (by kernel_rfl)
      exact op_move rfl _ rfl e3 (hK _ _ rfl (Below.refl _ _) trivial)
    · cases ho
      have e46 : a'.eval (.tmp 46) = .slice (some ⟨b, off, none⟩) q cap := valOf_eq (hdep 9 46 (by kernel_rfl) rfl) rfl
      exact op_len rfl _ rfl e46 (hK _ _ rfl (Below.refl _ _) trivial)
    · cases ho
      have e47 : a'.eval (.tmp 47) = .int .i64 ((q : Nat) : Int) := valOf_eq (hdep 10 47 (by kernel_rfl) rfl) rfl
      exact op_sub rfl _ _ rfl e47 rfl (by rw [IntKind.wrap_i64]; omega) (hK _ _ rfl (Below.refl _ _) trivial)
    · cases ho
      have e45 : a'.eval (.tmp 45) = .slice (some ⟨b, off, none⟩) q cap := valOf_eq (hdep 8 45 (by kernel_rfl) rfl) rfl
      have e48 : a'.eval (.tmp 48) = .int .i64 ((p : Nat) : Int) := valOf_eq (hdep 11 48 (by kernel_rfl) rfl) rfl
      exact op_head rfl _ _ rfl e45 e48 (by omega) hpc (hK _ _ rfl (Below.refl _ _) trivial)
    · cases ho
      have e38 : a'.eval (.tmp 38) = .agg (byts d) := valOf_eq (hdep 1 38 (by kernel_rfl) rfl) rfl
      have e41 : a'.eval (.tmp 41) = .int .i64 ((at_ - k : Nat) : Int) := valOf_eq (hdep 4 41 (by kernel_rfl) rfl) rfl
      have e44 : a'.eval (.tmp 44) = .int .i64 ((n - k : Nat) : Int) := valOf_eq (hdep 7 44 (by kernel_rfl) rfl) rfl
      have e49 : a'.eval (.tmp 49) = .slice (some ⟨b, off, none⟩) p cap := valOf_eq (hdep 12 49 (by kernel_rfl) rfl) rfl
      refine op_call rfl 29 #[.tmp 38, .tmp 41, .tmp 44, .tmp 49] _ rfl #[.agg (byts d), .int .i64 ((at_ - k : Nat) : Int), .int .i64 ((n - k : Nat) : Int), .slice (some ⟨b, off, none⟩) p cap] (by simp [e38, e41, e44, e49]) _ (enters_of Tryd.func29 (by kernel_rfl) rfl) (IH.out _ (HW2.out.1.trans (hW'.mono HW2.out.1.size))) ?_
      rintro e v ⟨rfl, hb⟩
      exact ⟨_, rfl, hK _ _ rfl hb trivial⟩
    · cases ho
      have e37 : a'.eval (.tmp 37) = .agg (byts x) := valOf_eq (hdep 0 37 (by kernel_rfl) rfl) rfl
      have e50 : a'.eval (.tmp 50) = .agg (byts r) := valOf_eq (hdep 13 50 (by kernel_rfl) rfl) rfl
      refine op_call rfl 24 #[.tmp 37, .tmp 50] _ rfl #[.agg (byts x), .agg (byts r)] (by simp [e37, e50]) _ (enters_of Tryd.func24 (by kernel_rfl) rfl) (rnode_any x r _ HXL.out HRL.out) ?_
      rintro e v ⟨rfl, hb⟩
      exact ⟨_, rfl, hK _ _ (by rw [HT.out]; rfl) hb trivial⟩
  case ht =>
    intro vs w' hG hφ hψ
    have e : vs 14 = .agg (byts t) := valOf_eq (hφ 14 (by decide)) rfl
    have hW' := HB2.out w' hG
    have h8 := HW2.out.2.2.1.kept hW' HW2.out.2.2.1.lt
    simp only [putsOf, dstOf, List.getElem?_toArray, List.getElem?_cons_zero, List.getElem?_cons_succ, Option.bind_some, Act.put, List.setIfInBounds_toArray, List.set_cons_zero, List.set_cons_succ, List.drop_succ_cons, List.drop_zero]
    rw [e]
    refine wpl_put rfl _ _ rfl (w.heap.size + 1) zero32 t rfl rfl h8 HTL.out ?_
    refine wpList_nil ?_
    have HZ := Lib.hid (And.intro (below_setRow (C := w.heap.size + 1) (HW2.out.1.trans (hW'.mono HW2.out.1.size)) (by omega) (byts t)) (h8.set HTL.out))
    clear hW' h8 hφ hψ hG
    go_wp2_with fail
    refine bodyPost_ret (v := .agg (byts t)) ?_ rfl ⟨rfl, HZ.out.1⟩
    exact ret_dig Tryd.results29 _ _ (w.heap.size + 1) _ rfl HZ.out.2

end Go.Proofs.YthamligdmfhmeaaDoor
