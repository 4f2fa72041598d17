/- Contracts of the reference's Path and Same. -/
import Derived.Test.YthamligdmfhmeaaDoorRPath
import Derived.Test.YthamligdmfhmeaaDoorClimb
import Derived.Test.YthamligdmfhmeaaDoorOps
import Derived.Test.YthamligdmfhmeaaDoorRClimb
namespace Go.Proofs.YthamligdmfhmeaaDoor
open Go.RowKit

set_option maxRecDepth 100000 in
set_option maxHeartbeats 2000000 in
theorem rpath_ok (a : Option Addr) (n cap i : Nat) (ds : List (List UInt8)) (w : World) (hK : KT w) (hn : ds.length = n) (hcap : n ≤ cap) (hl : n ≤ 1099511627776) (hin : i < n) (hd : DigsAt w a ds) :
    Calls Tryd.prog 11 #[.slice a n cap, .int .i64 i] w fun e w' => ∃ A p c, e = .returned (.tuple #[.slice A p c, .int .i64 0]) ∧ (H.sibsF n ds i).length = p ∧ w'.ownsRow w.heap.size 24 32 (.slice A p c) p (bytes (H.sibsF n ds i).flatten) ∧ Below w.heap.size w w' := by
  have HS := Lib.hid (rpath_all n a n cap i ds w (by omega) (Nat.le_refl _) hl hK hn hcap hin hd)
  clear hK hn hd
  have hge : (i : Int) < (n : Int) := by omega
  have h0 : decide ((i : Int) < 0) = false := by simp
  have hd2 : decide ((i : Int) ≥ (n : Int)) = false := by simp; omega
  have hd3 : decide ((n : Int) ≤ (i : Int)) = false := by simp; omega
  have hd4 : decide (n ≤ i) = false := by simp; omega
  go_enter Tryd.func11, Tryd.ntmps11
  go_wp2_with fail
  refine HS.out.mono ?_
  rintro e w' ⟨A, p, c, rfl, h1, h2, h3⟩
  have HZ := Lib.hid (And.intro h1 (And.intro h2 h3))
  clear h1 h2 h3
  go_wp2_with fail
  go_ret2
  exact ⟨A, p, c, rfl, HZ.out.1, HZ.out.2.1, HZ.out.2.2⟩


set_option maxRecDepth 100000 in
theorem rpath_no (a : Option Addr) (n cap : Nat) (at_ : Int) (w : World) (h : at_ < 0 ∨ (n : Int) ≤ at_) :
    Calls Tryd.prog 11 #[.slice a n cap, .int .i64 at_] w fun e w' => e = .returned (.tuple #[.slice none 0 0, .int .i64 1]) ∧ w = w' := by
  by_cases h0 : at_ < 0
  · have hd : decide (at_ < 0) = true := by simpa using h0
    go_enter Tryd.func11, Tryd.ntmps11
    go_wp2_with fail
    go_ret2
    exact ⟨rfl, rfl⟩
  · have hd : decide (at_ < 0) = false := by simpa using h0
    have hge : (n : Int) ≤ at_ := by omega
    have hd2 : decide (at_ ≥ (n : Int)) = true := by simpa using hge
    have hd3 : decide ((n : Int) ≤ at_) = true := by simpa using hge
    go_enter Tryd.func11, Tryd.ntmps11
    go_wp2_with fail
    go_ret2
    exact ⟨rfl, rfl⟩

theorem elem_range {w w' : World} {b off i : Nat} {x : List UInt8} (hx : x.length = 32) (hb : b < w.heap.size) (hc : ∀ j, j < 32 → w.cell? ⟨b, off + 32 * i + j, none⟩ = some (.int .u8 (H.byte x j))) (h : Below w.heap.size w w') : w'.rangeAt b (off + i * 32) (bytes x) := by
  intro j v hv
  have hj : j < x.length := by have := (List.getElem?_eq_some_iff.1 hv).1; rwa [bytes_len] at this
  have h1 := hc j (by omega)
  rw [Nat.mul_comm i 32, h.cell (p := ⟨b, off + 32 * i + j, none⟩) hb, h1]
  simp only [bytes, List.getElem?_map, List.getElem?_eq_getElem hj, Option.map_some] at hv
  rw [← hv, H.byte]
  simp [hj]

theorem op_elem {ops : Array Oper} {o : Oper} {a : Act} {K : Act → World → Prop} {Q : Exit → Act → World → Prop} {E : Prop} {w : World} (hgd : o.guard = none) (y z : Operand)
    (hop : o.op = .indexAddr 26 y z) {b off n c i : Nat} (ey : a.eval y = .slice (some ⟨b, off, none⟩) n c) (ez : a.eval z = .int .i64 (i : Int)) (hi : i < n) (h : K (a.put o.dst (.pointer (some ⟨b, off + i * 32, none⟩))) w) :
    if Region.wanted o (yielded ops a.tmps) = true then Oper.wp Tryd.prog o a w K Q else E := by
  refine op_val hgd ?_ h
  have hh : (Instr.indexAt 26 (.slice (some ⟨b, off, none⟩) n c) (.int .i64 (i : Int))).run Tryd.prog w = .ok (.pointer (some ⟨b, off + i * 32, none⟩)) w := by
    rw [run_indexAt_slice (P := Tryd.prog) (w := w) 26 ⟨b, off, none⟩ n c .i64 (i : Int) Tryd.underlying26]
    have hs : (sizeOf (Tryd.prog.elem 26)).run Tryd.prog w = .ok 32 w := by kernel_rfl
    rw [if_pos ⟨by omega, by omega⟩, hs]
    simp only [Result.andThen_ok, Int.toNat_natCast]
    by_cases h0 : i = 0
    · subst h0; simp [Addr.add]
    · simp [Addr.add]; omega
  unfold execOp
  rw [hop]
  generalize a.eval = f at *
  simp [ey, ez]
  exact congrArg (fun r => Result.andThen r (fun a w' => Result.ok (Next.value a) w')) hh

set_option maxRecDepth 100000 in
set_option maxHeartbeats 4000000 in
theorem rsame_same (A B : Option Addr) (p c c' : Nat) (xs : List (List UInt8)) (w : World) (hp : xs.length = p) (hpl : p ≤ 1099511627776) (hA : DigsAt w A xs) (hB : DigsAt w B xs) :
    Calls Tryd.prog 12 #[.slice A p c, .slice B p c'] w fun e w' => e = .returned (.bool true) ∧ Below w.heap.size w w' := by
  have HA := Lib.hid hA; have HB := Lib.hid hB; have HP := Lib.hid hp
  clear hA hB hp
  go_enter Tryd.func12, Tryd.ntmps12
  go_wp2_with fail
  go_loopw [5] (fun ii wr => ∃ i : Nat, i ≤ p ∧ ii = .int .i64 (i : Int) ∧ Hid (Below w.heap.size w wr)) (fun ii _ => p - (intOf ii).toNat)
  case atStart => exact ⟨0, Nat.zero_le _, rfl, Lib.hid (Below.refl _ _)⟩
  case round =>
    obtain ⟨i, hi, rfl, HR⟩ := hrel
    by_cases hlt : i < p
    · obtain ⟨b1, o1, e1, hb1, hc1⟩ := (HA.out.kept HR.out).elem (i := i) (by rw [HP.out]; exact hlt)
      obtain ⟨b2, o2, e2, hb2, hc2⟩ := (HB.out.kept HR.out).elem (i := i) (by rw [HP.out]; exact hlt)
      have hxl : (xs[i]'(by rw [HP.out]; exact hlt)).length = 32 := HA.out.1 _ (List.getElem_mem _)
      generalize (xs[i]'(by rw [HP.out]; exact hlt)) = x at hc1 hc2 hxl
      have H1 := Lib.hid (And.intro hb1 hc1); have H2 := Lib.hid (And.intro hb2 hc2); have HXL := Lib.hid hxl
      subst e1 e2
      clear hb1 hc1 hb2 hc2 hxl
      go_upto_region 6 with (fail)
      have hxi : (Tryd.prog.info? 24).map (·.size) = some (bytes x).length := by rw [bytes_len, HXL.out]; kernel_rfl
      have HX1 : Hid (∀ V, Below wr.drew.heap.size wr.drew V → V.rangeAt b1 (o1 + i * 32) (bytes x)) := Lib.hid (fun V hV => elem_range HXL.out H1.out.1 H1.out.2 ((Below.refl _ _).drew.trans (hV.mono (Nat.le_refl _))))
      have HX2 : Hid (∀ V, Below wr.drew.heap.size wr.drew V → V.rangeAt b2 (o2 + i * 32) (bytes x)) := Lib.hid (fun V hV => elem_range HXL.out H2.out.1 H2.out.2 ((Below.refl _ _).drew.trans (hV.mono (Nat.le_refl _))))
      have hq : ∀ W, (Op.equalIn 10000 24 (.agg (bytes x).toArray) (.agg (bytes x).toArray)).run Tryd.prog W = .ok true W := by rw [bytes_toArray]; exact run_eq_same x HXL.out
      have heg : Tryd.prog.eqGuardType Tryd.prog.depth 24 = false := by kernel_rfl
      refine wp_region_specs (by kernel_rfl) 8 1 rfl (by kernel_rfl) (by kernel_rfl) (by kernel_rfl) (by decide) (by kernel_rfl) (valOf [.slice (some ⟨b1, o1, none⟩) p c, .int .i64 (i : Int), .pointer (some ⟨b1, o1 + i * 32, none⟩), .agg (bytes x).toArray, .slice (some ⟨b2, o2, none⟩) p c', .int .i64 (i : Int), .pointer (some ⟨b2, o2 + i * 32, none⟩), .agg (bytes x).toArray]) (fun w w' => Below w.heap.size w w') noNew noPair (fun _ _ _ _ _ _ _ _ _ _ => ⟨trivial, trivial⟩) (Below.refl _ _) (fun h k => h.trans (k.mono h.size)) (fun _ _ _ _ _ h _ => h) ?hs ?ht
      case hs =>
        rintro i' o hi' ho a' w' hG hext hdep K hK
        rcases (show i' = 0 ∨ i' = 1 ∨ i' = 2 ∨ i' = 3 ∨ i' = 4 ∨ i' = 5 ∨ i' = 6 ∨ i' = 7 by omega) with rfl | rfl | rfl | rfl | rfl | rfl | rfl | rfl
        · cases ho
          have e0 : a'.eval (.tmp 0) = .slice (some ⟨b1, o1, none⟩) p c := hext 0 (by kernel_rfl)
          exact op_move rfl _ rfl e0 (hK _ _ rfl (Below.refl _ _) trivial)
        · cases ho
          have e5 : a'.eval (.tmp 5) = .int .i64 (i : Int) := hext 5 (by kernel_rfl)
          exact op_move rfl _ rfl e5 (hK _ _ rfl (Below.refl _ _) trivial)
        · cases ho
          have e17 : a'.eval (.tmp 17) = .slice (some ⟨b1, o1, none⟩) p c := valOf_eq (hdep 0 17 (by kernel_rfl) rfl) rfl
          have e18 : a'.eval (.tmp 18) = .int .i64 (i : Int) := valOf_eq (hdep 1 18 (by kernel_rfl) rfl) rfl
          exact op_elem rfl _ _ rfl e17 e18 hlt (hK _ _ rfl (Below.refl _ _) trivial)
        · cases ho
          have e19 : a'.eval (.tmp 19) = .pointer (some ⟨b1, o1 + i * 32, none⟩) := valOf_eq (hdep 2 19 (by kernel_rfl) rfl) rfl
          exact step_load rfl _ rfl b1 (o1 + i * 32) (bytes x) e19 (HX1.out w' hG) hxi (hK _ _ rfl (Below.refl _ _) trivial)
        · cases ho
          have e1 : a'.eval (.tmp 1) = .slice (some ⟨b2, o2, none⟩) p c' := hext 1 (by kernel_rfl)
          exact op_move rfl _ rfl e1 (hK _ _ rfl (Below.refl _ _) trivial)
        · cases ho
          have e5 : a'.eval (.tmp 5) = .int .i64 (i : Int) := hext 5 (by kernel_rfl)
          exact op_move rfl _ rfl e5 (hK _ _ rfl (Below.refl _ _) trivial)
        · cases ho
          have e21 : a'.eval (.tmp 21) = .slice (some ⟨b2, o2, none⟩) p c' := valOf_eq (hdep 4 21 (by kernel_rfl) rfl) rfl
          have e22 : a'.eval (.tmp 22) = .int .i64 (i : Int) := valOf_eq (hdep 5 22 (by kernel_rfl) rfl) rfl
          exact op_elem rfl _ _ rfl e21 e22 hlt (hK _ _ rfl (Below.refl _ _) trivial)
        · cases ho
          have e23 : a'.eval (.tmp 23) = .pointer (some ⟨b2, o2 + i * 32, none⟩) := valOf_eq (hdep 6 23 (by kernel_rfl) rfl) rfl
          exact step_load rfl _ rfl b2 (o2 + i * 32) (bytes x) e23 (HX2.out w' hG) hxi (hK _ _ rfl (Below.refl _ _) trivial)
      case ht =>
        intro vs w' hG hφ hψ
        have e3 : vs 3 = .agg (bytes x).toArray := valOf_eq (hφ 3 (by decide)) rfl
        have e7 : vs 7 = .agg (bytes x).toArray := valOf_eq (hφ 7 (by decide)) rfl
        have HW' : Hid (Below w.heap.size w w') := Lib.hid (HR.out.trans (((Below.refl _ _).drew.trans (hG.mono (Nat.le_refl _))).mono HR.out.size))
        simp only [putsOf, dstOf, List.getElem?_toArray, List.getElem?_cons_zero, List.getElem?_cons_succ, Option.bind_some, Act.put, List.setIfInBounds_toArray, List.set_cons_zero, List.set_cons_succ, List.drop_succ_cons, List.drop_zero]
        rw [e3, e7]
        clear hG hφ hψ
        go_wp2_with fail
        go_roundw
        case rel => exact ⟨i + 1, by omega, by go_num, HW'⟩
        case measure => simp [intOf]; omega
    · go_wp2_with fail
      go_ret
      exact ⟨rfl, HR.out⟩

end Go.Proofs.YthamligdmfhmeaaDoor
