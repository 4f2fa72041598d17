/- 'longest', and what it hands back as an iterator. -/
import Derived.RangeFuncNested
import Derived.RangeFuncBound
import Derived.RangeFuncCalls
import Derived.RangeFuncLeaves
import Derived.RangeFuncBox
import Derived.RangeFuncFrom
import Derived.Shelf.Abstract
import Derived.Shelf.RegionOpen
import Derived.OwnWalkIn
import Derived.TacticsInMore
import Derived.LoopNIn
import Derived.LoopIn
import Derived.Test.YtgabfjcobcndaaaHMinutes
namespace Go.Proofs.Ytgabfjcobcndaaa
open Go.RowKit Go.Shelf

attribute [local go_sem] Oper.semAt_some

theorem wpl_box {ops : Array Oper} {rest : List Oper} {o : Oper} {a : Act} {w : World} {Q : Exit → Act → World → Prop} (hg : o.guard = none) (t : TypeId) (x : Operand) (ho : o.op = .box t x)
    (cs : Array Value) (hx : a.eval x = .agg cs) (h : wpList Try.prog ops Q rest (a.put o.dst (.pointer (some ⟨w.heap.size, 0, none⟩))) (w.alloc (.cells cs t))) : wpList Try.prog ops Q (o :: rest) a w :=
  wpList_plain hg fun _ hK => by
    have h' := hK _ _ h
    unfold Oper.wp execOp
    simp only [ho, hx, Instr.box, newVar, Sem.run_bind, Sem.run_pure, Value.cells]
    simpa [go_sem] using h'

set_option maxRecDepth 100000 in
set_option maxHeartbeats 1000000 in
theorem longest_any (f : Nat → Bool) (w : World) :
    Calls Try.prog 26 #[.agg (bools f)] w fun e w' => e = .returned (.func (.func 37) #[] #[.pointer (some ⟨w.heap.size, 0, none⟩)]) ∧ w' = w.alloc (.cells (bools f) 46) := by
  go_enter Try.func26, Try.ntmps26
  go_step
  go_step
  refine wp_region_list ?_
  refine wpl_box rfl 46 _ rfl (bools f) rfl ?_
  obtain ⟨W1, hW1⟩ : ∃ W1, w.alloc (.cells (bools f) 46) = W1 := ⟨_, rfl⟩
  rw [hW1]
  go_wp2_with fail
  go_ret
  exact ⟨rfl, hW1.symm⟩

/-- An element of the minutes by value. -/
theorem index_min (r : Array Value) (f : Nat → Bool) (i : Nat) (hi : i < 1440) (hx : r[i]? = some (.bool (f i))) (W : World) : (Instr.index 46 (.agg r) (.int .i64 (i : Nat))).run Try.prog W = .ok (.bool (f i)) W := by
  simp [Instr.index, go_sem]
  rw [if_pos hi, hx]
  simp

set_option maxRecDepth 100000 in
set_option maxHeartbeats 2000000 in
/-- The iterator: a span for each longest sequence of minutes. -/
theorem longest1_in (n : Nat) (hn : 1 ≤ n) (l B : Nat) (f : Nat → Bool) (J Jx : List M.Sp → World → Prop)
    (hY : ∀ pre (x : M.Sp) W, J pre W → pre.length < 1441 → YieldAt Fence.wide (n - 1) Try.prog l #[.agg #[.int .i64 x.1, .int .i64 x.2]] W fun e W' =>
      (e = .returned (.bool true) ∧ J (pre ++ [x]) W' ∧ True) ∨ (e = .returned (.bool false) ∧ Jx (pre ++ [x]) W'))
    (W : World) (hB : W.heap[B]? = some (.cells (bools f) 46 (0, 0))) (h0 : J [] W) :
    CallsIn Fence.wide n Try.prog 37 #[.func (.yield l) #[] #[], .pointer (some ⟨B, 0, none⟩)] W fun e W' => (∃ v, e = .returned v) ∧
      ((∃ ys, ys = M.N f ∧ J ys W') ∨ (∃ pre, pre <+: M.N f ∧ Jx pre W')) := by
  refine callsIn_of_wp Try.func37 rfl (by trivial) ?_ rfl
  simp only [Try.ntmps37, List.size_toArray, List.length_cons, List.length_nil, Nat.reduceAdd, Nat.reduceSub, Array.replicate_succ, Array.replicate_zero, List.push_toArray, List.append_toArray, List.nil_append, List.cons_append]
  refine wpIn_wide.2 ?_
  have HBX := Lib.hid hB
  have HJ0 := Lib.hid h0
  have HYY := Lib.hid hY
  clear hB h0 hY
  go_upto_region 1 with (fail)
  refine wp_region_list ?_
  refine wpList_load_row rfl 46 _ rfl B rfl _ _ _ _ HBX.out Try.underlying46 rfl (by rw [bools_size]; exact Try.sizeM) ?_
  have hat := fun i (hi : i < 1440) => bools_at (f := f) hi
  have HAT := Lib.hid hat
  clear hat HBX
  generalize bools f = r at *
  iterate 3 go_step
  refine wpList_nil ?_
  rename_i K1 hK1
  refine hK1 _ _ ?_
  clear hK1
  refine (wpIn_wide (n := n)).1 ?_
  go_simp
  gi_wp2
  gi_loopw [7, 3] (fun ii ff wr => ∃ k : Nat, k ≤ 1440 ∧ ii = .int .i64 k ∧ ff = .int .i64 ((M.st f k).2 : Nat) ∧ Hid (J (M.st f k).1 wr))
    (fun ii _ _ => 1440 - (intOf ii).toNat)
  case atStart => exact ⟨0, Nat.zero_le _, rfl, rfl, HJ0⟩
  case round =>
    obtain ⟨k, hk, rfl, rfl, HJ⟩ := hrel
    clear HJ0
    have hle := M.st_le f k
    by_cases hlt : k < 1440
    · have hx := fun W => index_min r f k hlt (HAT.out k hlt) W
      cases hf : f k with
      | true =>
        have HST := Lib.hid (M.st_yes hf)
        rw [hf] at hx
        clear hf
        gi_wp2
        go_roundw
        case rel => exact ⟨k + 1, by omega, by go_num, by rw [HST.out], Lib.hid (by rw [HST.out]; exact HJ.out)⟩
        case measure => simp [intOf]; omega
      | false =>
        have HST := Lib.hid (M.st_no hf)
        have HPF : Hid (M.nrm f k <+: M.N f) := Lib.hid (M.nrm_prefix hf hlt)
        rw [hf] at hx
        clear hf
        by_cases hg : (M.st f k).2 < k
        · have hd : decide ((((M.st f k).2 : Nat) : Int) < (k : Int)) = true := by simp; exact hg
          have HP := Lib.hid (M.nrm_pos hg)
          have HL := Lib.hid (M.st_good f k).2.2
          obtain ⟨fn, tmps, assign, body, hy, hR⟩ := HYY.out _ ((((M.st f k).2 : Nat) : Int), (k : Int)) wr HJ.out (by have := HL.out; omega)
          rw [← HP.out] at hR
          simp only at hy
          have HR := Lib.hid hR
          clear hR
          generalize (M.st f k).2 = z at *
          gi_wp2
          refine HR.out.mono ?_
          rintro e3 W3 (⟨rfl, hJ3, _⟩ | ⟨rfl, hJx3⟩)
          · have HJ3 := Lib.hid hJ3
            gi_wp2
            go_roundw
            case rel => exact ⟨k + 1, by omega, by go_num, by rw [HST.out]; go_num, Lib.hid (by rw [HST.out]; exact HJ3.out)⟩
            case measure => simp [intOf]; omega
          · have HJ3 := Lib.hid hJx3
            gi_wp2
            refine bodyPost_ret (results_none rfl _ _ _) rfl ?_
            exact ⟨⟨_, rfl⟩, .inr ⟨_, HPF.out, HJ3.out⟩⟩
        · have hd : decide ((((M.st f k).2 : Nat) : Int) < (k : Int)) = false := by simp; omega
          have HP := Lib.hid (M.nrm_eq hg)
          generalize (M.st f k).2 = z at *
          gi_wp2
          refine ⟨fun _ h => (by cases h), ?_⟩
          gi_wp2
          go_roundw
          case rel => exact ⟨k + 1, by omega, by go_num, by rw [HST.out]; go_num, Lib.hid (by rw [HST.out, HP.out]; exact HJ.out)⟩
          case measure => simp [intOf]; omega
    · have hk2 : k = 1440 := by omega
      subst hk2
      by_cases hg : (M.st f 1440).2 < 1440
      · have HP := Lib.hid (M.nrm_pos hg)
        have HL := Lib.hid (M.st_good f 1440).2.2
        obtain ⟨fn, tmps, assign, body, hy, hR⟩ := HYY.out _ ((((M.st f 1440).2 : Nat) : Int), (1440 : Int)) wr HJ.out (by have := HL.out; omega)
        have HP2 : Hid ((M.st f 1440).1 ++ [((((M.st f 1440).2 : Nat) : Int), (1440 : Int))] = M.N f) := Lib.hid HP.out.symm
        rw [HP2.out] at hR
        simp only at hy
        have HR := Lib.hid hR
        clear hR HP HP2
        generalize (M.st f 1440).2 = z at *
        gi_wp2
        refine (wpIn_wide (n := n)).1 ?_
        gi_wp2
        refine HR.out.mono ?_
        rintro e3 W3 (⟨rfl, hJ3, _⟩ | ⟨rfl, hJx3⟩)
        · have HJ3 := Lib.hid hJ3
          gi_wp2
          go_end0
          exact ⟨⟨_, rfl⟩, .inl ⟨_, rfl, HJ3.out⟩⟩
        · have HJ3 := Lib.hid hJx3
          gi_wp2
          go_end0
          exact ⟨⟨_, rfl⟩, .inr ⟨_, List.prefix_refl _, HJ3.out⟩⟩
      · have HP : Hid (M.N f = (M.st f 1440).1) := Lib.hid (M.nrm_eq hg)
        generalize (M.st f 1440).2 = z at *
        gi_wp2
        refine (wpIn_wide (n := n)).1 ?_
        gi_wp2
        go_end0
        exact ⟨⟨_, rfl⟩, .inl ⟨_, rfl, by rw [HP.out]; exact HJ.out⟩⟩

/-- What 'longest' hands back. -/
theorem longest_stops (n : Nat) (hn : 1 ≤ n) (B : Nat) (f : Nat → Bool) (w : World) (hB : w.heap[B]? = some (.cells (bools f) 46 (0, 0))) :
    SeqStopsK Fence.wide n Try.prog 37 #[.pointer (some ⟨B, 0, none⟩)] (fun x : M.Sp => #[.agg #[.int .i64 x.1, .int .i64 x.2]]) (fun _ _ => True) (fun ys => ys = M.N f) (fun pre => pre <+: M.N f) 1441 w := fun l J Jx W hW _ _ hY h0 =>
  longest1_in n hn l B f J Jx hY W ((hW.block B (Array.getElem?_eq_some_iff.1 hB).1).trans hB) h0

end Go.Proofs.Ytgabfjcobcndaaa
