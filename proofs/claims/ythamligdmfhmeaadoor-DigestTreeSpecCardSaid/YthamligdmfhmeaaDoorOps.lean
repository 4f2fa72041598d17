/- Operations of a drawn region, one law each, whose destinations are the operation's own (for wp_region_specs). -/
import Derived.Test.YthamligdmfhmeaaDoorSpecs
import Derived.Test.YthamligdmfhmeaaDoorDigStep
namespace Go.Proofs.YthamligdmfhmeaaDoor
open Go.RowKit

theorem op_val {ops : Array Oper} {o : Oper} {a : Act} {K : Act → World → Prop} {Q : Exit → Act → World → Prop} {E : Prop} {w : World} {v : Value} (hgd : o.guard = none)
    (hr : (execOp a.eval o).run Tryd.prog w = .ok (.value v) w) (h : K (a.put o.dst v) w) :
    if Region.wanted o (yielded ops a.tmps) = true then Oper.wp Tryd.prog o a w K Q else E := by
  have hw : Region.wanted o (yielded ops a.tmps) = true := by simp [Region.wanted, hgd]
  rw [if_pos hw]
  unfold Oper.wp
  rw [hr]
  exact h
theorem op_head {ops : Array Oper} {o : Oper} {a : Act} {K : Act → World → Prop} {Q : Exit → Act → World → Prop} {E : Prop} {w : World} (hgd : o.guard = none) (y z : Operand)
    (hop : o.op = .slice 26 y none (some z) none) {A : Option Addr} {m c i : Nat} (ey : a.eval y = .slice A m c) (ez : a.eval z = .int .i64 (i : Int)) (hi : i ≤ m) (hc : m ≤ c)
    (h : K (a.put o.dst (.slice A i c)) w) :
    if Region.wanted o (yielded ops a.tmps) = true then Oper.wp Tryd.prog o a w K Q else E := by
  refine op_val hgd ?_ h
  have hh := digs_head A m c i hi hc w
  unfold execOp
  rw [hop]
  generalize a.eval = f at *
  simp [ey, ez]
  exact congrArg (fun r => Result.andThen r (fun a w' => Result.ok (Next.value a) w')) hh
theorem op_move {ops : Array Oper} {o : Oper} {a : Act} {K : Act → World → Prop} {Q : Exit → Act → World → Prop} {E : Prop} {w : World} {v : Value} (hgd : o.guard = none) (y : Operand)
    (hop : o.op = .move y) (ey : a.eval y = v) (h : K (a.put o.dst v) w) :
    if Region.wanted o (yielded ops a.tmps) = true then Oper.wp Tryd.prog o a w K Q else E := by
  refine op_val hgd ?_ h
  unfold execOp
  rw [hop]
  simp [ey]
theorem op_len {ops : Array Oper} {o : Oper} {a : Act} {K : Act → World → Prop} {Q : Exit → Act → World → Prop} {E : Prop} {w : World} (hgd : o.guard = none) (y : Operand)
    (hop : o.op = .call { callee := .builtin .len, args := #[y], argTypes := #[26] }) {A : Option Addr} {m c : Nat} (ey : a.eval y = .slice A m c) (h : K (a.put o.dst (.int .i64 (m : Int))) w) :
    if Region.wanted o (yielded ops a.tmps) = true then Oper.wp Tryd.prog o a w K Q else E := by
  refine op_val hgd ?_ h
  unfold execOp
  rw [hop]
  generalize a.eval = f at *
  have hu := Tryd.underlying26
  simp [ey, resolve, invoke, builtin, go_sem]
theorem op_sub {ops : Array Oper} {o : Oper} {a : Act} {K : Act → World → Prop} {Q : Exit → Act → World → Prop} {E : Prop} {w : World} (hgd : o.guard = none) (y z : Operand)
    (hop : o.op = .binOp .sub 3 y z 3) {p q r : Int} (ey : a.eval y = .int .i64 p) (ez : a.eval z = .int .i64 q) (hr : IntKind.i64.wrap (p - q) = r) (h : K (a.put o.dst (.int .i64 r)) w) :
    if Region.wanted o (yielded ops a.tmps) = true then Oper.wp Tryd.prog o a w K Q else E := by
  refine op_val hgd ?_ h
  unfold execOp
  rw [hop]
  generalize a.eval = f at *
  simp [ey, ez, go_sem, hr]
/-- A whole digest loaded from its box, as its bytes' array. -/
theorem op_get {ops : Array Oper} {o : Oper} {a : Act} {K : Act → World → Prop} {Q : Exit → Act → World → Prop} {E : Prop} {w : World} (hgd : o.guard = none) (x : Operand) (ho : o.op = .load 24 x)
    (B : Nat) (d : List UInt8) (hx : a.eval x = .pointer (some ⟨B, 0, none⟩)) (hd : Dig w B d) (h : K (a.put o.dst (.agg (byts d))) w) :
    if Region.wanted o (yielded ops a.tmps) = true then Oper.wp Tryd.prog o a w K Q else E := by
  have hw : Region.wanted o (yielded ops a.tmps) = true := by simp [Region.wanted, hgd]
  rw [if_pos hw]
  unfold Oper.wp execOp
  have hr := run_loadVar_row (P := Tryd.prog) w B _ _ _ _ _ hd.1 Tryd.underlying24 rfl (byts_size32 hd.2)
  simp only [ho, hx, Instr.loadAt, Instr.sureAddr, Sem.run_bind, Sem.run_pure, Result.andThen_ok, hr]
  exact h
theorem op_call {ops : Array Oper} {o : Oper} {a : Act} {K : Act → World → Prop} {Q : Exit → Act → World → Prop} {E : Prop} {w : World} (hgd : o.guard = none) (f : Nat) (args : Array Operand) (tys : Array TypeId)
    (ho : o.op = .call { callee := .value (.func f), args := args, argTypes := tys }) (vs : Array Value) (hv0 : args.toList.map a.eval = vs.toList) (R : Ending → World → Prop) (hen : ∀ args w, (callFunc f args).run Tryd.prog w = .ok (.enter f args) w)
    (hc : Calls Tryd.prog f vs w R)
    (h : ∀ e w', R e w' → ∃ v, e = .returned v ∧ K (a.put o.dst v) w') :
    if Region.wanted o (yielded ops a.tmps) = true then Oper.wp Tryd.prog o a w K Q else E :=
  step_call o.dst rfl hgd f args tys ho vs hv0 R hen hc h

end Go.Proofs.YthamligdmfhmeaaDoor
