/- Laws on whole arrays: made, built, stored, without opening them cell by cell. -/
import Derived.Test.YthamligdmfhmeaaDoorTable
namespace Go.Proofs.YthamligdmfhmeaaDoor
open Go.RowKit

theorem wpl_build_none {ops : Array Oper} {rest : List Oper} {o : Oper} {a : Act} {w : World} {Q : Exit → Act → World → Prop} (hg : o.guard = none) (t : TypeId) (ho : o.op = .build t #[])
    (cells : Array Value) (hb : Tryd.prog.built t [] = some cells) (h : wpList Tryd.prog ops Q rest (a.put o.dst (.agg cells)) w) : wpList Tryd.prog ops Q (o :: rest) a w :=
  wpList_build hg t #[] ho (by simp [hb]) (by simpa [hb] using h)
theorem wpl_alloc_row {ops : Array Oper} {rest : List Oper} {o : Oper} {a : Act} {w : World} {Q : Exit → Act → World → Prop} (hg : o.guard = none) (t : TypeId) (ho : o.op = .alloc t)
    (zs : Array Value) (hz : ∀ w, (zeroValue t).run Tryd.prog w = .ok (.agg zs) w) (h : wpList Tryd.prog ops Q rest (a.put o.dst (.pointer (some ⟨w.heap.size, 0, none⟩))) (w.alloc (.cells zs t))) : wpList Tryd.prog ops Q (o :: rest) a w :=
  wpList_plain hg fun _ hK => by
    unfold Oper.wp execOp
    simp [ho, go_sem, hz]
    exact hK _ _ h

end Go.Proofs.YthamligdmfhmeaaDoor
