/-
  No cell of these rows narrows 'for every input' (looked for: loops, veiled, ifaces, maps, wideKeys, modest, calm, conditions, laid).
  DERIVED. THE GIVEN ROWS OF THIS SEAT. 6 by the template 'for every input the law returns true; each argument reads behind the call as it read before'; 0 by the template 'total and deterministic' (their statements: YtgabfjcobcndaaaTotals.lean).
  GIVEN WITH THE SEED: the statements are not yours to turn. If you find one false, say at which input.
  Laid BY PROGRAM, IN A SANDBOX (cutbox-rows.mjs): the forced cells as the released guide's own fill.sh prints them over the translation 1159c2ae35b48305… (all of the seat's roots in one cut). By AI agents, Wed Nov 11 2026. No macro, syntax, notation, axiom, sorry.
-/
import Derived.Test.YtgabfjcobcndaaaChecked
import GoSem.Claim
import GoSem.ClaimJoined
import GoSem.ClaimMapViews
import Derived.JoinedTies
import Derived.KernelRfl
namespace Go.Proofs.Ytgabfjcobcndaaa
/- THE CELL 'sum', in the pinned program and in every row, IS THE sha256 OF THE DUMP (.gsa) THAT YtgabfjcobcndaaaProg.lean LOADS. Nothing in Lean hashes anything: it is a label: what it is worth is what the hold of that sum in a sandbox is worth. -/
noncomputable def Try.pinned : Pinned := { name := "ytgabfjcobcndaaa", sum := "1159c2ae35b4830537505df6f49193fd29eef07ac77295d70d2b6d00da4d1baa", checked := Try.checked }
namespace Rows
def none {H : Type} : Left H := { results := [], args := [] }

/-- 'overflightlaw05.HoursSpec': WHATEVER THE INPUT: true; the input reads as it did. -/
def hoursSpecSpec : ChangeSpec := { name := "hoursSpec", fn := fun _ => fun
  | [d] => { results := [.lit (.bool true)], args := [d] }
  | _ => none }
def hoursSpecRow : OpenClaim := { program := "ytgabfjcobcndaaa", sum := "1159c2ae35b4830537505df6f49193fd29eef07ac77295d70d2b6d00da4d1baa", func := "overflight/overflightlaw05.HoursSpec", spec := "hoursSpec", unfollowed := true, recurses := true, apart := false }
def HoursSpecSaid : Prop := hoursSpecRow.holds Try.pinned (OpenSpec.ofChange hoursSpecSpec)

/-- ITS FALSE NEIGHBOUR: 'it returns false'. Refute it at one input. -/
def hoursSpecWrong : ChangeSpec := { name := "hoursSpec", fn := fun _ => fun
  | [d] => { results := [.lit (.bool false)], args := [d] }
  | _ => none }
def HoursSpecWrongFalsely : Prop := hoursSpecRow.holds Try.pinned (OpenSpec.ofChange hoursSpecWrong)

/-- 'overflightlaw05.HoursSetsSpec': WHATEVER THE INPUT: true; the input reads as it did. -/
def hoursSetsSpecSpec : ChangeSpec := { name := "hoursSetsSpec", fn := fun _ => fun
  | [d1, d2] => { results := [.lit (.bool true)], args := [d1, d2] }
  | _ => none }
def hoursSetsSpecRow : OpenClaim := { program := "ytgabfjcobcndaaa", sum := "1159c2ae35b4830537505df6f49193fd29eef07ac77295d70d2b6d00da4d1baa", func := "overflight/overflightlaw05.HoursSetsSpec", spec := "hoursSetsSpec", unfollowed := true, recurses := true, apart := false }
def HoursSetsSpecSaid : Prop := hoursSetsSpecRow.holds Try.pinned (OpenSpec.ofChange hoursSetsSpecSpec)

/-- ITS FALSE NEIGHBOUR: 'it returns false'. Refute it at one input. -/
def hoursSetsSpecWrong : ChangeSpec := { name := "hoursSetsSpec", fn := fun _ => fun
  | [d1, d2] => { results := [.lit (.bool false)], args := [d1, d2] }
  | _ => none }
def HoursSetsSpecWrongFalsely : Prop := hoursSetsSpecRow.holds Try.pinned (OpenSpec.ofChange hoursSetsSpecWrong)

/-- 'overflightlaw05.HoursMinutes': WHATEVER THE INPUT: true; the input reads as it did. -/
def hoursMinutesSpec : ChangeSpec := { name := "hoursMinutes", fn := fun _ => fun
  | [d1, d2, d3] => { results := [.lit (.bool true)], args := [d1, d2, d3] }
  | _ => none }
def hoursMinutesRow : OpenClaim := { program := "ytgabfjcobcndaaa", sum := "1159c2ae35b4830537505df6f49193fd29eef07ac77295d70d2b6d00da4d1baa", func := "overflight/overflightlaw05.HoursMinutes", spec := "hoursMinutes", unfollowed := true, recurses := true, apart := false }
def HoursMinutesSaid : Prop := hoursMinutesRow.holds Try.pinned (OpenSpec.ofChange hoursMinutesSpec)

/-- ITS FALSE NEIGHBOUR: 'it returns false'. Refute it at one input. -/
def hoursMinutesWrong : ChangeSpec := { name := "hoursMinutes", fn := fun _ => fun
  | [d1, d2, d3] => { results := [.lit (.bool false)], args := [d1, d2, d3] }
  | _ => none }
def HoursMinutesWrongFalsely : Prop := hoursMinutesRow.holds Try.pinned (OpenSpec.ofChange hoursMinutesWrong)

/-- 'overflightlaw05.HoursAlgebra': WHATEVER THE INPUT: true; the input reads as it did. -/
def hoursAlgebraSpec : ChangeSpec := { name := "hoursAlgebra", fn := fun _ => fun
  | [d1, d2, d3] => { results := [.lit (.bool true)], args := [d1, d2, d3] }
  | _ => none }
def hoursAlgebraRow : OpenClaim := { program := "ytgabfjcobcndaaa", sum := "1159c2ae35b4830537505df6f49193fd29eef07ac77295d70d2b6d00da4d1baa", func := "overflight/overflightlaw05.HoursAlgebra", spec := "hoursAlgebra", unfollowed := true, recurses := true, apart := false }
def HoursAlgebraSaid : Prop := hoursAlgebraRow.holds Try.pinned (OpenSpec.ofChange hoursAlgebraSpec)

/-- ITS FALSE NEIGHBOUR: 'it returns false'. Refute it at one input. -/
def hoursAlgebraWrong : ChangeSpec := { name := "hoursAlgebra", fn := fun _ => fun
  | [d1, d2, d3] => { results := [.lit (.bool false)], args := [d1, d2, d3] }
  | _ => none }
def HoursAlgebraWrongFalsely : Prop := hoursAlgebraRow.holds Try.pinned (OpenSpec.ofChange hoursAlgebraWrong)

/-- 'overflightlaw05.HoursDivide': WHATEVER THE INPUT: true; the input reads as it did. -/
def hoursDivideSpec : ChangeSpec := { name := "hoursDivide", fn := fun _ => fun
  | [d1, d2] => { results := [.lit (.bool true)], args := [d1, d2] }
  | _ => none }
def hoursDivideRow : OpenClaim := { program := "ytgabfjcobcndaaa", sum := "1159c2ae35b4830537505df6f49193fd29eef07ac77295d70d2b6d00da4d1baa", func := "overflight/overflightlaw05.HoursDivide", spec := "hoursDivide", unfollowed := true, recurses := true, apart := false }
def HoursDivideSaid : Prop := hoursDivideRow.holds Try.pinned (OpenSpec.ofChange hoursDivideSpec)

/-- ITS FALSE NEIGHBOUR: 'it returns false'. Refute it at one input. -/
def hoursDivideWrong : ChangeSpec := { name := "hoursDivide", fn := fun _ => fun
  | [d1, d2] => { results := [.lit (.bool false)], args := [d1, d2] }
  | _ => none }
def HoursDivideWrongFalsely : Prop := hoursDivideRow.holds Try.pinned (OpenSpec.ofChange hoursDivideWrong)

/-- 'overflightlaw05.HoursCovers': WHATEVER THE INPUT: true; the input reads as it did. -/
def hoursCoversSpec : ChangeSpec := { name := "hoursCovers", fn := fun _ => fun
  | [d1, d2, d3, d4] => { results := [.lit (.bool true)], args := [d1, d2, d3, d4] }
  | _ => none }
def hoursCoversRow : OpenClaim := { program := "ytgabfjcobcndaaa", sum := "1159c2ae35b4830537505df6f49193fd29eef07ac77295d70d2b6d00da4d1baa", func := "overflight/overflightlaw05.HoursCovers", spec := "hoursCovers", unfollowed := true, recurses := true, apart := false }
def HoursCoversSaid : Prop := hoursCoversRow.holds Try.pinned (OpenSpec.ofChange hoursCoversSpec)

/-- ITS FALSE NEIGHBOUR: 'it returns false'. Refute it at one input. -/
def hoursCoversWrong : ChangeSpec := { name := "hoursCovers", fn := fun _ => fun
  | [d1, d2, d3, d4] => { results := [.lit (.bool false)], args := [d1, d2, d3, d4] }
  | _ => none }
def HoursCoversWrongFalsely : Prop := hoursCoversRow.holds Try.pinned (OpenSpec.ofChange hoursCoversWrong)

/- THE SECOND FORM. 'bulk': how many values and letters a reading holds, each counted each time it is reached (what is shared counts as often as it is met; a slice's spare places count too). A statement '..UptoSaid' is the law's where the arguments, and the package variables that the reading takes, are together of bulk at most 1048576: NARROWER than '..Said'. Prove '..Said' where nothing that the law and all that it calls make is longer than what came in: it says more and counts as full. Else prove '..UptoSaid'. A law counts once. -/
mutual
def uptoBulk {H : Type} : DataW H → Nat
  | .lit (.string bytes) => bytes.length + 1
  | .lit _ => 1
  | .nil => 1
  | .ptr d => uptoBulk d + 1
  | .slice elems spare => uptoBulkAll elems + uptoBulkAll spare + 1
  | .agg parts => uptoBulkAll parts + 1
  | .iface _ d => uptoBulk d + 1
  | .map entries => uptoBulkEntries entries + 1
  | .held _ => 1
def uptoBulkAll {H : Type} : List (DataW H) → Nat
  | [] => 0
  | d :: r => uptoBulk d + uptoBulkAll r
def uptoBulkEntries {H : Type} : List (Lit × DataW H) → Nat
  | [] => 0
  | x :: r => uptoBulkEntry x + uptoBulkEntries r
def uptoBulkEntry {H : Type} : Lit × DataW H → Nat
  | (.string bytes, d) => bytes.length + uptoBulk d + 1
  | (_, d) => uptoBulk d + 1
 end
def uptoSmall : (H : Type) → List (DataW H) → Bool := fun _ ds => decide (uptoBulkAll ds ≤ 1048576)
def OpenSpec.upto (s : _root_.Go.ChangeSpec) : _root_.Go.OpenSpec := { _root_.Go.OpenSpec.ofChange s with cond := some uptoSmall }

/-- 'overflightlaw05.HoursSpec', WHERE WHAT IT READS IS OF BULK AT MOST 1048576: true; the input reads as it did. -/
def hoursSpecUptoRow : OpenClaim := { program := "ytgabfjcobcndaaa", sum := "1159c2ae35b4830537505df6f49193fd29eef07ac77295d70d2b6d00da4d1baa", func := "overflight/overflightlaw05.HoursSpec", spec := "hoursSpec", unfollowed := true, recurses := true, apart := false, narrowed := true }
def HoursSpecUptoSaid : Prop := hoursSpecUptoRow.holds Try.pinned (OpenSpec.upto hoursSpecSpec)

/-- 'overflightlaw05.HoursSetsSpec', WHERE WHAT IT READS IS OF BULK AT MOST 1048576: true; the input reads as it did. -/
def hoursSetsSpecUptoRow : OpenClaim := { program := "ytgabfjcobcndaaa", sum := "1159c2ae35b4830537505df6f49193fd29eef07ac77295d70d2b6d00da4d1baa", func := "overflight/overflightlaw05.HoursSetsSpec", spec := "hoursSetsSpec", unfollowed := true, recurses := true, apart := false, narrowed := true }
def HoursSetsSpecUptoSaid : Prop := hoursSetsSpecUptoRow.holds Try.pinned (OpenSpec.upto hoursSetsSpecSpec)

/-- 'overflightlaw05.HoursMinutes', WHERE WHAT IT READS IS OF BULK AT MOST 1048576: true; the input reads as it did. -/
def hoursMinutesUptoRow : OpenClaim := { program := "ytgabfjcobcndaaa", sum := "1159c2ae35b4830537505df6f49193fd29eef07ac77295d70d2b6d00da4d1baa", func := "overflight/overflightlaw05.HoursMinutes", spec := "hoursMinutes", unfollowed := true, recurses := true, apart := false, narrowed := true }
def HoursMinutesUptoSaid : Prop := hoursMinutesUptoRow.holds Try.pinned (OpenSpec.upto hoursMinutesSpec)

/-- 'overflightlaw05.HoursAlgebra', WHERE WHAT IT READS IS OF BULK AT MOST 1048576: true; the input reads as it did. -/
def hoursAlgebraUptoRow : OpenClaim := { program := "ytgabfjcobcndaaa", sum := "1159c2ae35b4830537505df6f49193fd29eef07ac77295d70d2b6d00da4d1baa", func := "overflight/overflightlaw05.HoursAlgebra", spec := "hoursAlgebra", unfollowed := true, recurses := true, apart := false, narrowed := true }
def HoursAlgebraUptoSaid : Prop := hoursAlgebraUptoRow.holds Try.pinned (OpenSpec.upto hoursAlgebraSpec)

/-- 'overflightlaw05.HoursDivide', WHERE WHAT IT READS IS OF BULK AT MOST 1048576: true; the input reads as it did. -/
def hoursDivideUptoRow : OpenClaim := { program := "ytgabfjcobcndaaa", sum := "1159c2ae35b4830537505df6f49193fd29eef07ac77295d70d2b6d00da4d1baa", func := "overflight/overflightlaw05.HoursDivide", spec := "hoursDivide", unfollowed := true, recurses := true, apart := false, narrowed := true }
def HoursDivideUptoSaid : Prop := hoursDivideUptoRow.holds Try.pinned (OpenSpec.upto hoursDivideSpec)

/-- 'overflightlaw05.HoursCovers', WHERE WHAT IT READS IS OF BULK AT MOST 1048576: true; the input reads as it did. -/
def hoursCoversUptoRow : OpenClaim := { program := "ytgabfjcobcndaaa", sum := "1159c2ae35b4830537505df6f49193fd29eef07ac77295d70d2b6d00da4d1baa", func := "overflight/overflightlaw05.HoursCovers", spec := "hoursCovers", unfollowed := true, recurses := true, apart := false, narrowed := true }
def HoursCoversUptoSaid : Prop := hoursCoversUptoRow.holds Try.pinned (OpenSpec.upto hoursCoversSpec)

end Rows
end Go.Proofs.Ytgabfjcobcndaaa
