/-
  NARROWER THAN 'FOR EVERY INPUT', by the rows' own cells (each row's printed sentence says how): FnExactReadProgram: laid · FnExactShowProgram: laid · FnExactCompile: laid.
  DERIVED. THE GIVEN ROWS OF THIS SEAT. 3 by the template 'for every input the law returns true; each argument reads behind the call as it read before'; 0 by the template 'total and deterministic' (their statements: YtjbodcakhnkggapGreatDoorTotals.lean).
  GIVEN WITH THE SEED: the statements are not yours to turn. If you find one false, say at which input.
  Laid BY PROGRAM, IN A SANDBOX (cutbox-rows.mjs): the forced cells as the released guide's own fill.sh prints them over the translation 858f51c028f857de… (all of the seat's roots in one cut). By AI agents, Wed Nov 11 2026. No macro, syntax, notation, axiom, sorry.
-/
import Derived.Test.YtjbodcakhnkggapGreatDoorChecked
import GoSem.Claim
import GoSem.ClaimJoined
import GoSem.ClaimMapViews
import Derived.JoinedTies
import Derived.KernelRfl
namespace Go.Proofs.YtjbodcakhnkggapGreatDoor
/- THE CELL 'sum', in the pinned program and in every row, IS THE sha256 OF THE DUMP (.gsa) THAT YtjbodcakhnkggapGreatDoorProg.lean LOADS. Nothing in Lean hashes anything: it is a label: what it is worth is what the hold of that sum in a sandbox is worth. -/
noncomputable def Tryz.pinned : Pinned := { name := "ytjbodcakhnkggapgreatdoor", sum := "858f51c028f857debe25c75bdec61b03587b0bc011adb1df1fc85614fb08ec5b", checked := Tryz.checked }
namespace Rows
def none {H : Type} : Left H := { results := [], args := [] }

/- WHAT THE LISTED PACKAGE-LEVEL VARIABLES READ AS WHEN THE CALL BEGINS. Each datum BY PROGRAM (the guide's laid-datum.mjs) off the statement by which the dump's own 'gosem.cut.vars' lays the variable. In a bare row this is a premise. The card (YtjbodcakhnkggapGreatDoorCards.lean) ties it to the program's text. -/
def laid_loop_example_g00237_impl_twoSigns {H : Type} : DataW H := .agg [.lit (.string [43]), .lit (.string [45]), .lit (.string [42]), .lit (.string [37]), .lit (.string [46]), .lit (.string [60]), .lit (.string [61, 61])]
def laid_loop_example_g00237_impl_rowOps {H : Type} : DataW H := .agg [.agg [.lit (.int .i64 13), .lit (.int .i64 13)], .agg [.lit (.int .i64 9), .lit (.int .i64 10)], .agg [.lit (.int .i64 11), .lit (.int .i64 12)]]
def laid_loop_example_g00237_impl_codeOps {H : Type} : DataW H := .agg [.lit (.int .i64 0), .lit (.int .i64 1), .lit (.int .i64 1), .lit (.int .i64 2), .lit (.int .i64 3), .lit (.int .i64 4), .lit (.int .i64 5), .lit (.int .i64 6), .lit (.int .i64 7), .lit (.int .i64 8), .lit (.int .i64 9), .lit (.int .i64 10), .lit (.int .i64 11), .lit (.int .i64 12), .lit (.int .i64 13), .lit (.int .i64 14), .lit (.int .i64 15), .lit (.int .i64 16), .lit (.int .i64 17), .lit (.int .i64 18), .lit (.int .i64 19), .lit (.int .i64 20), .lit (.int .i64 0), .lit (.int .i64 23), .lit (.int .i64 0), .lit (.int .i64 24)]

/-- 'laws.FnExactReadProgram': WHATEVER THE INPUT: true; the input reads as it did. -/
def fnExactReadProgramSpec : ChangeSpec := { name := "fnExactReadProgram", vars := ["loop.example/g00237/impl.rowOps", "loop.example/g00237/impl.twoSigns"], fn := fun _ => fun
  | [d, g1, g2] => { results := [.lit (.bool true)], args := [d], vars := [g1, g2] }
  | _ => none }
def fnExactReadProgramRow : OpenClaim := { program := "ytjbodcakhnkggapgreatdoor", sum := "858f51c028f857debe25c75bdec61b03587b0bc011adb1df1fc85614fb08ec5b", func := "loop.example/g00237/laws.FnExactReadProgram", spec := "fnExactReadProgram", inPlace := ["internal/bytealg.IndexByteString", "internal/bytealg.IndexString"], unfollowed := true, recurses := true, named := ["internal/bytealg.MaxLen", "loop.example/g00237/impl.rowOps", "loop.example/g00237/impl.twoSigns"], apart := false, laid := [("loop.example/g00237/impl.twoSigns", laid_loop_example_g00237_impl_twoSigns), ("loop.example/g00237/impl.rowOps", laid_loop_example_g00237_impl_rowOps)] }
def FnExactReadProgramSaid : Prop := fnExactReadProgramRow.holds Tryz.pinned (OpenSpec.ofChange fnExactReadProgramSpec)

/-- ITS FALSE NEIGHBOUR: 'it returns false'. Refute it at one input. -/
def fnExactReadProgramWrong : ChangeSpec := { name := "fnExactReadProgram", vars := ["loop.example/g00237/impl.rowOps", "loop.example/g00237/impl.twoSigns"], fn := fun _ => fun
  | [d, g1, g2] => { results := [.lit (.bool false)], args := [d], vars := [g1, g2] }
  | _ => none }
def FnExactReadProgramWrongFalsely : Prop := fnExactReadProgramRow.holds Tryz.pinned (OpenSpec.ofChange fnExactReadProgramWrong)

/-- 'laws.FnExactShowProgram': WHATEVER THE INPUT: true; the input reads as it did. -/
def fnExactShowProgramSpec : ChangeSpec := { name := "fnExactShowProgram", vars := ["loop.example/g00237/impl.twoSigns"], fn := fun _ => fun
  | [d, g1] => { results := [.lit (.bool true)], args := [d], vars := [g1] }
  | _ => none }
def fnExactShowProgramRow : OpenClaim := { program := "ytjbodcakhnkggapgreatdoor", sum := "858f51c028f857debe25c75bdec61b03587b0bc011adb1df1fc85614fb08ec5b", func := "loop.example/g00237/laws.FnExactShowProgram", spec := "fnExactShowProgram", inPlace := ["internal/bytealg.IndexByteString", "internal/bytealg.IndexString", "internal/abi.NoEscape", "internal/bytealg.MakeNoZero"], recurses := true, named := ["internal/bytealg.MaxLen", "loop.example/g00237/impl.twoSigns"], apart := false, laid := [("loop.example/g00237/impl.twoSigns", laid_loop_example_g00237_impl_twoSigns)] }
def FnExactShowProgramSaid : Prop := fnExactShowProgramRow.holds Tryz.pinned (OpenSpec.ofChange fnExactShowProgramSpec)

/-- ITS FALSE NEIGHBOUR: 'it returns false'. Refute it at one input. -/
def fnExactShowProgramWrong : ChangeSpec := { name := "fnExactShowProgram", vars := ["loop.example/g00237/impl.twoSigns"], fn := fun _ => fun
  | [d, g1] => { results := [.lit (.bool false)], args := [d], vars := [g1] }
  | _ => none }
def FnExactShowProgramWrongFalsely : Prop := fnExactShowProgramRow.holds Tryz.pinned (OpenSpec.ofChange fnExactShowProgramWrong)

/-- 'laws.FnExactCompile': WHATEVER THE INPUT: true; the input reads as it did. -/
def fnExactCompileSpec : ChangeSpec := { name := "fnExactCompile", vars := ["loop.example/g00237/impl.codeOps"], fn := fun _ => fun
  | [d, g1] => { results := [.lit (.bool true)], args := [d], vars := [g1] }
  | _ => none }
def fnExactCompileRow : OpenClaim := { program := "ytjbodcakhnkggapgreatdoor", sum := "858f51c028f857debe25c75bdec61b03587b0bc011adb1df1fc85614fb08ec5b", func := "loop.example/g00237/laws.FnExactCompile", spec := "fnExactCompile", inPlace := ["internal/bytealg.IndexByteString", "internal/bytealg.IndexString"], recurses := true, named := ["internal/bytealg.MaxLen", "loop.example/g00237/impl.codeOps"], apart := false, laid := [("loop.example/g00237/impl.codeOps", laid_loop_example_g00237_impl_codeOps)] }
def FnExactCompileSaid : Prop := fnExactCompileRow.holds Tryz.pinned (OpenSpec.ofChange fnExactCompileSpec)

/-- ITS FALSE NEIGHBOUR: 'it returns false'. Refute it at one input. -/
def fnExactCompileWrong : ChangeSpec := { name := "fnExactCompile", vars := ["loop.example/g00237/impl.codeOps"], fn := fun _ => fun
  | [d, g1] => { results := [.lit (.bool false)], args := [d], vars := [g1] }
  | _ => none }
def FnExactCompileWrongFalsely : Prop := fnExactCompileRow.holds Tryz.pinned (OpenSpec.ofChange fnExactCompileWrong)

/- THE SECOND FORM. 'bulk': how many values and letters a reading holds, each counted each time it is reached (what is shared counts as often as it is met; a slice's spare places count too). A statement '..UptoSaid' is the law's where the arguments, and the package variables that the reading takes, are together of bulk at most 1048576: NARROWER than '..Said'. Prove '..Said' where nothing that the law and all that it calls make is longer than what came in: it says more and counts as full. Else prove '..UptoSaid'. A law counts once. -/
mutual
def uptoBulk {H : Type} : DataW H → Nat
  | .lit (.string bytes) => bytes.length + 1
  | .lit _ => 1
  | .nil => 1
  | .ptr d => uptoBulk d + 1
  | .slice elems spare => uptoBulkAll elems + uptoBulkAll spare + 1
  | .agg parts => uptoBulkAll parts + 1
  | .iface _ d => uptoBulk d + 1
  | .map entries => uptoBulkEntries entries + 1
  | .held _ => 1
def uptoBulkAll {H : Type} : List (DataW H) → Nat
  | [] => 0
  | d :: r => uptoBulk d + uptoBulkAll r
def uptoBulkEntries {H : Type} : List (Lit × DataW H) → Nat
  | [] => 0
  | x :: r => uptoBulkEntry x + uptoBulkEntries r
def uptoBulkEntry {H : Type} : Lit × DataW H → Nat
  | (.string bytes, d) => bytes.length + uptoBulk d + 1
  | (_, d) => uptoBulk d + 1
 end
def uptoSmall : (H : Type) → List (DataW H) → Bool := fun _ ds => decide (uptoBulkAll ds ≤ 1048576)
def OpenSpec.upto (s : _root_.Go.ChangeSpec) : _root_.Go.OpenSpec := { _root_.Go.OpenSpec.ofChange s with cond := some uptoSmall }

/-- 'laws.FnExactReadProgram', WHERE WHAT IT READS IS OF BULK AT MOST 1048576: true; the input reads as it did. -/
def fnExactReadProgramUptoRow : OpenClaim := { program := "ytjbodcakhnkggapgreatdoor", sum := "858f51c028f857debe25c75bdec61b03587b0bc011adb1df1fc85614fb08ec5b", func := "loop.example/g00237/laws.FnExactReadProgram", spec := "fnExactReadProgram", inPlace := ["internal/bytealg.IndexByteString", "internal/bytealg.IndexString"], unfollowed := true, recurses := true, named := ["internal/bytealg.MaxLen", "loop.example/g00237/impl.rowOps", "loop.example/g00237/impl.twoSigns"], apart := false, laid := [("loop.example/g00237/impl.twoSigns", laid_loop_example_g00237_impl_twoSigns), ("loop.example/g00237/impl.rowOps", laid_loop_example_g00237_impl_rowOps)], narrowed := true }
def FnExactReadProgramUptoSaid : Prop := fnExactReadProgramUptoRow.holds Tryz.pinned (OpenSpec.upto fnExactReadProgramSpec)

/-- 'laws.FnExactShowProgram', WHERE WHAT IT READS IS OF BULK AT MOST 1048576: true; the input reads as it did. -/
def fnExactShowProgramUptoRow : OpenClaim := { program := "ytjbodcakhnkggapgreatdoor", sum := "858f51c028f857debe25c75bdec61b03587b0bc011adb1df1fc85614fb08ec5b", func := "loop.example/g00237/laws.FnExactShowProgram", spec := "fnExactShowProgram", inPlace := ["internal/bytealg.IndexByteString", "internal/bytealg.IndexString", "internal/abi.NoEscape", "internal/bytealg.MakeNoZero"], recurses := true, named := ["internal/bytealg.MaxLen", "loop.example/g00237/impl.twoSigns"], apart := false, laid := [("loop.example/g00237/impl.twoSigns", laid_loop_example_g00237_impl_twoSigns)], narrowed := true }
def FnExactShowProgramUptoSaid : Prop := fnExactShowProgramUptoRow.holds Tryz.pinned (OpenSpec.upto fnExactShowProgramSpec)

/-- 'laws.FnExactCompile', WHERE WHAT IT READS IS OF BULK AT MOST 1048576: true; the input reads as it did. -/
def fnExactCompileUptoRow : OpenClaim := { program := "ytjbodcakhnkggapgreatdoor", sum := "858f51c028f857debe25c75bdec61b03587b0bc011adb1df1fc85614fb08ec5b", func := "loop.example/g00237/laws.FnExactCompile", spec := "fnExactCompile", inPlace := ["internal/bytealg.IndexByteString", "internal/bytealg.IndexString"], recurses := true, named := ["internal/bytealg.MaxLen", "loop.example/g00237/impl.codeOps"], apart := false, laid := [("loop.example/g00237/impl.codeOps", laid_loop_example_g00237_impl_codeOps)], narrowed := true }
def FnExactCompileUptoSaid : Prop := fnExactCompileUptoRow.holds Tryz.pinned (OpenSpec.upto fnExactCompileSpec)

end Rows
end Go.Proofs.YtjbodcakhnkggapGreatDoor
