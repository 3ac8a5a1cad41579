/-
  DERIVED. GIVEN WITH THE SEED: THE CARDS: each row of YtjbodcakhnkggapGreatDoorRows.lean that lists a variable, with what it lists TIED to the program's text (the seventh form; the later family's looks); each row that meets fmt, with fmt's text TOLD by the authors' own Lean function (tested against real Go, not proved from fmt's source: count such statements apart). THE CARD IS WHAT COUNTS. Prove the row's statement (the work); the ties are given (YtjbodcakhnkggapGreatDoorTie.lean); close each card by the builder's one call (the guide's Derived/Test/ToyasCard.lean, 'card_holds'). Laid BY PROGRAM, IN A SANDBOX (cutbox-door.mjs). By AI agents, Wed Nov 11 2026. No macro, syntax, notation, axiom, sorry.
-/
import Derived.Test.YtjbodcakhnkggapGreatDoorRows
import GoSem.ClaimSeven
namespace Go.Proofs.YtjbodcakhnkggapGreatDoor
namespace Rows

/-- THE TIED CARD OF 'laws.FnExactReadProgram'. -/
def fnExactReadProgramCard : Claim7 := { stood := { row := fnExactReadProgramRow, standIns := [], harness := (true, "b7f5e2da2d1d7598d054f1bf317c2b54cde968195c8dc19fd2062a0b0c9bbd02"), looks := true }, kinds := [], alts := [], laidByText := true, laidKinds := [.data, .data], laidTests := true, laidLooks := .later }
def FnExactReadProgramCardSaid : Prop := Claim7.holds Tryz.pinned (.plain (OpenSpec.ofChange fnExactReadProgramSpec)) fnExactReadProgramCard

/-- THE TIED CARD OF 'laws.FnExactShowProgram'. -/
def fnExactShowProgramCard : Claim7 := { stood := { row := fnExactShowProgramRow, standIns := [], harness := (true, "b7f5e2da2d1d7598d054f1bf317c2b54cde968195c8dc19fd2062a0b0c9bbd02"), looks := true }, kinds := [], alts := [], laidByText := true, laidKinds := [.data], laidTests := true, laidLooks := .later }
def FnExactShowProgramCardSaid : Prop := Claim7.holds Tryz.pinned (.plain (OpenSpec.ofChange fnExactShowProgramSpec)) fnExactShowProgramCard

/-- THE TIED CARD OF 'laws.FnExactCompile'. -/
def fnExactCompileCard : Claim7 := { stood := { row := fnExactCompileRow, standIns := [], harness := (true, "b7f5e2da2d1d7598d054f1bf317c2b54cde968195c8dc19fd2062a0b0c9bbd02"), looks := true }, kinds := [], alts := [], laidByText := true, laidKinds := [.data], laidTests := true, laidLooks := .later }
def FnExactCompileCardSaid : Prop := Claim7.holds Tryz.pinned (.plain (OpenSpec.ofChange fnExactCompileSpec)) fnExactCompileCard

/-- THE SECOND FORM's CARD OF 'laws.FnExactReadProgram'. -/
def fnExactReadProgramUptoCard : Claim7 := { stood := { row := fnExactReadProgramUptoRow, standIns := [], harness := (true, "b7f5e2da2d1d7598d054f1bf317c2b54cde968195c8dc19fd2062a0b0c9bbd02"), looks := true }, kinds := [], alts := [], laidByText := true, laidKinds := [.data, .data], laidTests := true, laidLooks := .later }
def FnExactReadProgramUptoCardSaid : Prop := Claim7.holds Tryz.pinned (.plain (OpenSpec.upto fnExactReadProgramSpec)) fnExactReadProgramUptoCard

/-- THE SECOND FORM's CARD OF 'laws.FnExactShowProgram'. -/
def fnExactShowProgramUptoCard : Claim7 := { stood := { row := fnExactShowProgramUptoRow, standIns := [], harness := (true, "b7f5e2da2d1d7598d054f1bf317c2b54cde968195c8dc19fd2062a0b0c9bbd02"), looks := true }, kinds := [], alts := [], laidByText := true, laidKinds := [.data], laidTests := true, laidLooks := .later }
def FnExactShowProgramUptoCardSaid : Prop := Claim7.holds Tryz.pinned (.plain (OpenSpec.upto fnExactShowProgramSpec)) fnExactShowProgramUptoCard

/-- THE SECOND FORM's CARD OF 'laws.FnExactCompile'. -/
def fnExactCompileUptoCard : Claim7 := { stood := { row := fnExactCompileUptoRow, standIns := [], harness := (true, "b7f5e2da2d1d7598d054f1bf317c2b54cde968195c8dc19fd2062a0b0c9bbd02"), looks := true }, kinds := [], alts := [], laidByText := true, laidKinds := [.data], laidTests := true, laidLooks := .later }
def FnExactCompileUptoCardSaid : Prop := Claim7.holds Tryz.pinned (.plain (OpenSpec.upto fnExactCompileSpec)) fnExactCompileUptoCard
end Rows
end Go.Proofs.YtjbodcakhnkggapGreatDoor
