/-
  DERIVED. GIVEN WITH THE SEED: THE CARDS: each row of YtchieahfellcbanDoorRows.lean that lists a variable, with what it lists TIED to the program's text (the seventh form; the later family's looks); each row that meets fmt, with fmt's text TOLD by the authors' own Lean function (tested against real Go, not proved from fmt's source: count such statements apart). THE CARD IS WHAT COUNTS. Prove the row's statement (the work); the ties are given (YtchieahfellcbanDoorTie.lean); close each card by the builder's one call (the guide's Derived/Test/ToyasCard.lean, 'card_holds'). Laid BY PROGRAM, IN A SANDBOX (cutbox-door.mjs). By AI agents, Wed Nov 11 2026. No macro, syntax, notation, axiom, sorry.
-/
import Derived.Test.YtchieahfellcbanDoorRows
import GoSem.ClaimSeven
namespace Go.Proofs.YtchieahfellcbanDoor
namespace Rows

/-- THE TIED CARD OF 'laws.FnExactUnsealed'. -/
def fnExactUnsealedCard : Claim7 := { stood := { row := fnExactUnsealedRow, standIns := [], harness := (true, "fc0f9f1c2053f24282ab3e12017dabe002a3ecf03955d9c1f52d2421651c49fe"), looks := false }, kinds := [], alts := [], laidByText := true, laidKinds := [.data], laidTests := true, laidLooks := .later }
def FnExactUnsealedCardSaid : Prop := Claim7.holds Tryd.pinned (.plain (OpenSpec.ofChange fnExactUnsealedSpec)) fnExactUnsealedCard

/-- THE TIED CARD OF 'laws.FnExactNumOf'. -/
def fnExactNumOfCard : Claim7 := { stood := { row := fnExactNumOfRow, standIns := [], harness := (true, "fc0f9f1c2053f24282ab3e12017dabe002a3ecf03955d9c1f52d2421651c49fe"), looks := false }, kinds := [], alts := [], laidByText := true, laidKinds := [.data, .pinned], laidTests := true, laidLooks := .later }
def FnExactNumOfCardSaid : Prop := Claim7.holds Tryd.pinned (.plain (OpenSpec.ofChange fnExactNumOfSpec)) fnExactNumOfCard

/-- THE TIED CARD OF 'laws.FnExactNumText'. -/
def fnExactNumTextCard : Claim7 := { stood := { row := fnExactNumTextRow, standIns := [], harness := (true, "fc0f9f1c2053f24282ab3e12017dabe002a3ecf03955d9c1f52d2421651c49fe"), looks := false }, kinds := [], alts := [], laidByText := true, laidKinds := [.data, .data, .data], laidTests := true, laidLooks := .later }
def FnExactNumTextCardSaid : Prop := Claim7.holds Tryd.pinned (.plain (OpenSpec.ofChange fnExactNumTextSpec)) fnExactNumTextCard

/-- THE TIED CARD OF 'laws.FnExactLess'. -/
def fnExactLessCard : Claim7 := { stood := { row := fnExactLessRow, standIns := [], harness := (true, "fc0f9f1c2053f24282ab3e12017dabe002a3ecf03955d9c1f52d2421651c49fe"), looks := false }, kinds := [], alts := [], laidByText := true, laidKinds := [.data, .pinned], laidTests := true, laidLooks := .later }
def FnExactLessCardSaid : Prop := Claim7.holds Tryd.pinned (.plain (OpenSpec.ofChange fnExactLessSpec)) fnExactLessCard

/-- THE SECOND FORM's CARD OF 'laws.FnExactUnsealed'. -/
def fnExactUnsealedUptoCard : Claim7 := { stood := { row := fnExactUnsealedUptoRow, standIns := [], harness := (true, "fc0f9f1c2053f24282ab3e12017dabe002a3ecf03955d9c1f52d2421651c49fe"), looks := false }, kinds := [], alts := [], laidByText := true, laidKinds := [.data], laidTests := true, laidLooks := .later }
def FnExactUnsealedUptoCardSaid : Prop := Claim7.holds Tryd.pinned (.plain (OpenSpec.upto fnExactUnsealedSpec)) fnExactUnsealedUptoCard

/-- THE SECOND FORM's CARD OF 'laws.FnExactNumOf'. -/
def fnExactNumOfUptoCard : Claim7 := { stood := { row := fnExactNumOfUptoRow, standIns := [], harness := (true, "fc0f9f1c2053f24282ab3e12017dabe002a3ecf03955d9c1f52d2421651c49fe"), looks := false }, kinds := [], alts := [], laidByText := true, laidKinds := [.data, .pinned], laidTests := true, laidLooks := .later }
def FnExactNumOfUptoCardSaid : Prop := Claim7.holds Tryd.pinned (.plain (OpenSpec.upto fnExactNumOfSpec)) fnExactNumOfUptoCard

/-- THE SECOND FORM's CARD OF 'laws.FnExactNumText'. -/
def fnExactNumTextUptoCard : Claim7 := { stood := { row := fnExactNumTextUptoRow, standIns := [], harness := (true, "fc0f9f1c2053f24282ab3e12017dabe002a3ecf03955d9c1f52d2421651c49fe"), looks := false }, kinds := [], alts := [], laidByText := true, laidKinds := [.data, .data, .data], laidTests := true, laidLooks := .later }
def FnExactNumTextUptoCardSaid : Prop := Claim7.holds Tryd.pinned (.plain (OpenSpec.upto fnExactNumTextSpec)) fnExactNumTextUptoCard

/-- THE SECOND FORM's CARD OF 'laws.FnExactLess'. -/
def fnExactLessUptoCard : Claim7 := { stood := { row := fnExactLessUptoRow, standIns := [], harness := (true, "fc0f9f1c2053f24282ab3e12017dabe002a3ecf03955d9c1f52d2421651c49fe"), looks := false }, kinds := [], alts := [], laidByText := true, laidKinds := [.data, .pinned], laidTests := true, laidLooks := .later }
def FnExactLessUptoCardSaid : Prop := Claim7.holds Tryd.pinned (.plain (OpenSpec.upto fnExactLessSpec)) fnExactLessUptoCard
end Rows
end Go.Proofs.YtchieahfellcbanDoor
