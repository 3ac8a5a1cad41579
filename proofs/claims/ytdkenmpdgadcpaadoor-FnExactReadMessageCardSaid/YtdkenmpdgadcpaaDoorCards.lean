/-
  DERIVED. GIVEN WITH THE SEED: THE CARDS: each row of YtdkenmpdgadcpaaDoorRows.lean that lists a variable, with what it lists TIED to the program's text (the seventh form; the later family's looks); each row that meets fmt, with fmt's text TOLD by the authors' own Lean function (tested against real Go, not proved from fmt's source: count such statements apart). THE CARD IS WHAT COUNTS. Prove the row's statement (the work); the ties are given (YtdkenmpdgadcpaaDoorTie.lean); close each card by the builder's one call (the guide's Derived/Test/ToyasCard.lean, 'card_holds'). Laid BY PROGRAM, IN A SANDBOX (cutbox-door.mjs). By AI agents, Wed Nov 11 2026. No macro, syntax, notation, axiom, sorry.
-/
import Derived.Test.YtdkenmpdgadcpaaDoorRows
import GoSem.ClaimSeven
namespace Go.Proofs.YtdkenmpdgadcpaaDoor
namespace Rows

/-- THE TIED CARD OF 'laws.FnExactMessageText'. -/
def fnExactMessageTextCard : Claim7 := { stood := { row := fnExactMessageTextRow, standIns := [], harness := (true, "e5184aad14588bd3277bfab785a0b3655f65aacf22b44ff905594e41b1b6c0b7"), looks := false }, kinds := [], alts := [], laidByText := true, laidKinds := [.data], laidTests := true, laidLooks := .later }
def FnExactMessageTextCardSaid : Prop := Claim7.holds Tryd.pinned (.plain (OpenSpec.ofChange fnExactMessageTextSpec)) fnExactMessageTextCard

/-- THE TIED CARD OF 'laws.FnExactReadMessage'. -/
def fnExactReadMessageCard : Claim7 := { stood := { row := fnExactReadMessageRow, standIns := [], harness := (true, "e5184aad14588bd3277bfab785a0b3655f65aacf22b44ff905594e41b1b6c0b7"), looks := false }, kinds := [], alts := [], laidByText := true, laidKinds := [.data], laidTests := true, laidLooks := .later }
def FnExactReadMessageCardSaid : Prop := Claim7.holds Tryd.pinned (.plain (OpenSpec.ofChange fnExactReadMessageSpec)) fnExactReadMessageCard

/-- THE SECOND FORM's CARD OF 'laws.FnExactMessageText'. -/
def fnExactMessageTextUptoCard : Claim7 := { stood := { row := fnExactMessageTextUptoRow, standIns := [], harness := (true, "e5184aad14588bd3277bfab785a0b3655f65aacf22b44ff905594e41b1b6c0b7"), looks := false }, kinds := [], alts := [], laidByText := true, laidKinds := [.data], laidTests := true, laidLooks := .later }
def FnExactMessageTextUptoCardSaid : Prop := Claim7.holds Tryd.pinned (.plain (OpenSpec.upto fnExactMessageTextSpec)) fnExactMessageTextUptoCard

/-- THE SECOND FORM's CARD OF 'laws.FnExactReadMessage'. -/
def fnExactReadMessageUptoCard : Claim7 := { stood := { row := fnExactReadMessageUptoRow, standIns := [], harness := (true, "e5184aad14588bd3277bfab785a0b3655f65aacf22b44ff905594e41b1b6c0b7"), looks := false }, kinds := [], alts := [], laidByText := true, laidKinds := [.data], laidTests := true, laidLooks := .later }
def FnExactReadMessageUptoCardSaid : Prop := Claim7.holds Tryd.pinned (.plain (OpenSpec.upto fnExactReadMessageSpec)) fnExactReadMessageUptoCard
end Rows
end Go.Proofs.YtdkenmpdgadcpaaDoor
