/-
  DERIVED. GIVEN WITH THE SEED: THE CARDS: each row of YtcbljbdcnahfhaaDoorRows.lean that lists a variable, with what it lists TIED to the program's text (the seventh form; the later family's looks); each row that meets fmt, with fmt's text TOLD by the authors' own Lean function (tested against real Go, not proved from fmt's source: count such statements apart). THE CARD IS WHAT COUNTS. Prove the row's statement (the work); the ties are given (YtcbljbdcnahfhaaDoorTie.lean); close each card by the builder's one call (the guide's Derived/Test/ToyasCard.lean, 'card_holds'). Laid BY PROGRAM, IN A SANDBOX (cutbox-door.mjs). By AI agents, Wed Nov 11 2026. No macro, syntax, notation, axiom, sorry.
-/
import Derived.Test.YtcbljbdcnahfhaaDoorRows
import GoSem.ClaimSeven
namespace Go.Proofs.YtcbljbdcnahfhaaDoor
namespace Rows

/-- THE TIED CARD OF 'parleylaw4.HpackInts'. -/
def hpackIntsCard : Claim7 := { stood := { row := hpackIntsRow, standIns := [], harness := (true, "01694390a5a4564a7a4b6655fe2bfc9f13131b35acd0b8b86f74bec2b88d864d"), looks := true }, kinds := [], alts := [], laidByText := true, laidKinds := [.sentinel, .sentinel, .sentinel, .sentinel, .sentinel, .sentinel, .sentinel, .sentinel, .sentinel, .sentinel, .sentinel, .sentinel, .sentinel, .sentinel, .sentinel, .sentinel, .sentinel, .sentinel, .sentinel, .sentinel, .sentinel, .sentinel, .sentinel, .sentinel, .sentinel, .sentinel, .sentinel, .sentinel, .sentinel, .sentinel], laidTests := true, laidLooks := .later }
def HpackIntsCardSaid : Prop := Claim7.holds Tryd.pinned (.plain (OpenSpec.ofChange hpackIntsSpec)) hpackIntsCard

/-- THE TIED CARD OF 'parleylaw4.HpackTexts'. -/
def hpackTextsCard : Claim7 := { stood := { row := hpackTextsRow, standIns := [], harness := (true, "01694390a5a4564a7a4b6655fe2bfc9f13131b35acd0b8b86f74bec2b88d864d"), looks := true }, kinds := [], alts := [], laidByText := true, laidKinds := [.sentinel, .sentinel, .sentinel, .sentinel, .sentinel, .sentinel, .sentinel, .sentinel, .sentinel, .sentinel, .sentinel, .sentinel, .sentinel, .sentinel, .sentinel, .sentinel, .sentinel, .sentinel, .sentinel, .sentinel, .sentinel, .sentinel, .sentinel, .sentinel, .sentinel, .sentinel, .sentinel, .sentinel, .sentinel, .sentinel], laidTests := true, laidLooks := .later }
def HpackTextsCardSaid : Prop := Claim7.holds Tryd.pinned (.plain (OpenSpec.ofChange hpackTextsSpec)) hpackTextsCard

/-- THE TIED CARD OF 'parleylaw4.HpackEncodes'. -/
def hpackEncodesCard : Claim7 := { stood := { row := hpackEncodesRow, standIns := [], harness := (true, "01694390a5a4564a7a4b6655fe2bfc9f13131b35acd0b8b86f74bec2b88d864d"), looks := true }, kinds := [], alts := [], laidByText := true, laidKinds := [.sentinel, .sentinel, .sentinel, .sentinel, .sentinel, .sentinel, .sentinel], laidTests := true, laidLooks := .later }
def HpackEncodesCardSaid : Prop := Claim7.holds Tryd.pinned (.plain (OpenSpec.ofChange hpackEncodesSpec)) hpackEncodesCard

/-- THE TIED CARD OF 'parleylaw4.HpackBack'. -/
def hpackBackCard : Claim7 := { stood := { row := hpackBackRow, standIns := [], harness := (true, "01694390a5a4564a7a4b6655fe2bfc9f13131b35acd0b8b86f74bec2b88d864d"), looks := true }, kinds := [], alts := [], laidByText := true, laidKinds := [.sentinel, .sentinel, .sentinel, .sentinel, .sentinel, .sentinel, .sentinel], laidTests := true, laidLooks := .later }
def HpackBackCardSaid : Prop := Claim7.holds Tryd.pinned (.plain (OpenSpec.ofChange hpackBackSpec)) hpackBackCard

/-- THE TIED CARD OF 'parleylaw4.HpackNever'. -/
def hpackNeverCard : Claim7 := { stood := { row := hpackNeverRow, standIns := [], harness := (true, "01694390a5a4564a7a4b6655fe2bfc9f13131b35acd0b8b86f74bec2b88d864d"), looks := true }, kinds := [], alts := [], laidByText := true, laidKinds := [.sentinel, .sentinel, .sentinel, .sentinel, .sentinel, .sentinel, .sentinel], laidTests := true, laidLooks := .later }
def HpackNeverCardSaid : Prop := Claim7.holds Tryd.pinned (.plain (OpenSpec.ofChange hpackNeverSpec)) hpackNeverCard

/-- THE TIED CARD OF 'parleylaw4.HpackBound'. -/
def hpackBoundCard : Claim7 := { stood := { row := hpackBoundRow, standIns := [], harness := (true, "01694390a5a4564a7a4b6655fe2bfc9f13131b35acd0b8b86f74bec2b88d864d"), looks := true }, kinds := [], alts := [], laidByText := true, laidKinds := [.sentinel, .sentinel, .sentinel, .sentinel, .sentinel, .sentinel, .sentinel], laidTests := true, laidLooks := .later }
def HpackBoundCardSaid : Prop := Claim7.holds Tryd.pinned (.plain (OpenSpec.ofChange hpackBoundSpec)) hpackBoundCard

/-- THE TIED CARD OF 'parleylaw4.HpackOwn'. -/
def hpackOwnCard : Claim7 := { stood := { row := hpackOwnRow, standIns := [], harness := (true, "01694390a5a4564a7a4b6655fe2bfc9f13131b35acd0b8b86f74bec2b88d864d"), looks := true }, kinds := [], alts := [], laidByText := true, laidKinds := [.sentinel, .sentinel, .sentinel, .sentinel, .sentinel, .sentinel, .sentinel], laidTests := true, laidLooks := .later }
def HpackOwnCardSaid : Prop := Claim7.holds Tryd.pinned (.plain (OpenSpec.ofChange hpackOwnSpec)) hpackOwnCard

/-- THE SECOND FORM's CARD OF 'parleylaw4.HpackInts'. -/
def hpackIntsUptoCard : Claim7 := { stood := { row := hpackIntsUptoRow, standIns := [], harness := (true, "01694390a5a4564a7a4b6655fe2bfc9f13131b35acd0b8b86f74bec2b88d864d"), looks := true }, kinds := [], alts := [], laidByText := true, laidKinds := [.sentinel, .sentinel, .sentinel, .sentinel, .sentinel, .sentinel, .sentinel, .sentinel, .sentinel, .sentinel, .sentinel, .sentinel, .sentinel, .sentinel, .sentinel, .sentinel, .sentinel, .sentinel, .sentinel, .sentinel, .sentinel, .sentinel, .sentinel, .sentinel, .sentinel, .sentinel, .sentinel, .sentinel, .sentinel, .sentinel], laidTests := true, laidLooks := .later }
def HpackIntsUptoCardSaid : Prop := Claim7.holds Tryd.pinned (.plain (OpenSpec.upto hpackIntsSpec)) hpackIntsUptoCard

/-- THE SECOND FORM's CARD OF 'parleylaw4.HpackTexts'. -/
def hpackTextsUptoCard : Claim7 := { stood := { row := hpackTextsUptoRow, standIns := [], harness := (true, "01694390a5a4564a7a4b6655fe2bfc9f13131b35acd0b8b86f74bec2b88d864d"), looks := true }, kinds := [], alts := [], laidByText := true, laidKinds := [.sentinel, .sentinel, .sentinel, .sentinel, .sentinel, .sentinel, .sentinel, .sentinel, .sentinel, .sentinel, .sentinel, .sentinel, .sentinel, .sentinel, .sentinel, .sentinel, .sentinel, .sentinel, .sentinel, .sentinel, .sentinel, .sentinel, .sentinel, .sentinel, .sentinel, .sentinel, .sentinel, .sentinel, .sentinel, .sentinel], laidTests := true, laidLooks := .later }
def HpackTextsUptoCardSaid : Prop := Claim7.holds Tryd.pinned (.plain (OpenSpec.upto hpackTextsSpec)) hpackTextsUptoCard

/-- THE SECOND FORM's CARD OF 'parleylaw4.HpackEncodes'. -/
def hpackEncodesUptoCard : Claim7 := { stood := { row := hpackEncodesUptoRow, standIns := [], harness := (true, "01694390a5a4564a7a4b6655fe2bfc9f13131b35acd0b8b86f74bec2b88d864d"), looks := true }, kinds := [], alts := [], laidByText := true, laidKinds := [.sentinel, .sentinel, .sentinel, .sentinel, .sentinel, .sentinel, .sentinel], laidTests := true, laidLooks := .later }
def HpackEncodesUptoCardSaid : Prop := Claim7.holds Tryd.pinned (.plain (OpenSpec.upto hpackEncodesSpec)) hpackEncodesUptoCard

/-- THE SECOND FORM's CARD OF 'parleylaw4.HpackBack'. -/
def hpackBackUptoCard : Claim7 := { stood := { row := hpackBackUptoRow, standIns := [], harness := (true, "01694390a5a4564a7a4b6655fe2bfc9f13131b35acd0b8b86f74bec2b88d864d"), looks := true }, kinds := [], alts := [], laidByText := true, laidKinds := [.sentinel, .sentinel, .sentinel, .sentinel, .sentinel, .sentinel, .sentinel], laidTests := true, laidLooks := .later }
def HpackBackUptoCardSaid : Prop := Claim7.holds Tryd.pinned (.plain (OpenSpec.upto hpackBackSpec)) hpackBackUptoCard

/-- THE SECOND FORM's CARD OF 'parleylaw4.HpackNever'. -/
def hpackNeverUptoCard : Claim7 := { stood := { row := hpackNeverUptoRow, standIns := [], harness := (true, "01694390a5a4564a7a4b6655fe2bfc9f13131b35acd0b8b86f74bec2b88d864d"), looks := true }, kinds := [], alts := [], laidByText := true, laidKinds := [.sentinel, .sentinel, .sentinel, .sentinel, .sentinel, .sentinel, .sentinel], laidTests := true, laidLooks := .later }
def HpackNeverUptoCardSaid : Prop := Claim7.holds Tryd.pinned (.plain (OpenSpec.upto hpackNeverSpec)) hpackNeverUptoCard

/-- THE SECOND FORM's CARD OF 'parleylaw4.HpackBound'. -/
def hpackBoundUptoCard : Claim7 := { stood := { row := hpackBoundUptoRow, standIns := [], harness := (true, "01694390a5a4564a7a4b6655fe2bfc9f13131b35acd0b8b86f74bec2b88d864d"), looks := true }, kinds := [], alts := [], laidByText := true, laidKinds := [.sentinel, .sentinel, .sentinel, .sentinel, .sentinel, .sentinel, .sentinel], laidTests := true, laidLooks := .later }
def HpackBoundUptoCardSaid : Prop := Claim7.holds Tryd.pinned (.plain (OpenSpec.upto hpackBoundSpec)) hpackBoundUptoCard

/-- THE SECOND FORM's CARD OF 'parleylaw4.HpackOwn'. -/
def hpackOwnUptoCard : Claim7 := { stood := { row := hpackOwnUptoRow, standIns := [], harness := (true, "01694390a5a4564a7a4b6655fe2bfc9f13131b35acd0b8b86f74bec2b88d864d"), looks := true }, kinds := [], alts := [], laidByText := true, laidKinds := [.sentinel, .sentinel, .sentinel, .sentinel, .sentinel, .sentinel, .sentinel], laidTests := true, laidLooks := .later }
def HpackOwnUptoCardSaid : Prop := Claim7.holds Tryd.pinned (.plain (OpenSpec.upto hpackOwnSpec)) hpackOwnUptoCard
end Rows
end Go.Proofs.YtcbljbdcnahfhaaDoor
