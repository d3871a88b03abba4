/-
  DERIVED. GIVEN WITH THE SEED: THE CARDS: each row of YtfmbpdjcoopaeaaDoorRows.lean that lists a variable, with what it lists TIED to the program's text (the seventh form; the later family's looks); each row that meets fmt, with fmt's text TOLD by the authors' own Lean function (tested against real Go, not proved from fmt's source: count such statements apart). THE CARD IS WHAT COUNTS. Prove the row's statement (the work); the ties are given (YtfmbpdjcoopaeaaDoorTie.lean); close each card by the builder's one call (the guide's Derived/Test/ToyasCard.lean, 'card_holds'). Laid BY PROGRAM, IN A SANDBOX (cutbox-door.mjs). By AI agents, Wed Nov 11 2026. No macro, syntax, notation, axiom, sorry.
-/
import Derived.Test.YtfmbpdjcoopaeaaDoorRows
import GoSem.ClaimSeven
namespace Go.Proofs.YtfmbpdjcoopaeaaDoor
namespace Rows

/-- THE TIED CARD OF 'entrustlaw03.HmacChecks'. -/
def hmacChecksCard : Claim7 := { stood := { row := hmacChecksRow, standIns := [], harness := (true, "8780af9fefe63880418d820f5d38d96c3b102f30e969f7738481ae9ed7ab2bd3"), looks := true }, kinds := [], alts := [], laidByText := true, laidKinds := [.data, .data, .data, .data], laidTests := true, laidLooks := .later }
def HmacChecksCardSaid : Prop := Claim7.holds Tryd.pinned (.plain (OpenSpec.ofChange hmacChecksSpec)) hmacChecksCard

/-- THE TIED CARD OF 'entrustlaw07.SealSeals'. -/
def sealSealsCard : Claim7 := { stood := { row := sealSealsRow, standIns := [], harness := (true, "8780af9fefe63880418d820f5d38d96c3b102f30e969f7738481ae9ed7ab2bd3"), looks := true }, kinds := [], alts := [], laidByText := true, laidKinds := [.data, .data, .data, .data], laidTests := true, laidLooks := .later }
def SealSealsCardSaid : Prop := Claim7.holds Tryd.pinned (.plain (OpenSpec.ofChange sealSealsSpec)) sealSealsCard

/-- THE TIED CARD OF 'entrustlaw07.SealOpens'. -/
def sealOpensCard : Claim7 := { stood := { row := sealOpensRow, standIns := [], harness := (true, "8780af9fefe63880418d820f5d38d96c3b102f30e969f7738481ae9ed7ab2bd3"), looks := true }, kinds := [], alts := [], laidByText := true, laidKinds := [.data, .data, .data, .data], laidTests := true, laidLooks := .later }
def SealOpensCardSaid : Prop := Claim7.holds Tryd.pinned (.plain (OpenSpec.ofChange sealOpensSpec)) sealOpensCard

/-- THE TIED CARD OF 'entrustlaw07.SealBack'. -/
def sealBackCard : Claim7 := { stood := { row := sealBackRow, standIns := [], harness := (true, "8780af9fefe63880418d820f5d38d96c3b102f30e969f7738481ae9ed7ab2bd3"), looks := true }, kinds := [], alts := [], laidByText := true, laidKinds := [.data, .data, .data, .data], laidTests := true, laidLooks := .later }
def SealBackCardSaid : Prop := Claim7.holds Tryd.pinned (.plain (OpenSpec.ofChange sealBackSpec)) sealBackCard

/-- THE TIED CARD OF 'entrustlaw08.NodeLeaves'. -/
def nodeLeavesCard : Claim7 := { stood := { row := nodeLeavesRow, standIns := [], harness := (true, "8780af9fefe63880418d820f5d38d96c3b102f30e969f7738481ae9ed7ab2bd3"), looks := true }, kinds := [], alts := [], laidByText := true, laidKinds := [.data, .data, .data, .data], laidTests := true, laidLooks := .later }
def NodeLeavesCardSaid : Prop := Claim7.holds Tryd.pinned (.plain (OpenSpec.ofChange nodeLeavesSpec)) nodeLeavesCard

/-- THE TIED CARD OF 'entrustlaw10.ProofMakes'. -/
def proofMakesCard : Claim7 := { stood := { row := proofMakesRow, standIns := [], harness := (true, "8780af9fefe63880418d820f5d38d96c3b102f30e969f7738481ae9ed7ab2bd3"), looks := true }, kinds := [], alts := [], laidByText := true, laidKinds := [.data, .data, .data, .data], laidTests := true, laidLooks := .later }
def ProofMakesCardSaid : Prop := Claim7.holds Tryd.pinned (.plain (OpenSpec.ofChange proofMakesSpec)) proofMakesCard

/-- THE TIED CARD OF 'entrustlaw13.TicketOrders'. -/
def ticketOrdersCard : Claim7 := { stood := { row := ticketOrdersRow, standIns := [], harness := (true, "8780af9fefe63880418d820f5d38d96c3b102f30e969f7738481ae9ed7ab2bd3"), looks := true }, kinds := [], alts := [], laidByText := true, laidKinds := [.data, .data, .data, .data], laidTests := true, laidLooks := .later }
def TicketOrdersCardSaid : Prop := Claim7.holds Tryd.pinned (.plain (OpenSpec.ofChange ticketOrdersSpec)) ticketOrdersCard

/-- THE TIED CARD OF 'entrustlaw13.TicketSigns'. -/
def ticketSignsCard : Claim7 := { stood := { row := ticketSignsRow, standIns := [], harness := (true, "8780af9fefe63880418d820f5d38d96c3b102f30e969f7738481ae9ed7ab2bd3"), looks := true }, kinds := [], alts := [], laidByText := true, laidKinds := [.data, .data, .data, .data], laidTests := true, laidLooks := .later }
def TicketSignsCardSaid : Prop := Claim7.holds Tryd.pinned (.plain (OpenSpec.ofChange ticketSignsSpec)) ticketSignsCard

/-- THE TIED CARD OF 'entrustlaw13.TicketParses'. -/
def ticketParsesCard : Claim7 := { stood := { row := ticketParsesRow, standIns := [], harness := (true, "8780af9fefe63880418d820f5d38d96c3b102f30e969f7738481ae9ed7ab2bd3"), looks := true }, kinds := [], alts := [], laidByText := true, laidKinds := [.data, .data], laidTests := true, laidLooks := .later }
def TicketParsesCardSaid : Prop := Claim7.holds Tryd.pinned (.plain (OpenSpec.ofChange ticketParsesSpec)) ticketParsesCard

/-- THE TIED CARD OF 'entrustlaw13.TicketBack'. -/
def ticketBackCard : Claim7 := { stood := { row := ticketBackRow, standIns := [], harness := (true, "8780af9fefe63880418d820f5d38d96c3b102f30e969f7738481ae9ed7ab2bd3"), looks := true }, kinds := [], alts := [], laidByText := true, laidKinds := [.data, .data, .data, .data], laidTests := true, laidLooks := .later }
def TicketBackCardSaid : Prop := Claim7.holds Tryd.pinned (.plain (OpenSpec.ofChange ticketBackSpec)) ticketBackCard

/-- THE SECOND FORM's CARD OF 'entrustlaw03.HmacChecks'. -/
def hmacChecksUptoCard : Claim7 := { stood := { row := hmacChecksUptoRow, standIns := [], harness := (true, "8780af9fefe63880418d820f5d38d96c3b102f30e969f7738481ae9ed7ab2bd3"), looks := true }, kinds := [], alts := [], laidByText := true, laidKinds := [.data, .data, .data, .data], laidTests := true, laidLooks := .later }
def HmacChecksUptoCardSaid : Prop := Claim7.holds Tryd.pinned (.plain (OpenSpec.upto hmacChecksSpec)) hmacChecksUptoCard

/-- THE SECOND FORM's CARD OF 'entrustlaw07.SealSeals'. -/
def sealSealsUptoCard : Claim7 := { stood := { row := sealSealsUptoRow, standIns := [], harness := (true, "8780af9fefe63880418d820f5d38d96c3b102f30e969f7738481ae9ed7ab2bd3"), looks := true }, kinds := [], alts := [], laidByText := true, laidKinds := [.data, .data, .data, .data], laidTests := true, laidLooks := .later }
def SealSealsUptoCardSaid : Prop := Claim7.holds Tryd.pinned (.plain (OpenSpec.upto sealSealsSpec)) sealSealsUptoCard

/-- THE SECOND FORM's CARD OF 'entrustlaw07.SealOpens'. -/
def sealOpensUptoCard : Claim7 := { stood := { row := sealOpensUptoRow, standIns := [], harness := (true, "8780af9fefe63880418d820f5d38d96c3b102f30e969f7738481ae9ed7ab2bd3"), looks := true }, kinds := [], alts := [], laidByText := true, laidKinds := [.data, .data, .data, .data], laidTests := true, laidLooks := .later }
def SealOpensUptoCardSaid : Prop := Claim7.holds Tryd.pinned (.plain (OpenSpec.upto sealOpensSpec)) sealOpensUptoCard

/-- THE SECOND FORM's CARD OF 'entrustlaw07.SealBack'. -/
def sealBackUptoCard : Claim7 := { stood := { row := sealBackUptoRow, standIns := [], harness := (true, "8780af9fefe63880418d820f5d38d96c3b102f30e969f7738481ae9ed7ab2bd3"), looks := true }, kinds := [], alts := [], laidByText := true, laidKinds := [.data, .data, .data, .data], laidTests := true, laidLooks := .later }
def SealBackUptoCardSaid : Prop := Claim7.holds Tryd.pinned (.plain (OpenSpec.upto sealBackSpec)) sealBackUptoCard

/-- THE SECOND FORM's CARD OF 'entrustlaw08.NodeLeaves'. -/
def nodeLeavesUptoCard : Claim7 := { stood := { row := nodeLeavesUptoRow, standIns := [], harness := (true, "8780af9fefe63880418d820f5d38d96c3b102f30e969f7738481ae9ed7ab2bd3"), looks := true }, kinds := [], alts := [], laidByText := true, laidKinds := [.data, .data, .data, .data], laidTests := true, laidLooks := .later }
def NodeLeavesUptoCardSaid : Prop := Claim7.holds Tryd.pinned (.plain (OpenSpec.upto nodeLeavesSpec)) nodeLeavesUptoCard

/-- THE SECOND FORM's CARD OF 'entrustlaw10.ProofMakes'. -/
def proofMakesUptoCard : Claim7 := { stood := { row := proofMakesUptoRow, standIns := [], harness := (true, "8780af9fefe63880418d820f5d38d96c3b102f30e969f7738481ae9ed7ab2bd3"), looks := true }, kinds := [], alts := [], laidByText := true, laidKinds := [.data, .data, .data, .data], laidTests := true, laidLooks := .later }
def ProofMakesUptoCardSaid : Prop := Claim7.holds Tryd.pinned (.plain (OpenSpec.upto proofMakesSpec)) proofMakesUptoCard

/-- THE SECOND FORM's CARD OF 'entrustlaw13.TicketOrders'. -/
def ticketOrdersUptoCard : Claim7 := { stood := { row := ticketOrdersUptoRow, standIns := [], harness := (true, "8780af9fefe63880418d820f5d38d96c3b102f30e969f7738481ae9ed7ab2bd3"), looks := true }, kinds := [], alts := [], laidByText := true, laidKinds := [.data, .data, .data, .data], laidTests := true, laidLooks := .later }
def TicketOrdersUptoCardSaid : Prop := Claim7.holds Tryd.pinned (.plain (OpenSpec.upto ticketOrdersSpec)) ticketOrdersUptoCard

/-- THE SECOND FORM's CARD OF 'entrustlaw13.TicketSigns'. -/
def ticketSignsUptoCard : Claim7 := { stood := { row := ticketSignsUptoRow, standIns := [], harness := (true, "8780af9fefe63880418d820f5d38d96c3b102f30e969f7738481ae9ed7ab2bd3"), looks := true }, kinds := [], alts := [], laidByText := true, laidKinds := [.data, .data, .data, .data], laidTests := true, laidLooks := .later }
def TicketSignsUptoCardSaid : Prop := Claim7.holds Tryd.pinned (.plain (OpenSpec.upto ticketSignsSpec)) ticketSignsUptoCard

/-- THE SECOND FORM's CARD OF 'entrustlaw13.TicketParses'. -/
def ticketParsesUptoCard : Claim7 := { stood := { row := ticketParsesUptoRow, standIns := [], harness := (true, "8780af9fefe63880418d820f5d38d96c3b102f30e969f7738481ae9ed7ab2bd3"), looks := true }, kinds := [], alts := [], laidByText := true, laidKinds := [.data, .data], laidTests := true, laidLooks := .later }
def TicketParsesUptoCardSaid : Prop := Claim7.holds Tryd.pinned (.plain (OpenSpec.upto ticketParsesSpec)) ticketParsesUptoCard

/-- THE SECOND FORM's CARD OF 'entrustlaw13.TicketBack'. -/
def ticketBackUptoCard : Claim7 := { stood := { row := ticketBackUptoRow, standIns := [], harness := (true, "8780af9fefe63880418d820f5d38d96c3b102f30e969f7738481ae9ed7ab2bd3"), looks := true }, kinds := [], alts := [], laidByText := true, laidKinds := [.data, .data, .data, .data], laidTests := true, laidLooks := .later }
def TicketBackUptoCardSaid : Prop := Claim7.holds Tryd.pinned (.plain (OpenSpec.upto ticketBackSpec)) ticketBackUptoCard
end Rows
end Go.Proofs.YtfmbpdjcoopaeaaDoor
