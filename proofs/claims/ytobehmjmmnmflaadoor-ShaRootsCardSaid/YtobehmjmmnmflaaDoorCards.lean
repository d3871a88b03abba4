/-
  DERIVED. GIVEN WITH THE SEED: THE CARDS: each row of YtobehmjmmnmflaaDoorRows.lean that lists a variable, with what it lists TIED to the program's text (the seventh form; the later family's looks); each row that meets fmt, with fmt's text TOLD by the authors' own Lean function (tested against real Go, not proved from fmt's source: count such statements apart). THE CARD IS WHAT COUNTS. Prove the row's statement (the work); the ties are given (YtobehmjmmnmflaaDoorTie.lean); close each card by the builder's one call (the guide's Derived/Test/ToyasCard.lean, 'card_holds'). Laid BY PROGRAM, IN A SANDBOX (cutbox-door.mjs). By AI agents, Wed Nov 11 2026. No macro, syntax, notation, axiom, sorry.
-/
import Derived.Test.YtobehmjmmnmflaaDoorRows
import GoSem.ClaimSeven
namespace Go.Proofs.YtobehmjmmnmflaaDoor
namespace Rows

/-- THE TIED CARD OF 'entrustlaw02.ShaRoots'. -/
def shaRootsCard : Claim7 := { stood := { row := shaRootsRow, standIns := [], harness := (true, "66e36756b1dd5d6710053dbb7f51fdca8e642e5ac5729feeaaaa64492e724d61"), looks := true }, kinds := [], alts := [], laidByText := true, laidKinds := [.data, .data, .data, .data], laidTests := true, laidLooks := .later }
def ShaRootsCardSaid : Prop := Claim7.holds Tryd.pinned (.plain (OpenSpec.ofChange shaRootsSpec)) shaRootsCard

/-- THE TIED CARD OF 'entrustlaw03.HmacMacs'. -/
def hmacMacsCard : Claim7 := { stood := { row := hmacMacsRow, standIns := [], harness := (true, "66e36756b1dd5d6710053dbb7f51fdca8e642e5ac5729feeaaaa64492e724d61"), looks := true }, kinds := [], alts := [], laidByText := true, laidKinds := [.data, .data, .data, .data], laidTests := true, laidLooks := .later }
def HmacMacsCardSaid : Prop := Claim7.holds Tryd.pinned (.plain (OpenSpec.ofChange hmacMacsSpec)) hmacMacsCard

/-- THE TIED CARD OF 'entrustlaw03.HmacChecks'. -/
def hmacChecksCard : Claim7 := { stood := { row := hmacChecksRow, standIns := [], harness := (true, "66e36756b1dd5d6710053dbb7f51fdca8e642e5ac5729feeaaaa64492e724d61"), looks := true }, kinds := [], alts := [], laidByText := true, laidKinds := [.data, .data, .data, .data], laidTests := true, laidLooks := .later }
def HmacChecksCardSaid : Prop := Claim7.holds Tryd.pinned (.plain (OpenSpec.ofChange hmacChecksSpec)) hmacChecksCard

/-- THE TIED CARD OF 'entrustlaw03.HmacSames'. -/
def hmacSamesCard : Claim7 := { stood := { row := hmacSamesRow, standIns := [], harness := (true, "66e36756b1dd5d6710053dbb7f51fdca8e642e5ac5729feeaaaa64492e724d61"), looks := true }, kinds := [], alts := [], laidByText := true, laidKinds := [.data, .data], laidTests := true, laidLooks := .later }
def HmacSamesCardSaid : Prop := Claim7.holds Tryd.pinned (.plain (OpenSpec.ofChange hmacSamesSpec)) hmacSamesCard

/-- THE TIED CARD OF 'entrustlaw03.HmacTurns'. -/
def hmacTurnsCard : Claim7 := { stood := { row := hmacTurnsRow, standIns := [], harness := (true, "66e36756b1dd5d6710053dbb7f51fdca8e642e5ac5729feeaaaa64492e724d61"), looks := true }, kinds := [], alts := [], laidByText := true, laidKinds := [.data, .data], laidTests := true, laidLooks := .later }
def HmacTurnsCardSaid : Prop := Claim7.holds Tryd.pinned (.plain (OpenSpec.ofChange hmacTurnsSpec)) hmacTurnsCard

/-- THE SECOND FORM's CARD OF 'entrustlaw02.ShaRoots'. -/
def shaRootsUptoCard : Claim7 := { stood := { row := shaRootsUptoRow, standIns := [], harness := (true, "66e36756b1dd5d6710053dbb7f51fdca8e642e5ac5729feeaaaa64492e724d61"), looks := true }, kinds := [], alts := [], laidByText := true, laidKinds := [.data, .data, .data, .data], laidTests := true, laidLooks := .later }
def ShaRootsUptoCardSaid : Prop := Claim7.holds Tryd.pinned (.plain (OpenSpec.upto shaRootsSpec)) shaRootsUptoCard

/-- THE SECOND FORM's CARD OF 'entrustlaw03.HmacMacs'. -/
def hmacMacsUptoCard : Claim7 := { stood := { row := hmacMacsUptoRow, standIns := [], harness := (true, "66e36756b1dd5d6710053dbb7f51fdca8e642e5ac5729feeaaaa64492e724d61"), looks := true }, kinds := [], alts := [], laidByText := true, laidKinds := [.data, .data, .data, .data], laidTests := true, laidLooks := .later }
def HmacMacsUptoCardSaid : Prop := Claim7.holds Tryd.pinned (.plain (OpenSpec.upto hmacMacsSpec)) hmacMacsUptoCard

/-- THE SECOND FORM's CARD OF 'entrustlaw03.HmacChecks'. -/
def hmacChecksUptoCard : Claim7 := { stood := { row := hmacChecksUptoRow, standIns := [], harness := (true, "66e36756b1dd5d6710053dbb7f51fdca8e642e5ac5729feeaaaa64492e724d61"), looks := true }, kinds := [], alts := [], laidByText := true, laidKinds := [.data, .data, .data, .data], laidTests := true, laidLooks := .later }
def HmacChecksUptoCardSaid : Prop := Claim7.holds Tryd.pinned (.plain (OpenSpec.upto hmacChecksSpec)) hmacChecksUptoCard

/-- THE SECOND FORM's CARD OF 'entrustlaw03.HmacSames'. -/
def hmacSamesUptoCard : Claim7 := { stood := { row := hmacSamesUptoRow, standIns := [], harness := (true, "66e36756b1dd5d6710053dbb7f51fdca8e642e5ac5729feeaaaa64492e724d61"), looks := true }, kinds := [], alts := [], laidByText := true, laidKinds := [.data, .data], laidTests := true, laidLooks := .later }
def HmacSamesUptoCardSaid : Prop := Claim7.holds Tryd.pinned (.plain (OpenSpec.upto hmacSamesSpec)) hmacSamesUptoCard

/-- THE SECOND FORM's CARD OF 'entrustlaw03.HmacTurns'. -/
def hmacTurnsUptoCard : Claim7 := { stood := { row := hmacTurnsUptoRow, standIns := [], harness := (true, "66e36756b1dd5d6710053dbb7f51fdca8e642e5ac5729feeaaaa64492e724d61"), looks := true }, kinds := [], alts := [], laidByText := true, laidKinds := [.data, .data], laidTests := true, laidLooks := .later }
def HmacTurnsUptoCardSaid : Prop := Claim7.holds Tryd.pinned (.plain (OpenSpec.upto hmacTurnsSpec)) hmacTurnsUptoCard
end Rows
end Go.Proofs.YtobehmjmmnmflaaDoor
