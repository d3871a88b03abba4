/-
  DERIVED. GIVEN WITH THE SEED: THE CARDS: each row of YtjfpdbhjbleffaaDoorRows.lean that lists a variable, with what it lists TIED to the program's text (the seventh form; the later family's looks); each row that meets fmt, with fmt's text TOLD by the authors' own Lean function (tested against real Go, not proved from fmt's source: count such statements apart). THE CARD IS WHAT COUNTS. Prove the row's statement (the work); the ties are given (YtjfpdbhjbleffaaDoorTie.lean); close each card by the builder's one call (the guide's Derived/Test/ToyasCard.lean, 'card_holds'). Laid BY PROGRAM, IN A SANDBOX (cutbox-door.mjs). By AI agents, Wed Nov 11 2026. No macro, syntax, notation, axiom, sorry.
-/
import Derived.Test.YtjfpdbhjbleffaaDoorRows
import GoSem.ClaimSeven
namespace Go.Proofs.YtjfpdbhjbleffaaDoor
namespace Rows

/-- THE TIED CARD OF 'entrustlaw06.KeysOf'. -/
def keysOfCard : Claim7 := { stood := { row := keysOfRow, standIns := [], harness := (true, "b4ee2de5a267c6e2f546fe35e845cf88317fe728112474aa056949c6e96559f9"), looks := false }, kinds := [], alts := [], laidByText := true, laidKinds := [.data, .data, .data, .data], laidTests := true, laidLooks := .later }
def KeysOfCardSaid : Prop := Claim7.holds Tryd.pinned (.plain (OpenSpec.ofChange keysOfSpec)) keysOfCard

/-- THE TIED CARD OF 'entrustlaw06.KeysLabels'. -/
def keysLabelsCard : Claim7 := { stood := { row := keysLabelsRow, standIns := [], harness := (true, "b4ee2de5a267c6e2f546fe35e845cf88317fe728112474aa056949c6e96559f9"), looks := false }, kinds := [], alts := [], laidByText := true, laidKinds := [.data, .data, .data, .data], laidTests := true, laidLooks := .later }
def KeysLabelsCardSaid : Prop := Claim7.holds Tryd.pinned (.plain (OpenSpec.ofChange keysLabelsSpec)) keysLabelsCard

/-- THE TIED CARD OF 'entrustlaw06.KeysApart'. -/
def keysApartCard : Claim7 := { stood := { row := keysApartRow, standIns := [], harness := (true, "b4ee2de5a267c6e2f546fe35e845cf88317fe728112474aa056949c6e96559f9"), looks := false }, kinds := [], alts := [], laidByText := true, laidKinds := [.data, .data, .data, .data], laidTests := true, laidLooks := .later }
def KeysApartCardSaid : Prop := Claim7.holds Tryd.pinned (.plain (OpenSpec.ofChange keysApartSpec)) keysApartCard

/-- THE SECOND FORM's CARD OF 'entrustlaw06.KeysOf'. -/
def keysOfUptoCard : Claim7 := { stood := { row := keysOfUptoRow, standIns := [], harness := (true, "b4ee2de5a267c6e2f546fe35e845cf88317fe728112474aa056949c6e96559f9"), looks := false }, kinds := [], alts := [], laidByText := true, laidKinds := [.data, .data, .data, .data], laidTests := true, laidLooks := .later }
def KeysOfUptoCardSaid : Prop := Claim7.holds Tryd.pinned (.plain (OpenSpec.upto keysOfSpec)) keysOfUptoCard

/-- THE SECOND FORM's CARD OF 'entrustlaw06.KeysLabels'. -/
def keysLabelsUptoCard : Claim7 := { stood := { row := keysLabelsUptoRow, standIns := [], harness := (true, "b4ee2de5a267c6e2f546fe35e845cf88317fe728112474aa056949c6e96559f9"), looks := false }, kinds := [], alts := [], laidByText := true, laidKinds := [.data, .data, .data, .data], laidTests := true, laidLooks := .later }
def KeysLabelsUptoCardSaid : Prop := Claim7.holds Tryd.pinned (.plain (OpenSpec.upto keysLabelsSpec)) keysLabelsUptoCard

/-- THE SECOND FORM's CARD OF 'entrustlaw06.KeysApart'. -/
def keysApartUptoCard : Claim7 := { stood := { row := keysApartUptoRow, standIns := [], harness := (true, "b4ee2de5a267c6e2f546fe35e845cf88317fe728112474aa056949c6e96559f9"), looks := false }, kinds := [], alts := [], laidByText := true, laidKinds := [.data, .data, .data, .data], laidTests := true, laidLooks := .later }
def KeysApartUptoCardSaid : Prop := Claim7.holds Tryd.pinned (.plain (OpenSpec.upto keysApartSpec)) keysApartUptoCard
end Rows
end Go.Proofs.YtjfpdbhjbleffaaDoor
