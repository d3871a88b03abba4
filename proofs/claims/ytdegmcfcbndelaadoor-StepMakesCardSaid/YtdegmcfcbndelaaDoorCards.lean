/-
  DERIVED. GIVEN WITH THE SEED: THE CARDS: each row of YtdegmcfcbndelaaDoorRows.lean that lists a variable, with what it lists TIED to the program's text (the seventh form; the later family's looks); each row that meets fmt, with fmt's text TOLD by the authors' own Lean function (tested against real Go, not proved from fmt's source: count such statements apart). THE CARD IS WHAT COUNTS. Prove the row's statement (the work); the ties are given (YtdegmcfcbndelaaDoorTie.lean); close each card by the builder's one call (the guide's Derived/Test/ToyasCard.lean, 'card_holds'). Laid BY PROGRAM, IN A SANDBOX (cutbox-door.mjs). By AI agents, Wed Nov 11 2026. No macro, syntax, notation, axiom, sorry.
-/
import Derived.Test.YtdegmcfcbndelaaDoorRows
import GoSem.ClaimSeven
namespace Go.Proofs.YtdegmcfcbndelaaDoor
namespace Rows

/-- THE TIED CARD OF 'entrustlaw09.TreeNodes'. -/
def treeNodesCard : Claim7 := { stood := { row := treeNodesRow, standIns := [], harness := (true, "cec860a29ee05be5e7951197f79f2a5ab053777d363b58b336a36f0941d0d025"), looks := true }, kinds := [], alts := [], laidByText := true, laidKinds := [.data, .data, .data, .data], laidTests := true, laidLooks := .later }
def TreeNodesCardSaid : Prop := Claim7.holds Tryd.pinned (.plain (OpenSpec.ofChange treeNodesSpec)) treeNodesCard

/-- THE TIED CARD OF 'entrustlaw09.TreePaths'. -/
def treePathsCard : Claim7 := { stood := { row := treePathsRow, standIns := [], harness := (true, "cec860a29ee05be5e7951197f79f2a5ab053777d363b58b336a36f0941d0d025"), looks := true }, kinds := [], alts := [], laidByText := true, laidKinds := [.data, .data], laidTests := true, laidLooks := .later }
def TreePathsCardSaid : Prop := Claim7.holds Tryd.pinned (.plain (OpenSpec.ofChange treePathsSpec)) treePathsCard

/-- THE TIED CARD OF 'entrustlaw10.ProofMakes'. -/
def proofMakesCard : Claim7 := { stood := { row := proofMakesRow, standIns := [], harness := (true, "cec860a29ee05be5e7951197f79f2a5ab053777d363b58b336a36f0941d0d025"), looks := true }, kinds := [], alts := [], laidByText := true, laidKinds := [.data, .data, .data, .data], laidTests := true, laidLooks := .later }
def ProofMakesCardSaid : Prop := Claim7.holds Tryd.pinned (.plain (OpenSpec.ofChange proofMakesSpec)) proofMakesCard

/-- THE TIED CARD OF 'entrustlaw10.ProofBack'. -/
def proofBackCard : Claim7 := { stood := { row := proofBackRow, standIns := [], harness := (true, "cec860a29ee05be5e7951197f79f2a5ab053777d363b58b336a36f0941d0d025"), looks := true }, kinds := [], alts := [], laidByText := true, laidKinds := [.data, .data], laidTests := true, laidLooks := .later }
def ProofBackCardSaid : Prop := Claim7.holds Tryd.pinned (.plain (OpenSpec.ofChange proofBackSpec)) proofBackCard

/-- THE TIED CARD OF 'entrustlaw12.StepWrites'. -/
def stepWritesCard : Claim7 := { stood := { row := stepWritesRow, standIns := [], harness := (true, "cec860a29ee05be5e7951197f79f2a5ab053777d363b58b336a36f0941d0d025"), looks := true }, kinds := [], alts := [], laidByText := true, laidKinds := [.data, .data, .data, .data], laidTests := true, laidLooks := .later }
def StepWritesCardSaid : Prop := Claim7.holds Tryd.pinned (.plain (OpenSpec.ofChange stepWritesSpec)) stepWritesCard

/-- THE TIED CARD OF 'entrustlaw12.StepCuts'. -/
def stepCutsCard : Claim7 := { stood := { row := stepCutsRow, standIns := [], harness := (true, "cec860a29ee05be5e7951197f79f2a5ab053777d363b58b336a36f0941d0d025"), looks := true }, kinds := [], alts := [], laidByText := true, laidKinds := [.data, .data, .data, .data], laidTests := true, laidLooks := .later }
def StepCutsCardSaid : Prop := Claim7.holds Tryd.pinned (.plain (OpenSpec.ofChange stepCutsSpec)) stepCutsCard

/-- THE TIED CARD OF 'entrustlaw12.StepGrows'. -/
def stepGrowsCard : Claim7 := { stood := { row := stepGrowsRow, standIns := [], harness := (true, "cec860a29ee05be5e7951197f79f2a5ab053777d363b58b336a36f0941d0d025"), looks := true }, kinds := [], alts := [], laidByText := true, laidKinds := [.data, .data, .data, .data], laidTests := true, laidLooks := .later }
def StepGrowsCardSaid : Prop := Claim7.holds Tryd.pinned (.plain (OpenSpec.ofChange stepGrowsSpec)) stepGrowsCard

/-- THE TIED CARD OF 'entrustlaw12.StepMakes'. -/
def stepMakesCard : Claim7 := { stood := { row := stepMakesRow, standIns := [], harness := (true, "cec860a29ee05be5e7951197f79f2a5ab053777d363b58b336a36f0941d0d025"), looks := true }, kinds := [], alts := [], laidByText := true, laidKinds := [.data, .data, .data, .data], laidTests := true, laidLooks := .later }
def StepMakesCardSaid : Prop := Claim7.holds Tryd.pinned (.plain (OpenSpec.ofChange stepMakesSpec)) stepMakesCard

/-- THE TIED CARD OF 'entrustlaw12.StepLeads'. -/
def stepLeadsCard : Claim7 := { stood := { row := stepLeadsRow, standIns := [], harness := (true, "cec860a29ee05be5e7951197f79f2a5ab053777d363b58b336a36f0941d0d025"), looks := true }, kinds := [], alts := [], laidByText := true, laidKinds := [.data, .data], laidTests := true, laidLooks := .later }
def StepLeadsCardSaid : Prop := Claim7.holds Tryd.pinned (.plain (OpenSpec.ofChange stepLeadsSpec)) stepLeadsCard

/-- THE SECOND FORM's CARD OF 'entrustlaw09.TreeNodes'. -/
def treeNodesUptoCard : Claim7 := { stood := { row := treeNodesUptoRow, standIns := [], harness := (true, "cec860a29ee05be5e7951197f79f2a5ab053777d363b58b336a36f0941d0d025"), looks := true }, kinds := [], alts := [], laidByText := true, laidKinds := [.data, .data, .data, .data], laidTests := true, laidLooks := .later }
def TreeNodesUptoCardSaid : Prop := Claim7.holds Tryd.pinned (.plain (OpenSpec.upto treeNodesSpec)) treeNodesUptoCard

/-- THE SECOND FORM's CARD OF 'entrustlaw09.TreePaths'. -/
def treePathsUptoCard : Claim7 := { stood := { row := treePathsUptoRow, standIns := [], harness := (true, "cec860a29ee05be5e7951197f79f2a5ab053777d363b58b336a36f0941d0d025"), looks := true }, kinds := [], alts := [], laidByText := true, laidKinds := [.data, .data], laidTests := true, laidLooks := .later }
def TreePathsUptoCardSaid : Prop := Claim7.holds Tryd.pinned (.plain (OpenSpec.upto treePathsSpec)) treePathsUptoCard

/-- THE SECOND FORM's CARD OF 'entrustlaw10.ProofMakes'. -/
def proofMakesUptoCard : Claim7 := { stood := { row := proofMakesUptoRow, standIns := [], harness := (true, "cec860a29ee05be5e7951197f79f2a5ab053777d363b58b336a36f0941d0d025"), looks := true }, kinds := [], alts := [], laidByText := true, laidKinds := [.data, .data, .data, .data], laidTests := true, laidLooks := .later }
def ProofMakesUptoCardSaid : Prop := Claim7.holds Tryd.pinned (.plain (OpenSpec.upto proofMakesSpec)) proofMakesUptoCard

/-- THE SECOND FORM's CARD OF 'entrustlaw10.ProofBack'. -/
def proofBackUptoCard : Claim7 := { stood := { row := proofBackUptoRow, standIns := [], harness := (true, "cec860a29ee05be5e7951197f79f2a5ab053777d363b58b336a36f0941d0d025"), looks := true }, kinds := [], alts := [], laidByText := true, laidKinds := [.data, .data], laidTests := true, laidLooks := .later }
def ProofBackUptoCardSaid : Prop := Claim7.holds Tryd.pinned (.plain (OpenSpec.upto proofBackSpec)) proofBackUptoCard

/-- THE SECOND FORM's CARD OF 'entrustlaw12.StepWrites'. -/
def stepWritesUptoCard : Claim7 := { stood := { row := stepWritesUptoRow, standIns := [], harness := (true, "cec860a29ee05be5e7951197f79f2a5ab053777d363b58b336a36f0941d0d025"), looks := true }, kinds := [], alts := [], laidByText := true, laidKinds := [.data, .data, .data, .data], laidTests := true, laidLooks := .later }
def StepWritesUptoCardSaid : Prop := Claim7.holds Tryd.pinned (.plain (OpenSpec.upto stepWritesSpec)) stepWritesUptoCard

/-- THE SECOND FORM's CARD OF 'entrustlaw12.StepCuts'. -/
def stepCutsUptoCard : Claim7 := { stood := { row := stepCutsUptoRow, standIns := [], harness := (true, "cec860a29ee05be5e7951197f79f2a5ab053777d363b58b336a36f0941d0d025"), looks := true }, kinds := [], alts := [], laidByText := true, laidKinds := [.data, .data, .data, .data], laidTests := true, laidLooks := .later }
def StepCutsUptoCardSaid : Prop := Claim7.holds Tryd.pinned (.plain (OpenSpec.upto stepCutsSpec)) stepCutsUptoCard

/-- THE SECOND FORM's CARD OF 'entrustlaw12.StepGrows'. -/
def stepGrowsUptoCard : Claim7 := { stood := { row := stepGrowsUptoRow, standIns := [], harness := (true, "cec860a29ee05be5e7951197f79f2a5ab053777d363b58b336a36f0941d0d025"), looks := true }, kinds := [], alts := [], laidByText := true, laidKinds := [.data, .data, .data, .data], laidTests := true, laidLooks := .later }
def StepGrowsUptoCardSaid : Prop := Claim7.holds Tryd.pinned (.plain (OpenSpec.upto stepGrowsSpec)) stepGrowsUptoCard

/-- THE SECOND FORM's CARD OF 'entrustlaw12.StepMakes'. -/
def stepMakesUptoCard : Claim7 := { stood := { row := stepMakesUptoRow, standIns := [], harness := (true, "cec860a29ee05be5e7951197f79f2a5ab053777d363b58b336a36f0941d0d025"), looks := true }, kinds := [], alts := [], laidByText := true, laidKinds := [.data, .data, .data, .data], laidTests := true, laidLooks := .later }
def StepMakesUptoCardSaid : Prop := Claim7.holds Tryd.pinned (.plain (OpenSpec.upto stepMakesSpec)) stepMakesUptoCard

/-- THE SECOND FORM's CARD OF 'entrustlaw12.StepLeads'. -/
def stepLeadsUptoCard : Claim7 := { stood := { row := stepLeadsUptoRow, standIns := [], harness := (true, "cec860a29ee05be5e7951197f79f2a5ab053777d363b58b336a36f0941d0d025"), looks := true }, kinds := [], alts := [], laidByText := true, laidKinds := [.data, .data], laidTests := true, laidLooks := .later }
def StepLeadsUptoCardSaid : Prop := Claim7.holds Tryd.pinned (.plain (OpenSpec.upto stepLeadsSpec)) stepLeadsUptoCard
end Rows
end Go.Proofs.YtdegmcfcbndelaaDoor
