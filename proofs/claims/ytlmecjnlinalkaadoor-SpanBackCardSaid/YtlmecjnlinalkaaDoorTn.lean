/-
  What layer 9's laws share: dropping all that a script names; what Both has, later on.
-/
import Derived.Test.YtlmecjnlinalkaaDoorTi
namespace Go.Proofs.YtlmecjnlinalkaaDoor
open Go.RowKit

section
variable {Pt : PtT} {w0 W W' W'' : World} {S : Nat → Prop} {b h : Nat} {L : List (Nat × List UInt8)} {A1 E : Option Addr}
theorem BoW.new (t : T9c Pt w0) (k : BoW Pt W S b h L A1 E W') (hb : Below W'.heap.size W' W'') : BoW Pt W S b h L A1 E W'' :=
  ⟨t.new k.t hb, k.l.new hb, k.e.new hb, k.far, k.sA, k.sE, k.below.trans (hb.mono k.below.size)⟩
end
theorem Gd.bnd {h : Nat} (l : List Act9) : (acts9 h l).length ≤ l.length := by
  have := acts9_le h l l.length (Nat.le_refl _)
  rwa [List.take_length] at this
/-- Whether Both has trees. -/
def bothB (h : Int) (n : Nat) : Prop := n ≤ 25 ∧ 0 ≤ h ∧ h ≤ 32
theorem both_no {Pt : PtT} {w : World} (t : T9c Pt w) (h : Int) (n : Nat) (A : Option Addr) (c : Nat) (W : World) (hW : Below w.heap.size w W) (hn : ¬ bothB h n) :
    Calls Tryd.prog 12 #[.int .i64 h, .slice A n c] W fun r W' => r = .returned (.tuple #[.pointer none, .agg #[.int .i64 0, .slice none 0 0, .slice none 0 0], .bool true, .bool false]) ∧ Below W.heap.size W W' := by
  by_cases h1 : 25 < n
  · exact both_large h n A c W h1
  · exact both_range t h n A c W hW (by omega) (by unfold bothB at hn; omega)
end Go.Proofs.YtlmecjnlinalkaaDoor
