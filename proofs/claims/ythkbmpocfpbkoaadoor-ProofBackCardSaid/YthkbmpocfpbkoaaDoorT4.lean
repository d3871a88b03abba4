/-
  Is of layer 9: a tree held against the document's, over what the program's trees are to answer.
  What layer 9's laws share: dropping all that a script names; what Both has, later on.
  TreePaths of layer 9, what leaves come to: set in order, or from the last one on with the last hash of each index. Nothing here walks.
-/
import Derived.Test.YthkbmpocfpbkoaaDoorT3
import Derived.Test.YthkbmpocfpbkoaaDoorY1
namespace Go.Proofs.YthkbmpocfpbkoaaDoor
open Go.RowKit

attribute [local go_sem] Oper.semAt_some

section
variable {F : Fence} {rm : Nat} {P : Program} {ops : Array Oper} {Q : Exit → Act → World → Prop}
end
end Go.Proofs.YthkbmpocfpbkoaaDoor

namespace Go.Proofs.YthkbmpocfpbkoaaDoor
open Go.RowKit

section
variable {Pt : PtT} {w0 W W' W'' : World} {S : Nat → Prop} {b h : Nat} {L : List (Nat × List UInt8)} {A1 E : Option Addr}
theorem BoW.new (t : T9c Pt w0) (k : BoW Pt W S b h L A1 E W') (hb : Below W'.heap.size W' W'') : BoW Pt W S b h L A1 E W'' :=
  ⟨t.new k.t hb, k.l.new hb, k.e.new hb, k.far, k.sA, k.sE, k.below.trans (hb.mono k.below.size)⟩
end
end Go.Proofs.YthkbmpocfpbkoaaDoor

namespace Go.Proofs.YthkbmpocfpbkoaaDoor

def setA (a : Act9) : Act9 := (a.1, a.2.1, false)
def sets9 (h : Nat) (l : List Act9) : List (Nat × List UInt8) := l.foldl (fun L a => act9 h L (setA a)) []
theorem sets9_zero (h : Nat) (l : List Act9) : sets9 h (l.take 0) = [] := rfl
theorem sets9_next (h : Nat) (l : List Act9) (k : Nat) (hk : k < l.length) : sets9 h (l.take (k + 1)) = (if hasB h 0 (l[k]).1 then setT (l[k]).1 (l[k]).2.1 (sets9 h (l.take k)) else sets9 h (l.take k)) := by
  unfold sets9
  rw [List.take_succ_eq_append_getElem hk, List.foldl_append]
  show act9 h _ (setA _) = _
  unfold act9 setA
  rfl
theorem Gd.sets {h : Nat} (hh : h ≤ 32) {l : List Act9} (ho : okA l) : Gd h (sets9 h l) := by
  have : ∀ (l : List Act9) (L : List (Nat × List UInt8)), okA l → Gd h L → Gd h (l.foldl (fun L a => act9 h L (setA a)) L) := by
    intro l
    induction l with
    | nil => exact fun L _ g => g
    | cons a l ih => exact fun L ho g => ih _ (fun b hb => ho b (by simp [hb])) (g.act (a := setA a) (ho a (by simp)).2)
  exact this l [] ho (Gd.nil hh)
theorem sets9_le (h : Nat) (l : List Act9) : ∀ k, k ≤ l.length → (sets9 h (l.take k)).length ≤ k := by
  intro k
  induction k with
  | zero => intro _; rw [sets9_zero]; simp
  | succ k ih =>
    intro hk
    rw [sets9_next h l k (by omega)]
    have := ih (by omega)
    split
    · have := setT_le (l[k]).1 (l[k]).2.1 (sets9 h (l.take k)); omega
    · omega
/-- Set from the last one on. -/
def back (f : Nat → Option (List UInt8)) : List Act9 → List (Nat × List UInt8)
  | [] => []
  | a :: l => match f a.1 with
    | some x => setT a.1 x (back f l)
    | none => back f l
attribute [irreducible] sets9 back
end Go.Proofs.YthkbmpocfpbkoaaDoor
