/-
  What layer 9's laws share: dropping all that a script names; what Both has, later on.
-/
import Derived.Test.YthkbmpocfpbkoaaDoorTi
namespace Go.Proofs.YthkbmpocfpbkoaaDoor
open Go.RowKit

section
variable {Pt : PtT} {w0 W W' W'' : World} {S : Nat → Prop} {b h : Nat} {L : List (Nat × List UInt8)} {A1 E : Option Addr}
theorem BoW.new (t : T9c Pt w0) (k : BoW Pt W S b h L A1 E W') (hb : Below W'.heap.size W' W'') : BoW Pt W S b h L A1 E W'' :=
  ⟨t.new k.t hb, k.l.new hb, k.e.new hb, k.far, k.sA, k.sE, k.below.trans (hb.mono k.below.size)⟩
end
/-- A script that drops all. -/
def dropA (a : Act9) : Act9 := (a.1, a.2.1, true)
def drops9 (h : Nat) (L : List (Nat × List UInt8)) (l : List Act9) : List (Nat × List UInt8) := l.foldl (fun L a => act9 h L (dropA a)) L
theorem drops9_next (h : Nat) (L : List (Nat × List UInt8)) (l : List Act9) (k : Nat) (hk : k < l.length) : drops9 h L (l.take (k + 1)) = (if hasB h 0 (l[k]).1 then setT (l[k]).1 (emptyL 0) (drops9 h L (l.take k)) else drops9 h L (l.take k)) := by
  unfold drops9
  rw [List.take_succ_eq_append_getElem hk, List.foldl_append]
  show act9 h _ (dropA _) = _
  unfold act9 dropA
  rfl
theorem drops9_zero (h : Nat) (L : List (Nat × List UInt8)) (l : List Act9) : drops9 h L (l.take 0) = L := rfl
theorem drops9_le (h : Nat) (L : List (Nat × List UInt8)) (l : List Act9) : ∀ k, k ≤ l.length → (drops9 h L (l.take k)).length ≤ L.length + k := by
  intro k
  induction k with
  | zero => intro _; rw [drops9_zero]; omega
  | succ k ih =>
    intro hk
    rw [drops9_next h L l k (by omega)]
    have := ih (by omega)
    split
    · have := setT_le (l[k]).1 (emptyL 0) (drops9 h L (l.take k)); omega
    · omega
theorem Gd.drops {h : Nat} {L : List (Nat × List UInt8)} (g : Gd h L) : ∀ {l : List Act9}, okA l → Gd h (drops9 h L l) := by
  intro l
  induction l generalizing L with
  | nil => exact fun _ => g
  | cons a l ih => exact fun ho => ih (g.act (a := dropA a) (ho a (by simp)).2) (fun c hc => ho c (by simp [hc]))
theorem getH_act (h : Nat) (L : List (Nat × List UInt8)) (a : Act9) (j : Nat) (hn : ¬ (a.1 = j ∧ hasB h 0 j = true)) : getH (act9 h L a) j = getH L j := by
  unfold act9
  by_cases e : hasB h 0 a.1 = true
  · rw [if_pos e, getH_setT, if_neg]
    intro e2
    exact hn ⟨e2.symm, by rw [e2]; exact e⟩
  · rw [if_neg e]
theorem getH_acts (h : Nat) (j : Nat) : ∀ (l : List Act9) (L : List (Nat × List UInt8)), (∀ a ∈ l, ¬ (a.1 = j ∧ hasB h 0 j = true)) → getH (l.foldl (act9 h) L) j = getH L j := by
  intro l
  induction l with
  | nil => exact fun _ _ => rfl
  | cons a l ih => exact fun L hn => (ih _ fun c hc => hn c (by simp [hc])).trans (getH_act h L a j (hn a (by simp)))
theorem getH_drops (h : Nat) (j : Nat) (hj : hasB h 0 j = true) : ∀ (l : List Act9) (L : List (Nat × List UInt8)), ((∃ a ∈ l, a.1 = j) ∨ getH L j = none) → getH (drops9 h L l) j = none := by
  intro l
  induction l with
  | nil =>
    intro L hn
    rcases hn with ⟨a, ha, _⟩ | hn
    · cases ha
    · exact hn
  | cons a l ih =>
    intro L hn
    refine ih _ ?_
    by_cases e : a.1 = j
    · refine .inr ?_
      unfold act9 dropA
      simp only [e, hj, if_true, getH_setT]
    · rcases hn with ⟨c, hc, he⟩ | hn
      · rcases List.mem_cons.1 hc with rfl | hc
        · exact absurd he e
        · exact .inl ⟨c, hc, he⟩
      · exact .inr ((getH_act h L (dropA a) j (fun q => e q.1)).trans hn)
/-- All is dropped. -/
theorem drops_all {h : Nat} (hh : h ≤ 32) {l : List Act9} (ho : okA l) : drops9 h (acts9 h l) l = [] := by
  have g := Gd.acts hh ho
  have g2 := g.drops ho
  refine srt_ext g2.ord srt.nil fun j => ?_
  rw [getH_nil]
  by_cases hj : hasB h 0 j = true
  · refine getH_drops h j hj l _ ?_
    by_cases e : ∃ a ∈ l, a.1 = j
    · exact .inl e
    · refine .inr ?_
      unfold acts9
      rw [getH_acts h j l [] fun a ha q => e ⟨a, ha, q.1⟩]
      rfl
  · cases e : getH (drops9 h (acts9 h l) l) j with
    | none => rfl
    | some x =>
      have := g2.lt _ (getH_some e)
      exact absurd (by unfold hasB; simpa using this) hj
attribute [irreducible] drops9
theorem Gd.bnd {h : Nat} (l : List Act9) : (acts9 h l).length ≤ l.length := by
  have := acts9_le h l l.length (Nat.le_refl _)
  rwa [List.take_length] at this
/-- Whether Both has trees. -/
def bothB (h : Int) (n : Nat) : Prop := n ≤ 25 ∧ 0 ≤ h ∧ h ≤ 32
theorem both_no {Pt : PtT} {w : World} (t : T9c Pt w) (h : Int) (n : Nat) (A : Option Addr) (c : Nat) (W : World) (hW : Below w.heap.size w W) (hn : ¬ bothB h n) :
    Calls Tryd.prog 13 #[.int .i64 h, .slice A n c] W fun r W' => r = .returned (.tuple #[.pointer none, .agg #[.int .i64 0, .slice none 0 0, .slice none 0 0], .bool true, .bool false]) ∧ Below W.heap.size W W' := by
  by_cases h1 : 25 < n
  · exact both_large h n A c W h1
  · exact both_range t h n A c W hW (by omega) (by unfold bothB at hn; omega)
end Go.Proofs.YthkbmpocfpbkoaaDoor
