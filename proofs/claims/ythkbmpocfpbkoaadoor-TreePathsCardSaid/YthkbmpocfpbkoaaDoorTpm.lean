/-
  TreePaths of layer 9, what leaves come to: set in order, or from the last one on with the last hash of each index. Nothing here walks.
-/
import Derived.Test.YthkbmpocfpbkoaaDoorTn
namespace Go.Proofs.YthkbmpocfpbkoaaDoor

def setA (a : Act9) : Act9 := (a.1, a.2.1, false)
def sets9 (h : Nat) (l : List Act9) : List (Nat × List UInt8) := l.foldl (fun L a => act9 h L (setA a)) []
theorem sets9_zero (h : Nat) (l : List Act9) : sets9 h (l.take 0) = [] := rfl
theorem sets9_next (h : Nat) (l : List Act9) (k : Nat) (hk : k < l.length) : sets9 h (l.take (k + 1)) = (if hasB h 0 (l[k]).1 then setT (l[k]).1 (l[k]).2.1 (sets9 h (l.take k)) else sets9 h (l.take k)) := by
  unfold sets9
  rw [List.take_succ_eq_append_getElem hk, List.foldl_append]
  show act9 h _ (setA _) = _
  unfold act9 setA
  rfl
theorem Gd.sets {h : Nat} (hh : h ≤ 32) {l : List Act9} (ho : okA l) : Gd h (sets9 h l) := by
  have : ∀ (l : List Act9) (L : List (Nat × List UInt8)), okA l → Gd h L → Gd h (l.foldl (fun L a => act9 h L (setA a)) L) := by
    intro l
    induction l with
    | nil => exact fun L _ g => g
    | cons a l ih => exact fun L ho g => ih _ (fun b hb => ho b (by simp [hb])) (g.act (a := setA a) (ho a (by simp)).2)
  exact this l [] ho (Gd.nil hh)
theorem sets9_le (h : Nat) (l : List Act9) : ∀ k, k ≤ l.length → (sets9 h (l.take k)).length ≤ k := by
  intro k
  induction k with
  | zero => intro _; rw [sets9_zero]; simp
  | succ k ih =>
    intro hk
    rw [sets9_next h l k (by omega)]
    have := ih (by omega)
    split
    · have := setT_le (l[k]).1 (l[k]).2.1 (sets9 h (l.take k)); omega
    · omega
/-- The last hash of each index. -/
def lastN (h : Nat) (f : Nat → Option (List UInt8)) (a : Act9) : Nat → Option (List UInt8) := if hasB h 0 a.1 then (fun i => if i = a.1 then some a.2.1 else f i) else f
def lastS (h : Nat) (l : List Act9) : Nat → Option (List UInt8) := l.foldl (lastN h) (fun _ => none)
theorem lastS_zero (h : Nat) (l : List Act9) : lastS h (l.take 0) = fun _ => none := rfl
theorem lastS_next (h : Nat) (l : List Act9) (k : Nat) (hk : k < l.length) : lastS h (l.take (k + 1)) = lastN h (lastS h (l.take k)) l[k] := by
  unfold lastS
  rw [List.take_succ_eq_append_getElem hk, List.foldl_append]
  rfl
def fullH : Option (List UInt8) → Option (List UInt8)
  | some x => if x = emptyL 0 then none else some x
  | none => none
theorem getH_sets (h i : Nat) (l : List Act9) : getH (sets9 h l) i = fullH (lastS h l i) := by
  have : ∀ (l : List Act9) (L : List (Nat × List UInt8)) (f : Nat → Option (List UInt8)), (∀ i, getH L i = fullH (f i)) → ∀ i, getH (l.foldl (fun L a => act9 h L (setA a)) L) i = fullH (l.foldl (lastN h) f i) := by
    intro l
    induction l with
    | nil => exact fun L f e => e
    | cons a l ih =>
      intro L f e
      refine ih _ _ fun i => ?_
      show getH (act9 h L (setA a)) i = fullH (lastN h f a i)
      cases hb : hasB h 0 a.1 with
      | false =>
        rw [show act9 h L (setA a) = L by simp [act9, setA, hb], show lastN h f a = f by simp [lastN, hb]]
        exact e i
      | true =>
        rw [show act9 h L (setA a) = setT a.1 a.2.1 L by simp [act9, setA, hb], show lastN h f a = (fun i => if i = a.1 then some a.2.1 else f i) by simp [lastN, hb], getH_setT]
        by_cases q : i = a.1
        · simp [q, fullH]
        · simp [q, e i]
  exact this l [] (fun _ => none) (fun _ => rfl) i
theorem lastS_some {h i : Nat} {x : List UInt8} {l : List Act9} (ho : okA l) (e : lastS h l i = some x) : hasB h 0 i = true ∧ x.length = 32 ∧ ∃ a ∈ l, a.1 = i := by
  have : ∀ (l : List Act9) (f : Nat → Option (List UInt8)) (R : List UInt8 → Prop), okA l → (∀ x, f i = some x → R x) → ∀ x, l.foldl (lastN h) f i = some x → (hasB h 0 i = true ∧ x.length = 32 ∧ ∃ a ∈ l, a.1 = i) ∨ R x := by
    intro l
    induction l with
    | nil => exact fun f R _ hf x e => .inr (hf x e)
    | cons a l ih =>
      intro f R ho hf x e
      have ho' : okA l := fun b hb => ho b (by simp [hb])
      rcases ih (lastN h f a) (fun x => (hasB h 0 i = true ∧ x.length = 32 ∧ a.1 = i) ∨ R x) ho' (fun y hy => by
        unfold lastN at hy
        cases hb : hasB h 0 a.1 with
        | false => rw [hb] at hy; exact .inr (hf y (by simpa using hy))
        | true =>
          rw [hb, if_pos rfl] at hy
          by_cases q : i = a.1
          · simp only [q, if_true] at hy
            rw [← Option.some.inj hy]
            exact .inl ⟨by rw [q]; exact hb, (ho a (by simp)).2, q.symm⟩
          · simp only [q, if_false] at hy
            exact .inr (hf y hy)) x e with ⟨h1, h2, c, hc, h3⟩ | ⟨h1, h2, h3⟩ | h1
      · exact .inl ⟨h1, h2, c, by simp [hc], h3⟩
      · exact .inl ⟨h1, h2, a, by simp, h3⟩
      · exact .inr h1
  rcases this l (fun _ => none) (fun _ => False) ho (fun _ e => nomatch e) x e with h1 | h1
  · exact h1
  · exact h1.elim
/-- Set from the last one on. -/
def back (f : Nat → Option (List UInt8)) : List Act9 → List (Nat × List UInt8)
  | [] => []
  | a :: l => match f a.1 with
    | some x => setT a.1 x (back f l)
    | none => back f l
theorem back_drop (f : Nat → Option (List UInt8)) (l : List Act9) (k : Nat) (hk : k < l.length) : back f (l.drop k) = (match f (l[k]).1 with | some x => setT (l[k]).1 x (back f (l.drop (k + 1))) | none => back f (l.drop (k + 1))) := by
  rw [List.drop_eq_getElem_cons hk]
  rfl
theorem back_srt (f : Nat → Option (List UInt8)) : ∀ l, srt (back f l) := by
  intro l
  induction l with
  | nil => exact srt.nil
  | cons a l ih =>
    unfold back
    split
    · exact ih.setT
    · exact ih
theorem back_le (f : Nat → Option (List UInt8)) : ∀ l, (back f l).length ≤ l.length := by
  intro l
  induction l with
  | nil => exact Nat.le_refl _
  | cons a l ih =>
    unfold back
    split
    · rename_i x _
      have := setT_le a.1 x (back f l)
      simp only [List.length_cons]
      omega
    · simp only [List.length_cons]
      omega
theorem getH_back (f : Nat → Option (List UInt8)) (i : Nat) : ∀ l : List Act9, getH (back f l) i = if l.any (fun a => a.1 == i) then fullH (f i) else none := by
  intro l
  induction l with
  | nil => rfl
  | cons a l ih =>
    unfold back
    by_cases q : a.1 = i
    · subst q
      simp only [List.any_cons, BEq.rfl, Bool.true_or, if_true]
      cases e : f a.1 with
      | none =>
        rw [ih, e]
        simp [fullH]
      | some x =>
        simp only [getH_setT, if_true]
        rfl
    · have q2 : (a.1 == i) = false := by simpa using q
      simp only [List.any_cons, q2, Bool.false_or]
      split
      · rw [getH_setT, if_neg (fun e => q e.symm), ih]
      · exact ih
/-- Both ways come to the same. -/
theorem back_sets {h : Nat} (hh : h ≤ 32) {l : List Act9} (ho : okA l) : back (lastS h l) l = sets9 h l := by
  refine srt_ext (back_srt _ _) (Gd.sets hh ho).ord fun i => ?_
  rw [getH_back, getH_sets]
  cases e : l.any (fun a => a.1 == i) with
  | true => rfl
  | false =>
    cases e2 : lastS h l i with
    | none => rfl
    | some x =>
      obtain ⟨_, _, a, ha, q⟩ := lastS_some ho e2
      have := List.any_eq_false.1 e a ha
      simp [q] at this
attribute [irreducible] sets9 lastS back
end Go.Proofs.YthkbmpocfpbkoaaDoor
