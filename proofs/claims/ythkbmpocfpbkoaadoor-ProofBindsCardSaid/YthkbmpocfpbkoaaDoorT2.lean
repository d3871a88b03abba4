/-
  Layer 9, the document's side: a tree that grows leaf by leaf; Resize.
  Layer 9, the document's side: Set.
  Trees as sorted lists of leaves: what is set is found; a node above two; a leaf and its path come to the root. Nothing here walks.
-/
import Derived.Test.YthkbmpocfpbkoaaDoorJ5
namespace Go.Proofs.YthkbmpocfpbkoaaDoor
open Go.RowKit

theorem Al.setCell {W : World} {base : Nat} {v u : Value} {L : List (Nat × List UInt8)} {p : Addr} (h : Al W base v L) (hp : p.block < base) : Al (W.setCell p u) base v L := by
  refine ⟨h.1, ?_⟩
  rcases h.2 with h2 | ⟨g, cap, cur, rfl, hb1, hh, r⟩
  · exact .inl h2
  · exact .inr ⟨g, cap, cur, rfl, hb1, (Below.heap_setCell W p u g (by omega)).trans hh, r⟩
/-- A tree whose leaves grow, in block X; blocks ahead of it. -/
structure OtW (w : World) (F : List (Nat × Array Value × TypeId)) (X : Nat) (h : Int) (E : Option Addr) (cE : Nat) (va : Value) (LA : List (Nat × List UInt8)) (W : World) : Prop where
  f : ∀ q ∈ F, At W q.1 q.2.1 q.2.2 ∧ q.1 < X
  o : At W X #[.int .i64 h, va, .slice E 33 cE] 28
  a : Al W (X + 1) va LA
  lo : w.heap.size ≤ X
  below : Below w.heap.size w W
section
variable {w W W' : World} {F : List (Nat × Array Value × TypeId)} {X cE : Nat} {h : Int} {E : Option Addr} {va v : Value} {LA : List (Nat × List UInt8)} {p : Nat × List UInt8}
theorem OtW.new (k : OtW w F X h E cE va LA W) (hb : Below W.heap.size W W') : OtW w F X h E cE va LA W' := ⟨fun q hq => ⟨(k.f q hq).1.new_ hb, (k.f q hq).2⟩, k.o.new_ hb, k.a.kept hb, k.lo, k.below.trans (hb.mono k.below.size)⟩
theorem OtW.drew (k : OtW w F X h E cE va LA W) : OtW w F X h E cE va LA W.drew := ⟨k.f, k.o, k.a, k.lo, k.below.drew⟩
theorem OtW.cell (k : OtW w F X h E cE va LA W) : W.cell? ⟨X, 1, none⟩ = some va := by rw [k.o.cell]; rfl
/-- A leaf went in. -/
theorem OtW.push (k : OtW w F X h E cE va LA W) (ha : Al W' (X + 1) v (LA ++ [p])) (hg : W.grownBy W' va.ownBlock) : OtW w F X h E cE v (LA ++ [p]) (W'.setCell ⟨X, 1, none⟩ v) := by
  have hne : ∀ g, g ≤ X → va.ownBlock ≠ some g := fun g hg' e => by
    have := (k.a.lt _ e).1
    omega
  have hX : At W' X #[.int .i64 h, va, .slice E 33 cE] 28 := k.o.grown hg (hne X (Nat.le_refl _))
  refine ⟨fun q hq => ?_, hX.put 1 v, ha.setCell (by show X < X + 1; omega), k.lo, (k.below.grown hg k.below.size (fun j hj => ?_)).setCell (p := ⟨X, 1, none⟩) k.lo v⟩
  · obtain ⟨h1, h2⟩ := k.f q hq
    exact ⟨(h1.grown hg (hne _ (by omega))).far (p := ⟨X, 1, none⟩) (by show q.1 ≠ X; omega) v, h2⟩
  · have := (k.a.lt _ hj).1
    have := k.lo
    omega
end
end Go.Proofs.YthkbmpocfpbkoaaDoor

namespace Go.Proofs.YthkbmpocfpbkoaaDoor
open Go.RowKit

end Go.Proofs.YthkbmpocfpbkoaaDoor

namespace Go.Proofs.YthkbmpocfpbkoaaDoor

/-- Leaves in order, each index once. -/
def srt (L : List (Nat × List UInt8)) : Prop := L.Pairwise fun p q => p.1 < q.1
theorem srt.nil : srt [] := List.Pairwise.nil
theorem srt.filter {L : List (Nat × List UInt8)} (h : srt L) (f : Nat × List UInt8 → Bool) : srt (L.filter f) := List.Pairwise.filter f h
/-- A leaf set, said at once. -/
def setT (i : Nat) (h : List UInt8) (L : List (Nat × List UInt8)) : List (Nat × List UInt8) := L.filter (fun p => decide (p.1 < i)) ++ ((if h = emptyL 0 then [] else [(i, h)]) ++ L.filter (fun p => decide (i < p.1)))
theorem mem_setT {i : Nat} {h : List UInt8} {L : List (Nat × List UInt8)} {p : Nat × List UInt8} (hp : p ∈ setT i h L) : p ∈ L ∨ (p = (i, h) ∧ h ≠ emptyL 0) := by
  unfold setT at hp
  rcases List.mem_append.1 hp with hp | hp
  · exact .inl (List.mem_filter.1 hp).1
  rcases List.mem_append.1 hp with hp | hp
  · by_cases e : h = emptyL 0
    · rw [if_pos e] at hp; cases hp
    · rw [if_neg e] at hp
      exact .inr ⟨by simpa using hp, e⟩
  · exact .inl (List.mem_filter.1 hp).1
theorem srt.setT {i : Nat} {h : List UInt8} {L : List (Nat × List UInt8)} (hs : srt L) : srt (setT i h L) := by
  unfold Go.Proofs.YthkbmpocfpbkoaaDoor.setT
  refine List.pairwise_append.2 ⟨hs.filter _, List.pairwise_append.2 ⟨?_, hs.filter _, ?_⟩, ?_⟩
  · split
    · exact List.Pairwise.nil
    · exact List.pairwise_cons.2 ⟨fun _ h => (nomatch h), List.Pairwise.nil⟩
  · intro p hp q hq
    split at hp
    · cases hp
    · obtain rfl : p = (i, h) := by simpa using hp
      simpa using (List.mem_filter.1 hq).2
  · intro p hp q hq
    have h1 : p.1 < i := by simpa using (List.mem_filter.1 hp).2
    rcases List.mem_append.1 hq with hq | hq
    · split at hq
      · cases hq
      · obtain rfl : q = (i, h) := by simpa using hq
        exact h1
    · have h2 : i < q.1 := by simpa using (List.mem_filter.1 hq).2
      omega
theorem filter_two {L : List (Nat × List UInt8)} (i : Nat) : (L.filter fun p => decide (p.1 < i)).length + (L.filter fun p => decide (i < p.1)).length ≤ L.length := by
  induction L with
  | nil => simp
  | cons p L ih =>
    by_cases h1 : p.1 < i
    · rw [List.filter_cons_of_pos (by simpa using h1), List.filter_cons_of_neg (by simp; omega)]
      simp only [List.length_cons]
      omega
    · rw [List.filter_cons_of_neg (p := fun q : Nat × List UInt8 => decide (q.1 < i)) (by simpa using h1)]
      by_cases h2 : i < p.1
      · rw [List.filter_cons_of_pos (by simpa using h2)]
        simp only [List.length_cons]
        omega
      · rw [List.filter_cons_of_neg (by simpa using h2)]
        simp only [List.length_cons]
        omega
theorem setT_le (i : Nat) (h : List UInt8) (L : List (Nat × List UInt8)) : (setT i h L).length ≤ L.length + 1 := by
  unfold setT
  have := filter_two (L := L) i
  rw [List.length_append, List.length_append]
  split
  · simp only [List.length_nil]; omega
  · simp only [List.length_cons, List.length_nil]; omega
/-- The leaf of an index, where there is one. -/
def getH (L : List (Nat × List UInt8)) (i : Nat) : Option (List UInt8) := (L.find? fun p => p.1 == i).map (·.2)
theorem getH_nil (i : Nat) : getH [] i = none := rfl
theorem getH_cons (p : Nat × List UInt8) (L : List (Nat × List UInt8)) (i : Nat) : getH (p :: L) i = if p.1 = i then some p.2 else getH L i := by
  unfold getH
  rw [List.find?_cons]
  by_cases e : p.1 = i
  · simp [e]
  · have : (p.1 == i) = false := by simpa using e
    rw [this, if_neg e]
theorem getH_append (L M : List (Nat × List UInt8)) (i : Nat) : getH (L ++ M) i = (getH L i).or (getH M i) := by
  induction L with
  | nil => simp [getH_nil]
  | cons p L ih =>
    rw [List.cons_append, getH_cons, getH_cons, ih]
    split <;> simp
theorem getH_none {L : List (Nat × List UInt8)} {i : Nat} (h : ∀ p ∈ L, p.1 ≠ i) : getH L i = none := by
  induction L with
  | nil => rfl
  | cons p L ih => rw [getH_cons, if_neg (h p (by simp)), ih fun q hq => h q (by simp [hq])]
theorem getH_filter {L : List (Nat × List UInt8)} {f : Nat → Bool} {i : Nat} (h : f i = true) : getH (L.filter fun p => f p.1) i = getH L i := by
  induction L with
  | nil => rfl
  | cons p L ih =>
    by_cases e : f p.1 = true
    · rw [List.filter_cons_of_pos (p := fun q : Nat × List UInt8 => f q.1) (by exact e), getH_cons, getH_cons, ih]
    · rw [List.filter_cons_of_neg (p := fun q : Nat × List UInt8 => f q.1) (by exact e), getH_cons, ih, if_neg]
      intro e2
      rw [e2] at e
      exact e h
theorem getH_setT (i : Nat) (h : List UInt8) (L : List (Nat × List UInt8)) (j : Nat) : getH (setT i h L) j = if j = i then (if h = emptyL 0 then none else some h) else getH L j := by
  unfold setT
  rw [getH_append, getH_append]
  by_cases e : j = i
  · subst e
    rw [if_pos rfl, getH_none (L := L.filter _) (fun p hp => by have := (List.mem_filter.1 hp).2; simp at this; omega), getH_none (L := L.filter (fun p => decide (j < p.1))) (fun p hp => by have := (List.mem_filter.1 hp).2; simp at this; omega)]
    split
    · rfl
    · rw [getH_cons, if_pos rfl]; rfl
  · rw [if_neg e]
    have hm : getH (if h = emptyL 0 then [] else [(i, h)]) j = none := by
      split
      · rfl
      · rw [getH_cons, if_neg (fun q => e q.symm)]; rfl
    rw [hm, Option.none_or]
    by_cases h1 : j < i
    · rw [getH_filter (f := fun k => decide (k < i)) (by simpa using h1), getH_none (L := L.filter (fun p => decide (i < p.1))) (fun p hp => by have := (List.mem_filter.1 hp).2; simp at this; omega), Option.or_none]
    · rw [getH_none (L := L.filter (fun p => decide (p.1 < i))) (fun p hp => by have := (List.mem_filter.1 hp).2; simp at this; omega), Option.none_or, getH_filter (f := fun k => decide (i < k)) (by simp; omega)]
theorem getH_some {L : List (Nat × List UInt8)} {i : Nat} {h : List UInt8} (e : getH L i = some h) : (i, h) ∈ L := by
  induction L with
  | nil => cases e
  | cons p L ih =>
    rw [getH_cons] at e
    by_cases q : p.1 = i
    · rw [if_pos q] at e
      have : p = (i, h) := by
        cases p
        simp at q e
        simp [q, e]
      simp [this]
    · rw [if_neg q] at e
      exact List.mem_cons_of_mem _ (ih e)
theorem getH_mem {L : List (Nat × List UInt8)} (hs : srt L) {p : Nat × List UInt8} (hp : p ∈ L) : getH L p.1 = some p.2 := by
  induction L with
  | nil => cases hp
  | cons q L ih =>
    have hs' := List.pairwise_cons.1 hs
    rw [getH_cons]
    rcases List.mem_cons.1 hp with rfl | hp
    · rw [if_pos rfl]
    · have := hs'.1 p hp
      rw [if_neg (by omega), ih hs'.2 hp]
/-- Leaves in order with the same leaf at each index are the same. -/
theorem srt_ext : ∀ {L M : List (Nat × List UInt8)}, srt L → srt M → (∀ i, getH L i = getH M i) → L = M := by
  intro L
  induction L with
  | nil =>
    intro M _ _ h
    cases M with
    | nil => rfl
    | cons q M => have := h q.1; rw [getH_cons, if_pos rfl] at this; cases this
  | cons p L ih =>
    intro M hL hM h
    cases M with
    | nil => have := h p.1; rw [getH_cons, if_pos rfl] at this; cases this
    | cons q M =>
      have hL' := List.pairwise_cons.1 hL
      have hM' := List.pairwise_cons.1 hM
      have h1 := getH_some (L := q :: M) (i := p.1) (h := p.2) (by rw [← h, getH_cons, if_pos rfl])
      have h2 := getH_some (L := p :: L) (i := q.1) (h := q.2) (by rw [h, getH_cons, if_pos rfl])
      have e : p.1 = q.1 := by
        rcases List.mem_cons.1 h1 with h1 | h1
        · rw [← h1]
        · rcases List.mem_cons.1 h2 with h2 | h2
          · rw [← h2]
          · have := hM'.1 _ h1
            have := hL'.1 _ h2
            simp at *
            omega
      have e2 : p.2 = q.2 := by
        have := h p.1
        rw [getH_cons, if_pos rfl, getH_cons, if_pos e.symm] at this
        exact Option.some.inj this
      have e3 : p = q := Prod.ext e e2
      subst e3
      rw [ih hL'.2 hM'.2 fun i => ?_]
      have := h i
      rw [getH_cons, getH_cons] at this
      by_cases hi : p.1 = i
      · subst hi
        rw [getH_none fun r hr => by have := hL'.1 r hr; omega, getH_none fun r hr => by have := hM'.1 r hr; omega]
      · rwa [if_neg hi, if_neg hi] at this
/-- The node of level 0 is the leaf. -/
theorem nodeS_leaf {L : List (Nat × List UInt8)} (i : Nat) : nodeS 0 i L = (getH L i).getD (emptyL 0) := by
  unfold nodeS
  have hb : bS 0 i L = L.filter fun p => p.1 == i := by unfold bS; simp
  rw [hb]
  induction L with
  | nil => simp [getH_nil, partS_nil]
  | cons p L ih =>
    by_cases e : p.1 = i
    · rw [List.filter_cons_of_pos (by simp [e]), partS_zero, getH_cons, if_pos e]; rfl
    · rw [List.filter_cons_of_neg (by simpa using e), getH_cons, if_neg e]
      exact ih (by unfold bS; simp)
theorem shr_half (x n : Nat) : x >>> (n + 1) = (x >>> n) / 2 := by rw [Nat.shiftRight_succ]
/-- A node is joined of the two below. -/
theorem nodeS_step {L : List (Nat × List UInt8)} (n pl : Nat) (hpl : 2 * pl + 1 < 18446744073709551616) : nodeS (n + 1) pl L = hashL (joinT (n + 1) (nodeS n (2 * pl) L) (nodeS n (2 * pl + 1) L)) := by
  have h1 : 2 * pl % 18446744073709551616 = 2 * pl := Nat.mod_eq_of_lt (by omega)
  have h2 : (2 * pl + 1) % 18446744073709551616 = 2 * pl + 1 := Nat.mod_eq_of_lt hpl
  have hl : lS n pl (bS (n + 1) pl L) = bS n (2 * pl) L := by
    unfold lS bS
    rw [h1, List.filter_filter]
    refine List.filter_congr fun p _ => ?_
    have := shr_half p.1 n
    by_cases e : p.1 >>> n = 2 * pl
    · have e2 : p.1 >>> (n + 1) = pl := by omega
      simp [e, e2]
    · have : (p.1 >>> n == 2 * pl) = false := by simpa using e
      simp [this]
  have hr : rS n pl (bS (n + 1) pl L) = bS n (2 * pl + 1) L := by
    unfold rS bS
    rw [h1, List.filter_filter]
    refine List.filter_congr fun p _ => ?_
    have := shr_half p.1 n
    by_cases e : p.1 >>> n = 2 * pl + 1
    · have e2 : p.1 >>> (n + 1) = pl := by omega
      simp [e, e2]
    · have e0 : (p.1 >>> n == 2 * pl + 1) = false := by simpa using e
      rw [e0]
      by_cases e3 : p.1 >>> (n + 1) = pl
      · have : p.1 >>> n = 2 * pl := by omega
        simp [this]
      · simp [e3]
  unfold nodeS
  by_cases hn : bS (n + 1) pl L = []
  · rw [← hl, ← hr, hn, partS_nil]
    have e1 : lS n pl [] = [] := by unfold lS; rfl
    have e2 : rS n pl [] = [] := by unfold rS; rfl
    rw [e1, e2, partS_nil, partS_nil, emptyL_succ]
  · rw [partS_succ n pl hn, h1, h2, hl, hr]
end Go.Proofs.YthkbmpocfpbkoaaDoor
