/-
  Trees as sorted lists of leaves: what is set is found; a node above two; a leaf and its path come to the root. Nothing here walks.
-/
import Derived.Test.YtlmecjnlinalkaaDoorTy
namespace Go.Proofs.YtlmecjnlinalkaaDoor

/-- Leaves in order, each index once. -/
def srt (L : List (Nat × List UInt8)) : Prop := L.Pairwise fun p q => p.1 < q.1
theorem srt.nil : srt [] := List.Pairwise.nil
theorem srt.filter {L : List (Nat × List UInt8)} (h : srt L) (f : Nat × List UInt8 → Bool) : srt (L.filter f) := List.Pairwise.filter f h
/-- A leaf set, said at once. -/
def setT (i : Nat) (h : List UInt8) (L : List (Nat × List UInt8)) : List (Nat × List UInt8) := L.filter (fun p => decide (p.1 < i)) ++ ((if h = emptyL 0 then [] else [(i, h)]) ++ L.filter (fun p => decide (i < p.1)))
theorem fold_in (i : Nat) (h : List UInt8) : ∀ (L M : List (Nat × List UInt8)), L.foldl (stS i h) (true, M) = (true, M ++ L.filter fun p => decide (p.1 ≠ i)) := by
  intro L
  induction L with
  | nil => simp
  | cons p L ih =>
    intro M
    rw [List.foldl_cons]
    by_cases e : p.1 = i
    · have : stS i h (true, M) p = (true, M) := by simp [stS, e]
      rw [this, ih, List.filter_cons_of_neg (by simp [e])]
    · have : stS i h (true, M) p = (true, M ++ [p]) := by simp [stS, e]
      rw [this, ih, List.filter_cons_of_pos (by simp [e])]
      simp
theorem filter_none {L : List (Nat × List UInt8)} {f : Nat × List UInt8 → Bool} (h : ∀ p ∈ L, f p = false) : L.filter f = [] := List.filter_eq_nil_iff.2 fun p hp => by simp [h p hp]
theorem filter_all {L : List (Nat × List UInt8)} {f : Nat × List UInt8 → Bool} (h : ∀ p ∈ L, f p = true) : L.filter f = L := List.filter_eq_self.2 h
theorem fold_out (i : Nat) (h : List UInt8) : ∀ (L M : List (Nat × List UInt8)), srt L → L.foldl (stS i h) (false, M) =
    if L.all (fun p => decide (p.1 < i)) then (false, M ++ L) else (true, M ++ (L.filter (fun p => decide (p.1 < i)) ++ ((i, h) :: L.filter (fun p => decide (i < p.1))))) := by
  intro L
  induction L with
  | nil => simp
  | cons p L ih =>
    intro M hs
    have hs' := List.pairwise_cons.1 hs
    rw [List.foldl_cons]
    by_cases e : p.1 < i
    · have h1 : stS i h (false, M) p = (false, M ++ [p]) := by
        have : ¬ i ≤ p.1 := by omega
        have h2 : ¬ p.1 = i := by omega
        simp [stS, this, h2]
      have h2 : ¬ i < p.1 := by omega
      rw [h1, ih _ hs'.2]
      by_cases hall : L.all (fun p => decide (p.1 < i)) = true
      · rw [if_pos hall, if_pos (by simp only [List.all_cons, hall, e, decide_true, Bool.and_true])]
        simp
      · rw [if_neg hall, if_neg (by simp only [List.all_cons, e, decide_true, Bool.true_and]; exact hall), List.filter_cons_of_pos (by simpa using e), List.filter_cons_of_neg (by simpa using h2)]
        simp
    · have hge : ∀ q ∈ L, i < q.1 := fun q hq => by have := hs'.1 q hq; omega
      have h0 : (p :: L).all (fun p => decide (p.1 < i)) = false := by simp [e]
      rw [h0, if_neg (by simp)]
      rw [List.filter_cons_of_neg (by simpa using e), filter_none (L := L) (f := fun p => decide (p.1 < i)) (fun q hq => by have := hge q hq; simp; omega)]
      by_cases e2 : p.1 = i
      · have h1 : stS i h (false, M) p = (true, M ++ [(i, h)]) := by simp [stS, e2]
        rw [h1, fold_in, List.filter_cons_of_neg (by simp [e2]), filter_all (f := fun p => decide (p.1 ≠ i)) (fun q hq => by have := hge q hq; simp; omega), filter_all (f := fun p => decide (i < p.1)) (fun q hq => by simpa using hge q hq)]
        simp
      · have h1 : stS i h (false, M) p = (true, M ++ [(i, h)] ++ [p]) := by
          have : i ≤ p.1 := by omega
          simp [stS, e2, this]
        rw [h1, fold_in, List.filter_cons_of_pos (by simp; omega), filter_all (f := fun p => decide (p.1 ≠ i)) (fun q hq => by have := hge q hq; simp; omega), filter_all (f := fun p => decide (i < p.1)) (fun q hq => by simpa using hge q hq)]
        simp
/-- The document's way to set a leaf, where leaves are in order. -/
theorem setS_eq {i : Nat} {h : List UInt8} {L : List (Nat × List UInt8)} (hs : srt L) : setS i h L = setT i h L := by
  unfold setS setF setT
  by_cases e : h = emptyL 0
  · have h0 : (h == emptyL 0) = true := by simp [e]
    rw [h0, fold_in, if_pos rfl, if_pos e, List.nil_append, List.nil_append]
    show L.filter (fun p => decide (p.1 ≠ i)) = _
    clear e h0
    induction L with
    | nil => rfl
    | cons p L ih =>
      have hs' := List.pairwise_cons.1 hs
      by_cases h1 : p.1 < i
      · rw [List.filter_cons_of_pos (by simp; omega), List.filter_cons_of_pos (by simpa using h1), List.filter_cons_of_neg (by simp; omega), ih hs'.2, List.cons_append]
      · have hge : ∀ q ∈ L, i < q.1 := fun q hq => by have := hs'.1 q hq; omega
        rw [List.filter_cons_of_neg (p := fun q : Nat × List UInt8 => decide (q.1 < i)) (by simpa using h1), filter_none (L := L) (f := fun p => decide (p.1 < i)) (fun q hq => by have := hge q hq; simp; omega), List.nil_append]
        by_cases h2 : p.1 = i
        · rw [List.filter_cons_of_neg (by simp [h2]), List.filter_cons_of_neg (by simp [h2]), filter_all (f := fun p => decide (p.1 ≠ i)) (fun q hq => by have := hge q hq; simp; omega), filter_all (f := fun p => decide (i < p.1)) (fun q hq => by simpa using hge q hq)]
        · rw [List.filter_cons_of_pos (by simp [h2]), List.filter_cons_of_pos (by simp; omega), filter_all (f := fun p => decide (p.1 ≠ i)) (fun q hq => by have := hge q hq; simp; omega), filter_all (f := fun p => decide (i < p.1)) (fun q hq => by simpa using hge q hq)]
  · have h0 : (h == emptyL 0) = false := by simpa using e
    rw [h0, fold_out i h L [] hs, if_neg e]
    by_cases hall : L.all (fun p => decide (p.1 < i)) = true
    · rw [if_pos hall]
      have hlt : ∀ q ∈ L, q.1 < i := fun q hq => by simpa using List.all_eq_true.1 hall q hq
      rw [if_neg (by simp), filter_all (f := fun p => decide (p.1 < i)) (fun q hq => by simpa using hlt q hq), filter_none (f := fun p => decide (i < p.1)) (fun q hq => by have := hlt q hq; simp; omega)]
      simp
    · rw [if_neg hall, if_pos rfl]
      simp
theorem mem_setT {i : Nat} {h : List UInt8} {L : List (Nat × List UInt8)} {p : Nat × List UInt8} (hp : p ∈ setT i h L) : p ∈ L ∨ (p = (i, h) ∧ h ≠ emptyL 0) := by
  unfold setT at hp
  rcases List.mem_append.1 hp with hp | hp
  · exact .inl (List.mem_filter.1 hp).1
  rcases List.mem_append.1 hp with hp | hp
  · by_cases e : h = emptyL 0
    · rw [if_pos e] at hp; cases hp
    · rw [if_neg e] at hp
      exact .inr ⟨by simpa using hp, e⟩
  · exact .inl (List.mem_filter.1 hp).1
theorem srt.setT {i : Nat} {h : List UInt8} {L : List (Nat × List UInt8)} (hs : srt L) : srt (setT i h L) := by
  unfold Go.Proofs.YtlmecjnlinalkaaDoor.setT
  refine List.pairwise_append.2 ⟨hs.filter _, List.pairwise_append.2 ⟨?_, hs.filter _, ?_⟩, ?_⟩
  · split
    · exact List.Pairwise.nil
    · exact List.pairwise_cons.2 ⟨fun _ h => (nomatch h), List.Pairwise.nil⟩
  · intro p hp q hq
    split at hp
    · cases hp
    · obtain rfl : p = (i, h) := by simpa using hp
      simpa using (List.mem_filter.1 hq).2
  · intro p hp q hq
    have h1 : p.1 < i := by simpa using (List.mem_filter.1 hp).2
    rcases List.mem_append.1 hq with hq | hq
    · split at hq
      · cases hq
      · obtain rfl : q = (i, h) := by simpa using hq
        exact h1
    · have h2 : i < q.1 := by simpa using (List.mem_filter.1 hq).2
      omega
theorem filter_two {L : List (Nat × List UInt8)} (i : Nat) : (L.filter fun p => decide (p.1 < i)).length + (L.filter fun p => decide (i < p.1)).length ≤ L.length := by
  induction L with
  | nil => simp
  | cons p L ih =>
    by_cases h1 : p.1 < i
    · rw [List.filter_cons_of_pos (by simpa using h1), List.filter_cons_of_neg (by simp; omega)]
      simp only [List.length_cons]
      omega
    · rw [List.filter_cons_of_neg (p := fun q : Nat × List UInt8 => decide (q.1 < i)) (by simpa using h1)]
      by_cases h2 : i < p.1
      · rw [List.filter_cons_of_pos (by simpa using h2)]
        simp only [List.length_cons]
        omega
      · rw [List.filter_cons_of_neg (by simpa using h2)]
        simp only [List.length_cons]
        omega
theorem setT_le (i : Nat) (h : List UInt8) (L : List (Nat × List UInt8)) : (setT i h L).length ≤ L.length + 1 := by
  unfold setT
  have := filter_two (L := L) i
  rw [List.length_append, List.length_append]
  split
  · simp only [List.length_nil]; omega
  · simp only [List.length_cons, List.length_nil]; omega
/-- The leaf of an index, where there is one. -/
def getH (L : List (Nat × List UInt8)) (i : Nat) : Option (List UInt8) := (L.find? fun p => p.1 == i).map (·.2)
theorem getH_nil (i : Nat) : getH [] i = none := rfl
theorem getH_cons (p : Nat × List UInt8) (L : List (Nat × List UInt8)) (i : Nat) : getH (p :: L) i = if p.1 = i then some p.2 else getH L i := by
  unfold getH
  rw [List.find?_cons]
  by_cases e : p.1 = i
  · simp [e]
  · have : (p.1 == i) = false := by simpa using e
    rw [this, if_neg e]
theorem getH_append (L M : List (Nat × List UInt8)) (i : Nat) : getH (L ++ M) i = (getH L i).or (getH M i) := by
  induction L with
  | nil => simp [getH_nil]
  | cons p L ih =>
    rw [List.cons_append, getH_cons, getH_cons, ih]
    split <;> simp
theorem getH_none {L : List (Nat × List UInt8)} {i : Nat} (h : ∀ p ∈ L, p.1 ≠ i) : getH L i = none := by
  induction L with
  | nil => rfl
  | cons p L ih => rw [getH_cons, if_neg (h p (by simp)), ih fun q hq => h q (by simp [hq])]
theorem getH_filter {L : List (Nat × List UInt8)} {f : Nat → Bool} {i : Nat} (h : f i = true) : getH (L.filter fun p => f p.1) i = getH L i := by
  induction L with
  | nil => rfl
  | cons p L ih =>
    by_cases e : f p.1 = true
    · rw [List.filter_cons_of_pos (p := fun q : Nat × List UInt8 => f q.1) (by exact e), getH_cons, getH_cons, ih]
    · rw [List.filter_cons_of_neg (p := fun q : Nat × List UInt8 => f q.1) (by exact e), getH_cons, ih, if_neg]
      intro e2
      rw [e2] at e
      exact e h
theorem getH_setT (i : Nat) (h : List UInt8) (L : List (Nat × List UInt8)) (j : Nat) : getH (setT i h L) j = if j = i then (if h = emptyL 0 then none else some h) else getH L j := by
  unfold setT
  rw [getH_append, getH_append]
  by_cases e : j = i
  · subst e
    rw [if_pos rfl, getH_none (L := L.filter _) (fun p hp => by have := (List.mem_filter.1 hp).2; simp at this; omega), getH_none (L := L.filter (fun p => decide (j < p.1))) (fun p hp => by have := (List.mem_filter.1 hp).2; simp at this; omega)]
    split
    · rfl
    · rw [getH_cons, if_pos rfl]; rfl
  · rw [if_neg e]
    have hm : getH (if h = emptyL 0 then [] else [(i, h)]) j = none := by
      split
      · rfl
      · rw [getH_cons, if_neg (fun q => e q.symm)]; rfl
    rw [hm, Option.none_or]
    by_cases h1 : j < i
    · rw [getH_filter (f := fun k => decide (k < i)) (by simpa using h1), getH_none (L := L.filter (fun p => decide (i < p.1))) (fun p hp => by have := (List.mem_filter.1 hp).2; simp at this; omega), Option.or_none]
    · rw [getH_none (L := L.filter (fun p => decide (p.1 < i))) (fun p hp => by have := (List.mem_filter.1 hp).2; simp at this; omega), Option.none_or, getH_filter (f := fun k => decide (i < k)) (by simp; omega)]
theorem getH_some {L : List (Nat × List UInt8)} {i : Nat} {h : List UInt8} (e : getH L i = some h) : (i, h) ∈ L := by
  induction L with
  | nil => cases e
  | cons p L ih =>
    rw [getH_cons] at e
    by_cases q : p.1 = i
    · rw [if_pos q] at e
      have : p = (i, h) := by
        cases p
        simp at q e
        simp [q, e]
      simp [this]
    · rw [if_neg q] at e
      exact List.mem_cons_of_mem _ (ih e)
theorem getH_mem {L : List (Nat × List UInt8)} (hs : srt L) {p : Nat × List UInt8} (hp : p ∈ L) : getH L p.1 = some p.2 := by
  induction L with
  | nil => cases hp
  | cons q L ih =>
    have hs' := List.pairwise_cons.1 hs
    rw [getH_cons]
    rcases List.mem_cons.1 hp with rfl | hp
    · rw [if_pos rfl]
    · have := hs'.1 p hp
      rw [if_neg (by omega), ih hs'.2 hp]
/-- Leaves in order with the same leaf at each index are the same. -/
theorem srt_ext : ∀ {L M : List (Nat × List UInt8)}, srt L → srt M → (∀ i, getH L i = getH M i) → L = M := by
  intro L
  induction L with
  | nil =>
    intro M _ _ h
    cases M with
    | nil => rfl
    | cons q M => have := h q.1; rw [getH_cons, if_pos rfl] at this; cases this
  | cons p L ih =>
    intro M hL hM h
    cases M with
    | nil => have := h p.1; rw [getH_cons, if_pos rfl] at this; cases this
    | cons q M =>
      have hL' := List.pairwise_cons.1 hL
      have hM' := List.pairwise_cons.1 hM
      have h1 := getH_some (L := q :: M) (i := p.1) (h := p.2) (by rw [← h, getH_cons, if_pos rfl])
      have h2 := getH_some (L := p :: L) (i := q.1) (h := q.2) (by rw [h, getH_cons, if_pos rfl])
      have e : p.1 = q.1 := by
        rcases List.mem_cons.1 h1 with h1 | h1
        · rw [← h1]
        · rcases List.mem_cons.1 h2 with h2 | h2
          · rw [← h2]
          · have := hM'.1 _ h1
            have := hL'.1 _ h2
            simp at *
            omega
      have e2 : p.2 = q.2 := by
        have := h p.1
        rw [getH_cons, if_pos rfl, getH_cons, if_pos e.symm] at this
        exact Option.some.inj this
      have e3 : p = q := Prod.ext e e2
      subst e3
      rw [ih hL'.2 hM'.2 fun i => ?_]
      have := h i
      rw [getH_cons, getH_cons] at this
      by_cases hi : p.1 = i
      · subst hi
        rw [getH_none fun r hr => by have := hL'.1 r hr; omega, getH_none fun r hr => by have := hM'.1 r hr; omega]
      · rwa [if_neg hi, if_neg hi] at this
/-- The node of level 0 is the leaf. -/
theorem nodeS_leaf {L : List (Nat × List UInt8)} (i : Nat) : nodeS 0 i L = (getH L i).getD (emptyL 0) := by
  unfold nodeS
  have hb : bS 0 i L = L.filter fun p => p.1 == i := by unfold bS; simp
  rw [hb]
  induction L with
  | nil => simp [getH_nil, partS_nil]
  | cons p L ih =>
    by_cases e : p.1 = i
    · rw [List.filter_cons_of_pos (by simp [e]), partS_zero, getH_cons, if_pos e]; rfl
    · rw [List.filter_cons_of_neg (by simpa using e), getH_cons, if_neg e]
      exact ih (by unfold bS; simp)
theorem shr_half (x n : Nat) : x >>> (n + 1) = (x >>> n) / 2 := by rw [Nat.shiftRight_succ]
/-- A node is joined of the two below. -/
theorem nodeS_step {L : List (Nat × List UInt8)} (n pl : Nat) (hpl : 2 * pl + 1 < 18446744073709551616) : nodeS (n + 1) pl L = hashL (joinT (n + 1) (nodeS n (2 * pl) L) (nodeS n (2 * pl + 1) L)) := by
  have h1 : 2 * pl % 18446744073709551616 = 2 * pl := Nat.mod_eq_of_lt (by omega)
  have h2 : (2 * pl + 1) % 18446744073709551616 = 2 * pl + 1 := Nat.mod_eq_of_lt hpl
  have hl : lS n pl (bS (n + 1) pl L) = bS n (2 * pl) L := by
    unfold lS bS
    rw [h1, List.filter_filter]
    refine List.filter_congr fun p _ => ?_
    have := shr_half p.1 n
    by_cases e : p.1 >>> n = 2 * pl
    · have e2 : p.1 >>> (n + 1) = pl := by omega
      simp [e, e2]
    · have : (p.1 >>> n == 2 * pl) = false := by simpa using e
      simp [this]
  have hr : rS n pl (bS (n + 1) pl L) = bS n (2 * pl + 1) L := by
    unfold rS bS
    rw [h1, List.filter_filter]
    refine List.filter_congr fun p _ => ?_
    have := shr_half p.1 n
    by_cases e : p.1 >>> n = 2 * pl + 1
    · have e2 : p.1 >>> (n + 1) = pl := by omega
      simp [e, e2]
    · have e0 : (p.1 >>> n == 2 * pl + 1) = false := by simpa using e
      rw [e0]
      by_cases e3 : p.1 >>> (n + 1) = pl
      · have : p.1 >>> n = 2 * pl := by omega
        simp [this]
      · simp [e3]
  unfold nodeS
  by_cases hn : bS (n + 1) pl L = []
  · rw [← hl, ← hr, hn, partS_nil]
    have e1 : lS n pl [] = [] := by unfold lS; rfl
    have e2 : rS n pl [] = [] := by unfold rS; rfl
    rw [e1, e2, partS_nil, partS_nil, emptyL_succ]
  · rw [partS_succ n pl hn, h1, h2, hl, hr]
end Go.Proofs.YtlmecjnlinalkaaDoor
