/-
  Layer 9, the document's side: Set.
  Trees as sorted lists of leaves: what is set is found; a node above two; a leaf and its path come to the root. Nothing here walks.
  What layer 9's laws share: what the program's trees answer, said of one world and all later ones, whatever their memory looks like.
  Scripts of leaves that are set and dropped, in memory; what leaves are there behind them; the document's tree and the program's side by side.
  How many bits a number has (math/bits.Len64), and the program's height for a number of blocks.
-/
import Derived.Test.YtdegmcfcbndelaaDoorL2
import Derived.Test.YtdegmcfcbndelaaDoorL1
import Derived.Test.YtdegmcfcbndelaaDoorJ8
import Derived.RangeFuncNested
import Derived.Test.YtdegmcfcbndelaaDoorJ4
import Derived.Test.YtdegmcfcbndelaaDoorY3
namespace Go.Proofs.YtdegmcfcbndelaaDoor
open Go.RowKit

end Go.Proofs.YtdegmcfcbndelaaDoor

namespace Go.Proofs.YtdegmcfcbndelaaDoor

/-- Leaves in order, each index once. -/
def srt (L : List (Nat × List UInt8)) : Prop := L.Pairwise fun p q => p.1 < q.1
theorem srt.nil : srt [] := List.Pairwise.nil
theorem srt.filter {L : List (Nat × List UInt8)} (h : srt L) (f : Nat × List UInt8 → Bool) : srt (L.filter f) := List.Pairwise.filter f h
/-- A leaf set, said at once. -/
def setT (i : Nat) (h : List UInt8) (L : List (Nat × List UInt8)) : List (Nat × List UInt8) := L.filter (fun p => decide (p.1 < i)) ++ ((if h = emptyL 0 then [] else [(i, h)]) ++ L.filter (fun p => decide (i < p.1)))
theorem mem_setT {i : Nat} {h : List UInt8} {L : List (Nat × List UInt8)} {p : Nat × List UInt8} (hp : p ∈ setT i h L) : p ∈ L ∨ (p = (i, h) ∧ h ≠ emptyL 0) := by
  unfold setT at hp
  rcases List.mem_append.1 hp with hp | hp
  · exact .inl (List.mem_filter.1 hp).1
  rcases List.mem_append.1 hp with hp | hp
  · by_cases e : h = emptyL 0
    · rw [if_pos e] at hp; cases hp
    · rw [if_neg e] at hp
      exact .inr ⟨by simpa using hp, e⟩
  · exact .inl (List.mem_filter.1 hp).1
theorem srt.setT {i : Nat} {h : List UInt8} {L : List (Nat × List UInt8)} (hs : srt L) : srt (setT i h L) := by
  unfold Go.Proofs.YtdegmcfcbndelaaDoor.setT
  refine List.pairwise_append.2 ⟨hs.filter _, List.pairwise_append.2 ⟨?_, hs.filter _, ?_⟩, ?_⟩
  · split
    · exact List.Pairwise.nil
    · exact List.pairwise_cons.2 ⟨fun _ h => (nomatch h), List.Pairwise.nil⟩
  · intro p hp q hq
    split at hp
    · cases hp
    · obtain rfl : p = (i, h) := by simpa using hp
      simpa using (List.mem_filter.1 hq).2
  · intro p hp q hq
    have h1 : p.1 < i := by simpa using (List.mem_filter.1 hp).2
    rcases List.mem_append.1 hq with hq | hq
    · split at hq
      · cases hq
      · obtain rfl : q = (i, h) := by simpa using hq
        exact h1
    · have h2 : i < q.1 := by simpa using (List.mem_filter.1 hq).2
      omega
theorem filter_two {L : List (Nat × List UInt8)} (i : Nat) : (L.filter fun p => decide (p.1 < i)).length + (L.filter fun p => decide (i < p.1)).length ≤ L.length := by
  induction L with
  | nil => simp
  | cons p L ih =>
    by_cases h1 : p.1 < i
    · rw [List.filter_cons_of_pos (by simpa using h1), List.filter_cons_of_neg (by simp; omega)]
      simp only [List.length_cons]
      omega
    · rw [List.filter_cons_of_neg (p := fun q : Nat × List UInt8 => decide (q.1 < i)) (by simpa using h1)]
      by_cases h2 : i < p.1
      · rw [List.filter_cons_of_pos (by simpa using h2)]
        simp only [List.length_cons]
        omega
      · rw [List.filter_cons_of_neg (by simpa using h2)]
        simp only [List.length_cons]
        omega
theorem setT_le (i : Nat) (h : List UInt8) (L : List (Nat × List UInt8)) : (setT i h L).length ≤ L.length + 1 := by
  unfold setT
  have := filter_two (L := L) i
  rw [List.length_append, List.length_append]
  split
  · simp only [List.length_nil]; omega
  · simp only [List.length_cons, List.length_nil]; omega
/-- The leaf of an index, where there is one. -/
def getH (L : List (Nat × List UInt8)) (i : Nat) : Option (List UInt8) := (L.find? fun p => p.1 == i).map (·.2)
theorem getH_nil (i : Nat) : getH [] i = none := rfl
theorem getH_cons (p : Nat × List UInt8) (L : List (Nat × List UInt8)) (i : Nat) : getH (p :: L) i = if p.1 = i then some p.2 else getH L i := by
  unfold getH
  rw [List.find?_cons]
  by_cases e : p.1 = i
  · simp [e]
  · have : (p.1 == i) = false := by simpa using e
    rw [this, if_neg e]
theorem getH_append (L M : List (Nat × List UInt8)) (i : Nat) : getH (L ++ M) i = (getH L i).or (getH M i) := by
  induction L with
  | nil => simp [getH_nil]
  | cons p L ih =>
    rw [List.cons_append, getH_cons, getH_cons, ih]
    split <;> simp
theorem getH_none {L : List (Nat × List UInt8)} {i : Nat} (h : ∀ p ∈ L, p.1 ≠ i) : getH L i = none := by
  induction L with
  | nil => rfl
  | cons p L ih => rw [getH_cons, if_neg (h p (by simp)), ih fun q hq => h q (by simp [hq])]
theorem getH_filter {L : List (Nat × List UInt8)} {f : Nat → Bool} {i : Nat} (h : f i = true) : getH (L.filter fun p => f p.1) i = getH L i := by
  induction L with
  | nil => rfl
  | cons p L ih =>
    by_cases e : f p.1 = true
    · rw [List.filter_cons_of_pos (p := fun q : Nat × List UInt8 => f q.1) (by exact e), getH_cons, getH_cons, ih]
    · rw [List.filter_cons_of_neg (p := fun q : Nat × List UInt8 => f q.1) (by exact e), getH_cons, ih, if_neg]
      intro e2
      rw [e2] at e
      exact e h
theorem getH_setT (i : Nat) (h : List UInt8) (L : List (Nat × List UInt8)) (j : Nat) : getH (setT i h L) j = if j = i then (if h = emptyL 0 then none else some h) else getH L j := by
  unfold setT
  rw [getH_append, getH_append]
  by_cases e : j = i
  · subst e
    rw [if_pos rfl, getH_none (L := L.filter _) (fun p hp => by have := (List.mem_filter.1 hp).2; simp at this; omega), getH_none (L := L.filter (fun p => decide (j < p.1))) (fun p hp => by have := (List.mem_filter.1 hp).2; simp at this; omega)]
    split
    · rfl
    · rw [getH_cons, if_pos rfl]; rfl
  · rw [if_neg e]
    have hm : getH (if h = emptyL 0 then [] else [(i, h)]) j = none := by
      split
      · rfl
      · rw [getH_cons, if_neg (fun q => e q.symm)]; rfl
    rw [hm, Option.none_or]
    by_cases h1 : j < i
    · rw [getH_filter (f := fun k => decide (k < i)) (by simpa using h1), getH_none (L := L.filter (fun p => decide (i < p.1))) (fun p hp => by have := (List.mem_filter.1 hp).2; simp at this; omega), Option.or_none]
    · rw [getH_none (L := L.filter (fun p => decide (p.1 < i))) (fun p hp => by have := (List.mem_filter.1 hp).2; simp at this; omega), Option.none_or, getH_filter (f := fun k => decide (i < k)) (by simp; omega)]
theorem getH_some {L : List (Nat × List UInt8)} {i : Nat} {h : List UInt8} (e : getH L i = some h) : (i, h) ∈ L := by
  induction L with
  | nil => cases e
  | cons p L ih =>
    rw [getH_cons] at e
    by_cases q : p.1 = i
    · rw [if_pos q] at e
      have : p = (i, h) := by
        cases p
        simp at q e
        simp [q, e]
      simp [this]
    · rw [if_neg q] at e
      exact List.mem_cons_of_mem _ (ih e)
theorem getH_mem {L : List (Nat × List UInt8)} (hs : srt L) {p : Nat × List UInt8} (hp : p ∈ L) : getH L p.1 = some p.2 := by
  induction L with
  | nil => cases hp
  | cons q L ih =>
    have hs' := List.pairwise_cons.1 hs
    rw [getH_cons]
    rcases List.mem_cons.1 hp with rfl | hp
    · rw [if_pos rfl]
    · have := hs'.1 p hp
      rw [if_neg (by omega), ih hs'.2 hp]
/-- Leaves in order with the same leaf at each index are the same. -/
theorem srt_ext : ∀ {L M : List (Nat × List UInt8)}, srt L → srt M → (∀ i, getH L i = getH M i) → L = M := by
  intro L
  induction L with
  | nil =>
    intro M _ _ h
    cases M with
    | nil => rfl
    | cons q M => have := h q.1; rw [getH_cons, if_pos rfl] at this; cases this
  | cons p L ih =>
    intro M hL hM h
    cases M with
    | nil => have := h p.1; rw [getH_cons, if_pos rfl] at this; cases this
    | cons q M =>
      have hL' := List.pairwise_cons.1 hL
      have hM' := List.pairwise_cons.1 hM
      have h1 := getH_some (L := q :: M) (i := p.1) (h := p.2) (by rw [← h, getH_cons, if_pos rfl])
      have h2 := getH_some (L := p :: L) (i := q.1) (h := q.2) (by rw [h, getH_cons, if_pos rfl])
      have e : p.1 = q.1 := by
        rcases List.mem_cons.1 h1 with h1 | h1
        · rw [← h1]
        · rcases List.mem_cons.1 h2 with h2 | h2
          · rw [← h2]
          · have := hM'.1 _ h1
            have := hL'.1 _ h2
            simp at *
            omega
      have e2 : p.2 = q.2 := by
        have := h p.1
        rw [getH_cons, if_pos rfl, getH_cons, if_pos e.symm] at this
        exact Option.some.inj this
      have e3 : p = q := Prod.ext e e2
      subst e3
      rw [ih hL'.2 hM'.2 fun i => ?_]
      have := h i
      rw [getH_cons, getH_cons] at this
      by_cases hi : p.1 = i
      · subst hi
        rw [getH_none fun r hr => by have := hL'.1 r hr; omega, getH_none fun r hr => by have := hM'.1 r hr; omega]
      · rwa [if_neg hi, if_neg hi] at this
/-- The node of level 0 is the leaf. -/
theorem nodeS_leaf {L : List (Nat × List UInt8)} (i : Nat) : nodeS 0 i L = (getH L i).getD (emptyL 0) := by
  unfold nodeS
  have hb : bS 0 i L = L.filter fun p => p.1 == i := by unfold bS; simp
  rw [hb]
  induction L with
  | nil => simp [getH_nil, partS_nil]
  | cons p L ih =>
    by_cases e : p.1 = i
    · rw [List.filter_cons_of_pos (by simp [e]), partS_zero, getH_cons, if_pos e]; rfl
    · rw [List.filter_cons_of_neg (by simpa using e), getH_cons, if_neg e]
      exact ih (by unfold bS; simp)
theorem shr_half (x n : Nat) : x >>> (n + 1) = (x >>> n) / 2 := by rw [Nat.shiftRight_succ]
/-- A node is joined of the two below. -/
theorem nodeS_step {L : List (Nat × List UInt8)} (n pl : Nat) (hpl : 2 * pl + 1 < 18446744073709551616) : nodeS (n + 1) pl L = hashL (joinT (n + 1) (nodeS n (2 * pl) L) (nodeS n (2 * pl + 1) L)) := by
  have h1 : 2 * pl % 18446744073709551616 = 2 * pl := Nat.mod_eq_of_lt (by omega)
  have h2 : (2 * pl + 1) % 18446744073709551616 = 2 * pl + 1 := Nat.mod_eq_of_lt hpl
  have hl : lS n pl (bS (n + 1) pl L) = bS n (2 * pl) L := by
    unfold lS bS
    rw [h1, List.filter_filter]
    refine List.filter_congr fun p _ => ?_
    have := shr_half p.1 n
    by_cases e : p.1 >>> n = 2 * pl
    · have e2 : p.1 >>> (n + 1) = pl := by omega
      simp [e, e2]
    · have : (p.1 >>> n == 2 * pl) = false := by simpa using e
      simp [this]
  have hr : rS n pl (bS (n + 1) pl L) = bS n (2 * pl + 1) L := by
    unfold rS bS
    rw [h1, List.filter_filter]
    refine List.filter_congr fun p _ => ?_
    have := shr_half p.1 n
    by_cases e : p.1 >>> n = 2 * pl + 1
    · have e2 : p.1 >>> (n + 1) = pl := by omega
      simp [e, e2]
    · have e0 : (p.1 >>> n == 2 * pl + 1) = false := by simpa using e
      rw [e0]
      by_cases e3 : p.1 >>> (n + 1) = pl
      · have : p.1 >>> n = 2 * pl := by omega
        simp [this]
      · simp [e3]
  unfold nodeS
  by_cases hn : bS (n + 1) pl L = []
  · rw [← hl, ← hr, hn, partS_nil]
    have e1 : lS n pl [] = [] := by unfold lS; rfl
    have e2 : rS n pl [] = [] := by unfold rS; rfl
    rw [e1, e2, partS_nil, partS_nil, emptyL_succ]
  · rw [partS_succ n pl hn, h1, h2, hl, hr]
theorem nodeS_nil (n pl : Nat) : nodeS n pl [] = emptyL n := by
  unfold nodeS
  have : bS n pl [] = [] := by unfold bS; rfl
  rw [this, partS_nil]
/-- One step up a path. -/
theorem climb_step {L : List (Nat × List UInt8)} (k i : Nat) (hi : i < 9223372036854775808) :
    nodeS (k + 1) (i >>> (k + 1)) L = if (i >>> k) % 2 = 1 then hashL (joinT (k + 1) (nodeS k (sibN k i) L) (nodeS k (i >>> k) L)) else hashL (joinT (k + 1) (nodeS k (i >>> k) L) (nodeS k (sibN k i) L)) := by
  have hle : i >>> k ≤ i := by rw [Nat.shiftRight_eq_div_pow]; exact Nat.div_le_self _ _
  have hs := shr_half i k
  rw [nodeS_step k (i >>> (k + 1)) (by omega)]
  unfold sibN
  by_cases e : (i >>> k) % 2 = 1
  · rw [if_pos e, if_neg (by omega)]
    have h1 : 2 * (i >>> (k + 1)) = i >>> k - 1 := by omega
    have h2 : 2 * (i >>> (k + 1)) + 1 = i >>> k := by omega
    rw [h2, h1]
  · rw [if_neg e, if_pos (by omega)]
    have h1 : 2 * (i >>> (k + 1)) = i >>> k := by omega
    rw [h1]
end Go.Proofs.YtdegmcfcbndelaaDoor

namespace Go.Proofs.YtdegmcfcbndelaaDoor
open Go.RowKit

/-- A tree's memory: which blocks are its own, in which world, where it lies, its height, its leaves. -/
abbrev PtT := (Nat → Prop) → World → Nat → Nat → List (Nat × List UInt8) → Prop
def ptr (b : Nat) : Value := .pointer (some ⟨b, 0, none⟩)
/-- Leaves that are right for a height. -/
structure Gd (h : Nat) (L : List (Nat × List UInt8)) : Prop where
  hh : h ≤ 32
  ok : okL L
  ord : srt L
  lt : ∀ p ∈ L, p.1 < 2 ^ h
  full : ∀ p ∈ L, p.2 ≠ emptyL 0
/-- Some blocks lie as they lay. -/
def KeepsS (S : Nat → Prop) (A B : World) : Prop := ∀ k, S k → B.heap[k]? = A.heap[k]?
def eB (g : Bool) : Value := errV (if g then 0 else 1)
/-- What the program's trees answer. -/
structure T9c (Pt : PtT) (w0 : World) : Prop where
  inn : ∀ {S W b h L}, Pt S W b h L → ∀ k, S k → w0.heap.size ≤ k ∧ k < W.heap.size
  good : ∀ {S W b h L}, Pt S W b h L → Gd h L
  keep : ∀ {S W W' b h L}, Pt S W b h L → W.heap.size ≤ W'.heap.size → KeepsS S W W' → Pt S W' b h L
  newOk : ∀ (W : World) (h : Nat), Below w0.heap.size w0 W → h ≤ 32 → Calls Tryd.prog 22 #[.int .i64 (h : Int)] W fun r W' => ∃ S b, r = .returned (.tuple #[ptr b, .nilIface]) ∧ Pt S W' b h [] ∧ (∀ k, S k → W.heap.size ≤ k) ∧ Below W.heap.size W W'
  newNo : ∀ (W : World) (h : Int), Below w0.heap.size w0 W → h < 0 ∨ 32 < h → Calls Tryd.prog 22 #[.int .i64 h] W fun r W' => r = .returned (.tuple #[.pointer none, errV 1]) ∧ Below W.heap.size W W'
  setOk : ∀ {S W b h L} (i : Nat) (hs : List UInt8), Below w0.heap.size w0 W → Pt S W b h L → L.length ≤ 1000 → i < 18446744073709551616 → hs.length = 32 →
    Calls Tryd.prog 23 #[ptr b, .int .u64 (i : Int), .agg (ubs hs).toArray] W fun r W' => r = .returned (eB (hasB h 0 i)) ∧ ∃ S', Pt S' W' b h (if hasB h 0 i then setT i hs L else L) ∧ (∀ k, S' k → S k ∨ W.heap.size ≤ k) ∧ Fr S W W'
  dropOk : ∀ {S W b h L} (i : Nat), Below w0.heap.size w0 W → Pt S W b h L → L.length ≤ 1000 → i < 18446744073709551616 →
    Calls Tryd.prog 57 #[ptr b, .int .u64 (i : Int)] W fun r W' => r = .returned (eB (hasB h 0 i)) ∧ ∃ S', Pt S' W' b h (if hasB h 0 i then setT i (emptyL 0) L else L) ∧ (∀ k, S' k → S k ∨ W.heap.size ≤ k) ∧ Fr S W W'
  leafOk : ∀ {S W b h L} (i : Nat), Below w0.heap.size w0 W → Pt S W b h L → L.length ≤ 1000 → i < 18446744073709551616 →
    Calls Tryd.prog 19 #[ptr b, .int .u64 (i : Int)] W fun r W' => r = .returned (.tuple #[.agg (ubs (if hasB h 0 i then nodeS 0 i L else n32)).toArray, eB (hasB h 0 i)]) ∧ Below W.heap.size W W'
  nodeOk : ∀ {S W b h L} (l : Int) (p : Nat), Below w0.heap.size w0 W → Pt S W b h L → L.length ≤ 1000 → p < 18446744073709551616 → -9223372036854775808 ≤ l → l < 9223372036854775808 →
    Calls Tryd.prog 14 #[ptr b, .int .i64 l, .int .u64 (p : Int)] W fun r W' => r = .returned (.tuple #[.agg (ubs (if hasB h l p then nodeS l.toNat p L else n32)).toArray, eB (hasB h l p)]) ∧ Below W.heap.size W W'
  rootOk : ∀ {S W b h L}, Below w0.heap.size w0 W → Pt S W b h L → L.length ≤ 1000 →
    Calls Tryd.prog 24 #[ptr b] W fun r W' => r = .returned (.agg (ubs (nodeS h 0 L)).toArray) ∧ Below W.heap.size W W'
  heightOk : ∀ {S W b h L}, Below w0.heap.size w0 W → Pt S W b h L →
    Calls Tryd.prog 62 #[ptr b] W fun r W' => r = .returned (.int .i64 (h : Int)) ∧ Below W.heap.size W W'
  pathOk : ∀ {S W b h L} (i : Nat), Below w0.heap.size w0 W → Pt S W b h L → L.length ≤ 1000 → i < 18446744073709551616 →
    Calls Tryd.prog 18 #[ptr b, .int .u64 (i : Int)] W fun r W' => ∃ A c, r = .returned (.tuple #[.slice A (if hasB h 0 i then h else 0) c, eB (hasB h 0 i)]) ∧ Rd W' W'.heap.size A (ubs (if hasB h 0 i then pathS L i h else [])) ∧ Below W.heap.size W W'
theorem KeepsS.refl (S : Nat → Prop) (W : World) : KeepsS S W W := fun _ _ => rfl
theorem KeepsS.trans {S : Nat → Prop} {A B C : World} (h : KeepsS S A B) (k : KeepsS S B C) : KeepsS S A C := fun j hj => (k j hj).trans (h j hj)
theorem KeepsS.of_fr {S S' : Nat → Prop} {A B : World} (h : Fr S' A B) (hl : ∀ k, S k → k < A.heap.size) (hn : ∀ k, S k → ¬ S' k) : KeepsS S A B := fun k hk => h.block k (hl k hk) (hn k hk)
theorem KeepsS.of_below {S : Nat → Prop} {A B : World} {m : Nat} (h : Below m A B) (hl : ∀ k, S k → k < m) : KeepsS S A B := fun k hk => h.block k (hl k hk)
section
variable {Pt : PtT} {w0 W W' : World} {S S' : Nat → Prop} {b h : Nat} {L : List (Nat × List UInt8)}
theorem T9c.fr (t : T9c Pt w0) (p : Pt S W b h L) (f : Fr S' W W') (hn : ∀ k, S k → ¬ S' k) : Pt S W' b h L := t.keep p f.size (KeepsS.of_fr f (fun k hk => (t.inn p k hk).2) hn)
theorem T9c.new (t : T9c Pt w0) (p : Pt S W b h L) (f : Below W.heap.size W W') : Pt S W' b h L := t.keep p f.size (KeepsS.of_below f fun k hk => (t.inn p k hk).2)
end
theorem Gd.nil {h : Nat} (hh : h ≤ 32) : Gd h [] := ⟨hh, okL.nil, srt.nil, (fun _ h => nomatch h), (fun _ h => nomatch h)⟩
theorem Gd.set {h : Nat} {L : List (Nat × List UInt8)} (g : Gd h L) {i : Nat} {hs : List UInt8} (hi : hasB h 0 i = true) (hl : hs.length = 32) : Gd h (setT i hs L) := by
  have hi' : i < 2 ^ h := by
    unfold hasB at hi
    simpa using hi
  have hp := pow_le32 g.hh
  refine ⟨g.hh, fun p hp' => ?_, g.ord.setT, fun p hp' => ?_, fun p hp' => ?_⟩
  · rcases mem_setT hp' with h1 | ⟨rfl, -⟩
    · exact g.ok p h1
    · exact ⟨by simp; omega, hl⟩
  · rcases mem_setT hp' with h1 | ⟨rfl, -⟩
    · exact g.lt p h1
    · exact hi'
  · rcases mem_setT hp' with h1 | ⟨rfl, h2⟩
    · exact g.full p h1
    · exact h2
end Go.Proofs.YtdegmcfcbndelaaDoor

namespace Go.Proofs.YtdegmcfcbndelaaDoor
open Go.RowKit

abbrev Act9 := Nat × List UInt8 × Bool
def actV (a : Act9) : List Value := .int .u64 (a.1 : Int) :: (ubs a.2.1 ++ [.bool a.2.2])
def arow : List Act9 → List Value
  | [] => []
  | a :: l => actV a ++ arow l
theorem arow_append (l m : List Act9) : arow (l ++ m) = arow l ++ arow m := by
  induction l with
  | nil => rfl
  | cons a l ih => rw [List.cons_append, arow, arow, ih, List.append_assoc]
def okA (l : List Act9) : Prop := ∀ a ∈ l, a.1 < 18446744073709551616 ∧ a.2.1.length = 32
theorem okA.take {l : List Act9} (h : okA l) (k : Nat) : okA (l.take k) := fun a ha => h a (List.mem_of_mem_take ha)
theorem okA.get {l : List Act9} (h : okA l) {k : Nat} (hk : k < l.length) : l[k].1 < 18446744073709551616 ∧ l[k].2.1.length = 32 := h _ (List.getElem_mem hk)
theorem actV_length {a : Act9} (h : a.2.1.length = 32) : (actV a).length = 34 := by simp [actV, ubs_length, h]
theorem arow_length {l : List Act9} (h : okA l) : (arow l).length = 34 * l.length := by
  induction l with
  | nil => rfl
  | cons a l ih =>
    rw [arow, List.length_append, actV_length (h a (by simp)).2, ih fun b hb => h b (by simp [hb])]
    simp only [List.length_cons]
    omega
theorem arow_at {l : List Act9} (k : Nat) (hk : k < l.length) : ∃ z, arow l = arow (l.take k) ++ (actV l[k] ++ z) := by
  refine ⟨arow (l.drop (k + 1)), ?_⟩
  rw [← arow, ← arow_append, List.getElem_cons_drop, List.take_append_drop]
theorem actV_one (a : Act9) : (actV a).toArray.all (·.oneCell') = true := by
  rw [Array.all_eq_true]
  intro i hi
  have hm : (actV a).toArray[i] ∈ actV a := by simp
  rcases List.mem_cons.1 hm with e | e
  · rw [e]; rfl
  · rcases List.mem_append.1 e with e | e
    · exact ubs_one _ _ e
    · have : (actV a).toArray[i] = .bool a.2.2 := by simpa using e
      rw [this]; rfl
/-- A script where it lies. -/
def Av (W : World) (B : Nat) (A : Option Addr) (l : List Act9) : Prop := Rd W B A (arow l)
section
variable {W W' : World} {B : Nat} {A : Option Addr} {l : List Act9}
theorem Av.below (h : Av W B A l) (hb : Below B W W') : Av W' B A l := Rd.below h hb
theorem Av.act (h : Av W B A l) (ho : okA l) {k : Nat} (hk : k < l.length) : ∃ g o, A = some ⟨g, o, none⟩ ∧ g < B ∧ W.rangeAt g (o + 34 * k) (actV l[k]) := by
  obtain ⟨z, hz⟩ := arow_at k hk
  have hne : arow l ≠ [] := by
    intro e
    have := arow_length ho
    rw [e] at this
    simp at this
    omega
  obtain ⟨g, o, rfl, hg, hc⟩ := h hne
  refine ⟨g, o, rfl, hg, fun j u hu => ?_⟩
  have hl : (arow (l.take k)).length = 34 * k := by rw [arow_length (ho.take k), List.length_take]; omega
  have := hc (34 * k + j) u (by
    rw [hz, List.getElem?_append_right (by omega), hl, Nat.add_sub_cancel_left, List.getElem?_append_left (List.getElem?_eq_some_iff.1 hu).1]
    exact hu)
  rwa [← Nat.add_assoc] at this
end
theorem act_index {W : World} {g o : Nat} {a : Act9} (h : W.rangeAt g o (actV a)) : W.cell? ⟨g, o, none⟩ = some (.int .u64 (a.1 : Int)) := h 0 _ rfl
theorem act_hash {W : World} {g o : Nat} {a : Act9} (h : W.rangeAt g o (actV a)) : W.rangeAt g (o + 1) (ubs a.2.1) := fun j u hu => by
  have := h (j + 1) u (by rw [actV, List.getElem?_cons_succ, List.getElem?_append_left (List.getElem?_eq_some_iff.1 hu).1]; exact hu)
  rwa [show o + (j + 1) = o + 1 + j by omega] at this
theorem sizeAc : (Tryd.prog.info? 27).map (·.size) = some 34 := by kernel_rfl
theorem zeroAc : (Tryd.prog.info? 27).bind (·.zero) = some (.agg (actV (0, n32, false)).toArray) := by kernel_rfl
theorem sizeAc_of {a : Act9} (h : a.2.1.length = 32) : (Tryd.prog.info? 27).map (·.size) = some (actV a).toArray.size := by rw [sizeAc]; simp [actV_length h]
theorem run_loadAc {o : Oper} {a : Go.Act} {W : World} (x : Operand) (ho : o.op = .load 27 x) (b off : Nat) (hx : a.eval x = .pointer (some ⟨b, off, none⟩)) (p : Act9) (hc : W.rangeAt b off (actV p)) (hl : p.2.1.length = 32) : (execOp a.eval o).run Tryd.prog W = .ok (.value (.agg (actV p).toArray)) W :=
  run_load_part _ x ho b off hx (actV p) _ hc Tryd.underlying27 rfl (by rw [sizeAc, actV_length hl])
theorem at_act0 {W : World} {P : Nat} {a : Act9} {T : TypeId} (h : At W P (actV a).toArray T) : W.cell? ⟨P, 0, none⟩ = some (.int .u64 (a.1 : Int)) := act_index (range_all h)
theorem at_act1 {W : World} {P : Nat} {a : Act9} {T : TypeId} (h : At W P (actV a).toArray T) : W.rangeAt P 1 (ubs a.2.1) := by
  have := act_hash (range_all h)
  rwa [Nat.zero_add] at this
/-- One act, and some. -/
def act9 (h : Nat) (L : List (Nat × List UInt8)) (a : Act9) : List (Nat × List UInt8) := if hasB h 0 a.1 then setT a.1 (if a.2.2 then emptyL 0 else a.2.1) L else L
theorem Gd.act {h : Nat} {L : List (Nat × List UInt8)} (g : Gd h L) {a : Act9} (ha : a.2.1.length = 32) : Gd h (act9 h L a) := by
  unfold act9
  cases e : hasB h 0 a.1 with
  | false => exact g
  | true =>
    rw [if_pos rfl]
    refine g.set e ?_
    cases a.2.2
    · exact ha
    · exact emptyL_length 0
attribute [irreducible] act9 arow actV
/-- The program's tree and the document's, side by side, and other blocks of the call. -/
structure BtW (Pt : PtT) (w : World) (S : Nat → Prop) (b h : Nat) (Lt Lm : List (Nat × List UInt8)) (F : List (Nat × Array Value × TypeId)) (M : Nat) (A1 E : Option Addr) (c1 cE : Nat) (W : World) : Prop where
  t : Pt S W b h Lt
  m : At W M #[.int .i64 (h : Int), .slice A1 Lm.length c1, .slice E 33 cE] 33
  l : Lv W W.heap.size A1 Lm
  e : Ev W W.heap.size E
  f : ∀ q ∈ F, At W q.1 q.2.1 q.2.2 ∧ ¬ S q.1
  sM : ¬ S M
  sA : ∀ g o, A1 = some ⟨g, o, none⟩ → Lm ≠ [] → ¬ S g ∧ g ≠ M
  sE : ∀ g o, E = some ⟨g, o, none⟩ → ¬ S g ∧ g ≠ M
  far : ∀ k, S k → w.heap.size ≤ k
  fM : w.heap.size ≤ M ∧ ∀ q ∈ F, q.1 ≠ M
  below : Below w.heap.size w W
section
variable {Pt : PtT} {w0 w W W' : World} {S S' : Nat → Prop} {b h M c1 c2 cE : Nat} {Lt Lm Lt' Lm' : List (Nat × List UInt8)} {F : List (Nat × Array Value × TypeId)} {A1 A2 E : Option Addr}
theorem BtW.new (t : T9c Pt w0) (k : BtW Pt w S b h Lt Lm F M A1 E c1 cE W) (hb : Below W.heap.size W W') : BtW Pt w S b h Lt Lm F M A1 E c1 cE W' :=
  ⟨t.new k.t hb, k.m.new_ hb, k.l.new hb, k.e.new hb, fun q hq => ⟨(k.f q hq).1.new_ hb, (k.f q hq).2⟩, k.sM, k.sA, k.sE, k.far, k.fM, k.below.trans (hb.mono k.below.size)⟩
theorem BtW.push (k : BtW Pt w S b h Lt Lm F M A1 E c1 cE W) {g : Nat} {cs : Array Value} {T : TypeId} (ha : At W g cs T) (hs : ¬ S g) (hm : g ≠ M) : BtW Pt w S b h Lt Lm ((g, cs, T) :: F) M A1 E c1 cE W :=
  ⟨k.t, k.m, k.l, k.e, fun q hq => by
    rcases List.mem_cons.1 hq with rfl | hq
    · exact ⟨ha, hs⟩
    · exact k.f q hq, k.sM, k.sA, k.sE, k.far, ⟨k.fM.1, fun q hq => by
    rcases List.mem_cons.1 hq with rfl | hq
    · exact hm
    · exact k.fM.2 q hq⟩, k.below⟩
/-- Behind a call of the program's tree. -/
theorem BtW.tree (k : BtW Pt w S b h Lt Lm F M A1 E c1 cE W) (p : Pt S' W' b h Lt') (hS : ∀ j, S' j → S j ∨ W.heap.size ≤ j) (hf : Fr S W W') : BtW Pt w S' b h Lt' Lm F M A1 E c1 cE W' := by
  have keep : ∀ j, ¬ S j → j < W.heap.size → ¬ S' j := fun j h1 h2 h3 => (hS j h3).elim h1 (by omega)
  obtain ⟨gE, oE, rfl, hgE, _⟩ := k.e.hash (k := 0) (by omega)
  refine ⟨p, k.m.fr hf k.sM, ?_, ?_, fun q hq => ⟨(k.f q hq).1.fr hf (k.f q hq).2, keep _ (k.f q hq).2 (k.f q hq).1.lt⟩, keep _ k.sM k.m.lt, fun g o e hne => ?_, fun g o e => ?_, fun j hj => ?_, k.fM, ?_⟩
  · by_cases hne : Lm = []
    · subst hne
      exact (show Rd W' W'.heap.size A1 (lrow []) by rw [lrow_nil]; exact Rd.nil _ _ _)
    · exact (Rd.fr k.l hf fun g o e => (k.sA g o e hne).1).mono hf.size
  · exact (Rd.fr k.e hf fun g o e => (k.sE g o e).1).mono hf.size
  · refine ⟨keep _ (k.sA g o e hne).1 ?_, (k.sA g o e hne).2⟩
    have hl : lrow Lm ≠ [] := by
      cases Lm with
      | nil => exact absurd rfl hne
      | cons q r => rw [lrow_cons, lfV]; simp
    obtain ⟨g', o', e', hg', _⟩ := k.l hl
    rw [e] at e'
    cases e'
    exact hg'
  · obtain ⟨rfl, rfl⟩ : gE = g ∧ oE = o := by simpa using e
    exact ⟨keep _ (k.sE _ _ rfl).1 hgE, (k.sE _ _ rfl).2⟩
  · rcases hS j hj with h1 | h1
    · exact k.far j h1
    · exact Nat.le_trans k.below.size h1
  · exact k.below.trans (hf.below k.far k.below.size)
/-- The document's tree anew. -/
theorem BtW.put (t : T9c Pt w0) (k : BtW Pt w S b h Lt Lm F M A1 E c1 cE W) (hl : Lv W W.heap.size A2 Lm') (hs : ∀ g o, A2 = some ⟨g, o, none⟩ → ¬ S g ∧ g ≠ M) :
    BtW Pt w S b h Lt Lm' F M A2 E c2 cE (W.setRow M #[.int .i64 (h : Int), .slice A2 Lm'.length c2, .slice E 33 cE]) := by
  have hsz : (W.setRow M #[.int .i64 (h : Int), .slice A2 Lm'.length c2, .slice E 33 cE]).heap.size = W.heap.size := by simp [World.setRow]
  refine ⟨t.keep k.t (by rw [hsz]; exact Nat.le_refl _) fun j hj => ?_, setRow_heap _ _ _ _ _ _ k.m, Rd.row hl (fun g o e => (hs g o e).2) _, Rd.row k.e (fun g o e => (k.sE g o e).2) _, fun q hq => ⟨(k.f q hq).1.setRow_far (k.fM.2 q hq), (k.f q hq).2⟩, k.sM, fun g o e _ => hs g o e, k.sE, k.far, k.fM, below_setRow k.below k.fM.1 _⟩
  exact setRow_other _ _ _ _ fun e => k.sM (by rw [← e]; exact hj)
end
end Go.Proofs.YtdegmcfcbndelaaDoor

namespace Go.Proofs.YtdegmcfcbndelaaDoor
open Go.RowKit

/-- A table of bits of bytes. -/
def okTab (s : ByteArray) : Bool := (List.range 256).all fun n => match s[n]? with
  | some b => decide (n < 2 ^ b.toNat) && (b.toNat == 0 || decide (2 ^ (b.toNat - 1) ≤ n)) && decide (b.toNat ≤ 8)
  | none => false
theorem okTab_at {s : ByteArray} (h : okTab s = true) {n : Nat} (hn : n < 256) : ∃ b : UInt8, s[n]? = some b ∧ n < 2 ^ b.toNat ∧ (b.toNat = 0 ∨ 2 ^ (b.toNat - 1) ≤ n) ∧ b.toNat ≤ 8 := by
  have := List.all_eq_true.1 h n (List.mem_range.2 hn)
  cases e : s[n]? with
  | none => rw [e] at this; cases this
  | some b =>
    rw [e] at this
    simp only [Bool.and_eq_true, decide_eq_true_eq, Bool.or_eq_true, beq_iff_eq] at this
    exact ⟨b, rfl, this.1.1, this.1.2, this.2⟩
theorem highN_bits {v r : Nat} (hv : v < 4294967296) (h1 : v < 2 ^ r) (h2 : r = 0 ∨ 2 ^ (r - 1) ≤ v) : highN (v + 1) = r := by
  obtain ⟨a, -, c⟩ := highN_spec (b := v + 1) (by omega)
  rcases Nat.lt_trichotomy (highN (v + 1)) r with h | h | h
  · exfalso
    rcases h2 with h2 | h2
    · omega
    · have : (2 : Nat) ^ highN (v + 1) ≤ 2 ^ (r - 1) := Nat.pow_le_pow_right (by omega) (by omega)
      omega
  · exact h
  · have := c r h
    omega
theorem bits_up {v x k b : Nat} (hx : x = v >>> k) (h1 : x < 2 ^ b) (h2 : 2 ^ (b - 1) ≤ x) (hb : 0 < b) : v < 2 ^ (k + b) ∧ 2 ^ (k + b - 1) ≤ v := by
  rw [Nat.shiftRight_eq_div_pow] at hx
  have hp : 0 < 2 ^ k := Nat.two_pow_pos k
  constructor
  · have : v / 2 ^ k < 2 ^ b := by omega
    have := (Nat.div_lt_iff_lt_mul hp).1 this
    rwa [← Nat.pow_add, Nat.add_comm b k] at this
  · have : 2 ^ (b - 1) ≤ v / 2 ^ k := by omega
    have := (Nat.le_div_iff_mul_le hp).1 this
    rwa [← Nat.pow_add, show b - 1 + k = k + b - 1 by omega] at this
theorem okTab_get {s : ByteArray} (h : okTab s = true) {n : Nat} (hl : n < s.size) (hn : n < 256) : n < 2 ^ (s[n]'hl).toNat ∧ ((s[n]'hl).toNat = 0 ∨ 2 ^ ((s[n]'hl).toNat - 1) ≤ n) ∧ (s[n]'hl).toNat ≤ 8 := by
  obtain ⟨b, hb, h1, h2, h3⟩ := okTab_at h hn
  have e : s[n]'hl = b := by
    rw [getElem?_pos s n hl] at hb
    exact Option.some.inj hb
  rw [e]
  exact ⟨h1, h2, h3⟩
theorem len_end {s : ByteArray} (ht : okTab s = true) {y : Nat} (hl : y < s.size) (hy : y < 256) {v : Nat} (k : Int) (kn : Nat) (hk : k = kn) (hk2 : kn ≤ 32) (HR : ∀ b : Nat, y < 2 ^ b → (b = 0 ∨ 2 ^ (b - 1) ≤ y) → highN (v + 1) = kn + b) :
    RowKit.wrap64 (k + RowKit.wrap64 ((s[y]'hl).toNat : Int)) = (highN (v + 1) : Int) := by
  obtain ⟨h1, h2, h3⟩ := okTab_get ht hl hy
  rw [HR _ h1 h2, hk]
  unfold RowKit.wrap64
  omega
theorem len_end0 {s : ByteArray} (ht : okTab s = true) {y : Nat} (hl : y < s.size) (hy : y < 256) {v : Nat} (HR : ∀ b : Nat, y < 2 ^ b → (b = 0 ∨ 2 ^ (b - 1) ≤ y) → highN (v + 1) = 0 + b) :
    RowKit.wrap64 (RowKit.wrap64 ((s[y]'hl).toNat : Int)) = (highN (v + 1) : Int) := by
  have := len_end ht hl hy 0 0 rfl (by omega) HR
  rwa [Int.zero_add] at this
set_option maxRecDepth 100000 in
set_option maxHeartbeats 1000000 in
theorem plen64_any (v : Nat) (W : World) (hv : v < 4294967296) :
    Calls Tryd.prog 89 #[.int .u64 (v : Int)] W fun r W' => r = .returned (.int .i64 (highN (v + 1) : Int)) ∧ W' = W := by
  have c0 : decide (4294967296 ≤ (v : Int)) = false := by simp; omega
  have c0n : decide (4294967296 ≤ v) = false := by simp; omega
  have HV := hid hv
  have s16 := show binOp .shr 23 (.int .u64 (v : Int)) (.int .u64 16) = pure (.int .u64 ((v >>> 16 : Nat) : Int)) from shr_u64 23 v 16 .u64 (by omega)
  by_cases h1 : 65536 ≤ v
  · have c1 : decide (65536 ≤ (v : Int)) = true := by simp; omega
    have c1n : decide (65536 ≤ v) = true := by simp; omega
    obtain ⟨x, hx⟩ : ∃ x, x = v >>> 16 := ⟨_, rfl⟩
    have hxb : 1 ≤ x ∧ x < 65536 := by rw [hx, Nat.shiftRight_eq_div_pow]; omega
    rw [← hx] at s16
    have s8 := show binOp .shr 23 (.int .u64 (x : Int)) (.int .u64 8) = pure (.int .u64 ((x >>> 8 : Nat) : Int)) from shr_u64 23 x 8 .u64 (by omega)
    by_cases h2 : 256 ≤ x
    · have c2 : decide (256 ≤ (x : Int)) = true := by simp; omega
      have c2n : decide (256 ≤ x) = true := by simp; omega
      obtain ⟨y, hy⟩ : ∃ y, y = x >>> 8 := ⟨_, rfl⟩
      have hyb : 1 ≤ y ∧ y < 256 := by rw [hy, Nat.shiftRight_eq_div_pow]; omega
      rw [← hy] at s8
      have em : (y : Int) % 256 = (y : Int) := by omega
      have HY := hid hyb.2
      have HR := hid (fun (b : Nat) (p1 : y < 2 ^ b) (p2 : b = 0 ∨ 2 ^ (b - 1) ≤ y) => show highN (v + 1) = 24 + b from by
        have hb : 0 < b := by
          rcases Nat.eq_zero_or_pos b with e | e
          · subst e; simp at p1; omega
          · exact e
        obtain ⟨a1, a2⟩ := bits_up hy p1 (p2.resolve_left (by omega)) hb
        obtain ⟨a3, a4⟩ := bits_up hx a1 a2 (by omega)
        exact highN_bits HV.out (by rwa [show 24 + b = 16 + (8 + b) by omega]) (.inr (by rwa [show 24 + b - 1 = 16 + (8 + b) - 1 by omega])))
      clear h1 h2 hx hxb hy hyb hv
      go_enter Tryd.func89, Tryd.ntmps89
      go_wp2
      go_ret
      exact ⟨congrArg (fun z => Ending.returned (.int .i64 z)) (len_end (by decide +kernel) _ HY.out 24 24 rfl (by omega) HR.out), rfl⟩
    · have c2 : decide (256 ≤ (x : Int)) = false := by simp; omega
      have c2n : decide (256 ≤ x) = false := by simp; omega
      have em : (x : Int) % 256 = (x : Int) := by omega
      have HY := hid (show x < 256 by omega)
      have HR := hid (fun (b : Nat) (p1 : x < 2 ^ b) (p2 : b = 0 ∨ 2 ^ (b - 1) ≤ x) => show highN (v + 1) = 16 + b from by
        have hb : 0 < b := by
          rcases Nat.eq_zero_or_pos b with e | e
          · subst e; simp at p1; omega
          · exact e
        obtain ⟨a3, a4⟩ := bits_up hx p1 (p2.resolve_left (by omega)) hb
        exact highN_bits HV.out a3 (.inr a4))
      clear h1 h2 hx hxb hv
      go_enter Tryd.func89, Tryd.ntmps89
      go_wp2
      go_ret
      exact ⟨congrArg (fun z => Ending.returned (.int .i64 z)) (len_end (by decide +kernel) _ HY.out 16 16 rfl (by omega) HR.out), rfl⟩
  · have c1 : decide (65536 ≤ (v : Int)) = false := by simp; omega
    have c1n : decide (65536 ≤ v) = false := by simp; omega
    have s8 := show binOp .shr 23 (.int .u64 (v : Int)) (.int .u64 8) = pure (.int .u64 ((v >>> 8 : Nat) : Int)) from shr_u64 23 v 8 .u64 (by omega)
    by_cases h2 : 256 ≤ v
    · have c2 : decide (256 ≤ (v : Int)) = true := by simp; omega
      have c2n : decide (256 ≤ v) = true := by simp; omega
      obtain ⟨y, hy⟩ : ∃ y, y = v >>> 8 := ⟨_, rfl⟩
      have hyb : 1 ≤ y ∧ y < 256 := by rw [hy, Nat.shiftRight_eq_div_pow]; omega
      rw [← hy] at s8
      have em : (y : Int) % 256 = (y : Int) := by omega
      have HY := hid hyb.2
      have HR := hid (fun (b : Nat) (p1 : y < 2 ^ b) (p2 : b = 0 ∨ 2 ^ (b - 1) ≤ y) => show highN (v + 1) = 8 + b from by
        have hb : 0 < b := by
          rcases Nat.eq_zero_or_pos b with e | e
          · subst e; simp at p1; omega
          · exact e
        obtain ⟨a1, a2⟩ := bits_up hy p1 (p2.resolve_left (by omega)) hb
        exact highN_bits HV.out a1 (.inr a2))
      clear h1 h2 hy hyb hv
      go_enter Tryd.func89, Tryd.ntmps89
      go_wp2
      go_ret
      exact ⟨congrArg (fun z => Ending.returned (.int .i64 z)) (len_end (by decide +kernel) _ HY.out 8 8 rfl (by omega) HR.out), rfl⟩
    · have c2 : decide (256 ≤ (v : Int)) = false := by simp; omega
      have c2n : decide (256 ≤ v) = false := by simp; omega
      have em : (v : Int) % 256 = (v : Int) := by omega
      have HY := hid (show v < 256 by omega)
      have HR := hid (fun (b : Nat) (p1 : v < 2 ^ b) (p2 : b = 0 ∨ 2 ^ (b - 1) ≤ v) => show highN (v + 1) = 0 + b from by
        exact highN_bits HV.out (by rwa [Nat.zero_add]) (by rwa [Nat.zero_add]))
      clear h1 h2 hv
      go_enter Tryd.func89, Tryd.ntmps89
      go_wp2
      go_ret
      exact ⟨congrArg (fun z => Ending.returned (.int .i64 z)) (len_end0 (by decide +kernel) _ HY.out HR.out), rfl⟩
set_option maxRecDepth 100000 in
set_option maxHeartbeats 1000000 in
theorem pheightN_any (n : Nat) (W : World) (hn : n < 18446744073709551616) :
    Calls Tryd.prog 54 #[.int .u64 (n : Int)] W fun r W' => r = .returned (.tuple #[.int .i64 ((if highOk n then highN n else 0 : Nat) : Int), eB (highOk n)]) ∧ W' = W := by
  have e1 : errV 1 = .iface 42 (.int .i64 1) := rfl
  by_cases h0 : n = 0
  · subst h0
    rw [show highOk 0 = false from rfl, show eB false = errV 1 from rfl, e1]
    clear e1 hn
    go_enter Tryd.func54, Tryd.ntmps54
    go_wp2
    go_ret2
    exact ⟨rfl, rfl⟩
  have c0 : decide ((n : Int) < 1) = false := by simp; omega
  have c0n : decide (n < 1) = false := by simp; omega
  have c0m : decide (n = 0) = false := by simp; omega
  by_cases h1 : 4294967296 < n
  · have c1 : decide (4294967296 < (n : Int)) = true := by simp; omega
    have c1n : decide (4294967296 < n) = true := by simp; omega
    have hk : highOk n = false := by unfold highOk; simp; omega
    rw [hk, show eB false = errV 1 from rfl, e1]
    clear e1 hn h0 h1 hk
    go_enter Tryd.func54, Tryd.ntmps54
    go_wp2
    go_ret2
    exact ⟨rfl, rfl⟩
  · have c1 : decide (4294967296 < (n : Int)) = false := by simp; omega
    have c1n : decide (4294967296 < n) = false := by simp; omega
    have hk : highOk n = true := by unfold highOk; simp; omega
    obtain ⟨m, hm⟩ : ∃ m, m = n - 1 := ⟨_, rfl⟩
    have e2 : (n : Int) - 1 = (m : Int) := by omega
    have ew : IntKind.u64.wrap (m : Int) = (m : Int) := by simp [IntKind.wrap, IntKind.signed, IntKind.bits]; omega
    have HL := hid (fun V => show Calls Tryd.prog 89 #[.int .u64 (m : Int)] V (fun r W' => r = .returned (.int .i64 (highN n : Int)) ∧ W' = V) from by
      have := plen64_any m V (by omega)
      rwa [show m + 1 = n by omega] at this)
    rw [hk, if_pos rfl, show eB true = .nilIface from rfl]
    generalize highN n = r at HL ⊢
    clear e1 hn h0 h1 hk hm
    go_enter Tryd.func54, Tryd.ntmps54
    go_wp2_with (first
      | (go_at_call 89; refine (HL.out _).mono ?_; rintro r1 w1 ⟨rfl, rfl⟩))
    go_ret2
    exact ⟨rfl, rfl⟩
end Go.Proofs.YtdegmcfcbndelaaDoor
