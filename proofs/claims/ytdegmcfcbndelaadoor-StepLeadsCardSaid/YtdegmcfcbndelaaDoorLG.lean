/-
  TreePaths of layer 9, what leaves come to: set in order, or from the last one on with the last hash of each index. Nothing here walks.
  Layer 12: what StepLeads sets, and where its steps lead.
-/
import Derived.Test.YtdegmcfcbndelaaDoorLB
import Derived.Test.YtdegmcfcbndelaaDoorL9
import Derived.Test.YtdegmcfcbndelaaDoorS1
import Derived.Test.YtdegmcfcbndelaaDoorK9
namespace Go.Proofs.YtdegmcfcbndelaaDoor

/-- Set from the last one on. -/
def back (f : Nat → Option (List UInt8)) : List Act9 → List (Nat × List UInt8)
  | [] => []
  | a :: l => match f a.1 with
    | some x => setT a.1 x (back f l)
    | none => back f l
attribute [irreducible] back
end Go.Proofs.YtdegmcfcbndelaaDoor

namespace Go.Proofs.YtdegmcfcbndelaaDoor
open Go.RowKit

/-- The leaves that are set: of indices that are below the number of blocks. -/
def setW (was : Nat) (L : List (Nat × List UInt8)) (a : Act9) : List (Nat × List UInt8) := if a.1 < was then setT a.1 a.2.1 L else L
def setsW (was : Nat) (l : List Act9) : List (Nat × List UInt8) := l.foldl (setW was) []
theorem setsW_zero (was : Nat) (l : List Act9) : setsW was (l.take 0) = [] := rfl
theorem setsW_next (was : Nat) (l : List Act9) (k : Nat) (hk : k < l.length) : setsW was (l.take (k + 1)) = (if (l[k]).1 < was then setT (l[k]).1 (l[k]).2.1 (setsW was (l.take k)) else setsW was (l.take k)) := by
  unfold setsW
  rw [List.take_succ_eq_append_getElem hk, List.foldl_append]
  rfl
theorem setsW_le (was : Nat) (l : List Act9) : ∀ k, k ≤ l.length → (setsW was (l.take k)).length ≤ k := by
  intro k
  induction k with
  | zero => intro _; rw [setsW_zero]; exact Nat.le_refl _
  | succ k ih =>
    intro hk
    rw [setsW_next was l k (by omega)]
    have := ih (by omega)
    split
    · have := setT_le (l[k]).1 (l[k]).2.1 (setsW was (l.take k))
      omega
    · omega
theorem setsW_good {h was : Nat} (hh : h ≤ 32) (hw : was ≤ 2 ^ h) {l : List Act9} (ho : okA l) : ∀ k, k ≤ l.length → Gd h (setsW was (l.take k)) ∧ ∀ p ∈ setsW was (l.take k), p.1 < was := by
  intro k
  induction k with
  | zero => intro _; rw [setsW_zero]; exact ⟨Gd.nil hh, fun _ h => nomatch h⟩
  | succ k ih =>
    intro hk
    obtain ⟨g, b⟩ := ih (by omega)
    rw [setsW_next was l k (by omega)]
    split
    · rename_i e
      refine ⟨g.set (by unfold hasB; simp; omega) (ho.get (by omega)).2, fun p hp => ?_⟩
      rcases mem_setT hp with h1 | ⟨rfl, -⟩
      · exact b p h1
      · exact e
    · exact ⟨g, b⟩
/-- The indices that are written. -/
def idxW (was : Nat) (l : List Act9) : List Nat := (l.filter fun a => decide (a.1 < was)).map (·.1)
theorem idxW_zero (was : Nat) (l : List Act9) : idxW was (l.take 0) = [] := rfl
theorem idxW_next (was : Nat) (l : List Act9) (k : Nat) (hk : k < l.length) : idxW was (l.take (k + 1)) = (if (l[k]).1 < was then idxW was (l.take k) ++ [(l[k]).1] else idxW was (l.take k)) := by
  unfold idxW
  rw [List.take_succ_eq_append_getElem hk, List.filter_append, List.map_append]
  split
  · rename_i e
    rw [List.filter_cons_of_pos (by simpa using e)]
    rfl
  · rename_i e
    rw [List.filter_cons_of_neg (by simpa using e)]
    simp
theorem idxW_lt {was : Nat} {l : List Act9} {x : Nat} (h : x ∈ idxW was l) : x < was := by
  obtain ⟨a, ha, rfl⟩ := List.mem_map.1 h
  simpa using (List.mem_filter.1 ha).2
theorem idxW_le (was : Nat) (l : List Act9) : (idxW was l).length ≤ l.length := by
  unfold idxW
  rw [List.length_map]
  exact List.length_filter_le _ _
/-- Sorted ones are a list of indices. -/
theorem rgt_sort {h : Nat} (hh : h ≤ 32) {l : List Nat} (hf : ∀ x ∈ l, x < 2 ^ h) (hne : sortS l ≠ []) (hlen : (sortS l).length ≤ 256) : rgtB (h : Int) (sortS l) = true := by
  obtain ⟨hs, hm⟩ := sortS_up l
  have h1 : fitB h (sortS l) = true := by
    unfold fitB
    rw [List.all_eq_true]
    exact fun x hx => decide_eq_true (hf x ((hm x).1 hx))
  have h2 : riseB (sortS l) = true := by
    unfold riseB
    rw [List.all_eq_true]
    intro i hi
    have hi := List.mem_range.1 hi
    rw [Bool.or_eq_true]
    by_cases e : i = 0
    · exact .inl (decide_eq_true e)
    · refine .inr (decide_eq_true ?_)
      rw [List.getD_eq_getElem?_getD, List.getD_eq_getElem?_getD, List.getElem?_eq_getElem (by omega), List.getElem?_eq_getElem hi]
      exact List.pairwise_iff_getElem.1 hs (i - 1) i (by omega) hi (by omega)
  unfold rgtB
  rw [Int.toNat_natCast, h1, h2, decide_eq_true hne, decide_eq_true hlen, decide_eq_true (show (0 : Int) ≤ (h : Int) by omega), decide_eq_true (show (h : Int) ≤ 32 by omega)]
  rfl
/-- The leaf that is written at a place. -/
def wv12 (i : Nat) : List UInt8 := UInt8.ofNat i :: 1 :: List.replicate 30 0
theorem wv12_length (i : Nat) : (wv12 i).length = 32 := rfl
def setL12 (L : List (Nat × List UInt8)) (l : List Nat) (j : Nat) : List (Nat × List UInt8) := (List.range j).foldl (fun M i => setT (l.getD i 0) (wv12 i) M) L
theorem setL12_next (L : List (Nat × List UInt8)) (l : List Nat) (j : Nat) (hj : j < l.length) : setL12 L l (j + 1) = setT l[j] (wv12 j) (setL12 L l j) := by
  unfold setL12
  rw [List.range_succ, List.foldl_append, List.foldl_cons, List.foldl_nil, List.getD_eq_getElem?_getD, List.getElem?_eq_getElem hj]
  rfl
theorem setL12_le (L : List (Nat × List UInt8)) (l : List Nat) : ∀ j, j ≤ l.length → (setL12 L l j).length ≤ L.length + j
  | 0, _ => Nat.le_refl _
  | j + 1, h => by
    rw [setL12_next L l j (by omega)]
    have h1 := setL12_le L l j (by omega)
    have h2 := setT_le l[j] (wv12 j) (setL12 L l j)
    omega
theorem setL12_good {h was : Nat} {L : List (Nat × List UInt8)} {l : List Nat} (g : Gd h L) (hw : was ≤ 2 ^ h) (hl : ∀ x ∈ l, x < was) (hL : ∀ p ∈ L, p.1 < was) : ∀ j, j ≤ l.length → Gd h (setL12 L l j) ∧ ∀ p ∈ setL12 L l j, p.1 < was
  | 0, _ => ⟨g, hL⟩
  | j + 1, hj => by
    obtain ⟨g1, b⟩ := setL12_good g hw hl hL j (by omega)
    have hx := hl l[j] (List.getElem_mem _)
    rw [setL12_next L l j (by omega)]
    refine ⟨g1.set (by unfold hasB; simp; omega) (wv12_length j), fun p hp => ?_⟩
    rcases mem_setT hp with h1 | ⟨rfl, -⟩
    · exact b p h1
    · exact hx
theorem setL12_other {L : List (Nat × List UInt8)} {l : List Nat} {i : Nat} (hi : i ∉ l) : ∀ j, j ≤ l.length → getH (setL12 L l j) i = getH L i
  | 0, _ => rfl
  | j + 1, hj => by
    rw [setL12_next L l j (by omega), getH_setT, if_neg (fun e => hi (by rw [e]; exact List.getElem_mem _)), setL12_other hi j (by omega)]
theorem setL12_at {L : List (Nat × List UInt8)} {l : List Nat} (hs : l.Pairwise (· < ·)) : ∀ j (_ : j ≤ l.length) q (_ : q < j), nodeS 0 (l[q]'(by omega)) (setL12 L l j) = wv12 q
  | 0, _, q, hq => absurd hq (Nat.not_lt_zero _)
  | j + 1, hj, q, hq => by
    rw [setL12_next L l j (by omega), nodeS_leaf, getH_setT]
    by_cases e : q = j
    · subst e
      rw [if_pos rfl]
      split
      · rename_i e2
        exact e2.symm
      · rfl
    · have hlt := List.pairwise_iff_getElem.1 hs q j (by omega) (by omega) (by omega)
      rw [if_neg (by omega), ← nodeS_leaf]
      exact setL12_at hs j (by omega) q (by omega)
def wvs12 (j : Nat) : List UInt8 := (List.range j).flatMap wv12
theorem wvs12_zero : wvs12 0 = [] := rfl
theorem wvs12_next (j : Nat) : wvs12 (j + 1) = wvs12 j ++ wv12 j := by
  unfold wvs12
  rw [List.range_succ, List.flatMap_append]
  simp
theorem wvs12_length : ∀ j, (wvs12 j).length = 32 * j
  | 0 => rfl
  | j + 1 => by rw [wvs12_next, List.length_append, wvs12_length j, wv12_length]; omega
theorem leaves_set {L : List (Nat × List UInt8)} {l : List Nat} (hs : l.Pairwise (· < ·)) : leavesS (setL12 L l l.length) l = wvs12 l.length := by
  have key : ∀ j, j ≤ l.length → leavesS (setL12 L l l.length) (l.take j) = wvs12 j := by
    intro j
    induction j with
    | zero => intro _; rw [leavesS_zero, wvs12_zero]
    | succ j ih =>
      intro hj
      rw [leavesS_next _ l j (by omega), ih (by omega), wvs12_next, setL12_at hs l.length (Nat.le_refl _) j (by omega)]
  have := key l.length (Nat.le_refl _)
  rwa [List.take_length] at this
/-- A writing step of a tree: no error, and the root of the tree that was written to. -/
theorem lead_write {h : Nat} {L : List (Nat × List UInt8)} (g : Gd h L) {l : List Nat} (hs : l.Pairwise (· < ·)) (hg : rgtB (h : Int) l = true) (hl : ∀ x ∈ l, x < 2 ^ h) :
    wrN (nodeS h 0 L) (h : Int) l l.length (spotsS l h 0).length l.length (leavesS L l) (besideS L (spotsS l h 0)) = 0 ∧
    wrE (nodeS h 0 L) (h : Int) l l.length (spotsS l h 0).length l.length (leavesS L l) (besideS L (spotsS l h 0)) (wvs12 l.length) = nodeS h 0 (setL12 L l l.length) := by
  have hcc : ccB (h : Int) l l.length (spotsS l h 0).length = 0 := by
    unfold ccB
    rw [hg, if_pos rfl, if_pos rfl, Int.toNat_natCast, if_pos rfl]
  have hck : ckB (nodeS h 0 L) (h : Int) l l.length (spotsS l h 0).length (leavesS L l) (besideS L (spotsS l h 0)) = 0 := by
    unfold ckB
    rw [if_pos hcc, if_pos (root_tree g.ok hg)]
  have g2 := (setL12_good (was := 2 ^ h) g (Nat.le_refl _) hl g.lt l.length (Nat.le_refl _)).1
  have hw := root_write (L := L) g2.ok hg (fun i hi => (setL12_other hi l.length (Nat.le_refl _)).symm)
  rw [leaves_set hs] at hw
  unfold wrN wrE
  rw [hck, if_pos rfl, if_pos rfl]
  exact ⟨hcc, hw⟩
theorem cut_same {b : Nat} {L : List (Nat × List UInt8)} (h : ∀ p ∈ L, p.1 < b) : cutS b L = L := by
  unfold cutS
  exact List.filter_eq_self.2 fun p hp => decide_eq_true (h p hp)
/-- A growing step. -/
theorem lead_grow {was blocks : Nat} {L : List (Nat × List UInt8)} (h1 : highOk was = true) (h2 : highOk blocks = true) (hle : was ≤ blocks) (hL : ∀ p ∈ L, p.1 < was) :
    hgB was blocks = true ∧ grE (nodeS (highN was) 0 L) was blocks = nodeS (highN blocks) 0 (cutS blocks L) := by
  have hb : hgB was blocks = true := by rw [hgB_ok, h1, h2]; simpa using hle
  obtain ⟨q1, q2, q3⟩ := hgB_parts hb
  have hh := high_le q2 q3
  have hs := highN_spec (b := blocks) q3
  have hw := highN_spec (b := was) (by omega)
  refine ⟨hb, ?_⟩
  unfold grE
  rw [hb, if_pos rfl, cut_same (fun p hp => Nat.lt_of_lt_of_le (hL p hp) hle), grow_root (fun p hp => Nat.lt_of_lt_of_le (hL p hp) hw.1) _ (by omega), show highN was + (highN blocks - highN was) = highN blocks by omega]
/-- A cutting step. -/
theorem lead_cut {was blocks : Nat} {L : List (Nat × List UInt8)} (ho : okL L) (h1 : highOk was = true) (h2 : highOk blocks = true) (hlt : blocks < was) :
    ctN (nodeS (highN was) 0 L) (nodeS 0 (blocks - 1) L) (pathS L (blocks - 1) (highN was)) (highN was) was blocks = 0 ∧
    ctE (nodeS (highN was) 0 L) (nodeS 0 (blocks - 1) L) (pathS L (blocks - 1) (highN was)) (highN was) was blocks = nodeS (highN blocks) 0 (cutS blocks L) := by
  have hb : hgB blocks was = true := by rw [hgB_ok, h1, h2]; simp; omega
  obtain ⟨q1, q2, q3⟩ := hgB_parts hb
  have hh := high_le q2 q3
  have hs := highN_spec (b := blocks) (by omega)
  have hw := highN_spec (b := was) q3
  have hz : ctN (nodeS (highN was) 0 L) (nodeS 0 (blocks - 1) L) (pathS L (blocks - 1) (highN was)) (highN was) was blocks = 0 :=
    ctN_zero hb rfl (climb_root ho hw.2.1 (by omega))
  refine ⟨hz, ?_⟩
  rw [ctE_ok hz, climb_cut ho hh hw.2.1 (by omega), show blocks - 1 + 1 = blocks by omega]
end Go.Proofs.YtdegmcfcbndelaaDoor
