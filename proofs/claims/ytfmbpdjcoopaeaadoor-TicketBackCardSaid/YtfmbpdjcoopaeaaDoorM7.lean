/-
  Layer 10, the document's side: whether indices are such for a height.
  Layer 10, the document's side: Right.
-/
import Derived.Test.YtfmbpdjcoopaeaaDoorM4
namespace Go.Proofs.YtfmbpdjcoopaeaaDoor
open Go.RowKit

theorem riseB_all {l : List Nat} (h : ∀ i, i < l.length → i ≠ 0 → l.getD (i - 1) 0 < l.getD i 0) : riseB l = true := by
  unfold riseB
  rw [List.all_eq_true]
  intro i hi
  rw [List.mem_range] at hi
  by_cases e : i = 0
  · simp [e]
  · rw [decide_eq_true (h i hi e), Bool.or_true]
theorem riseB_no {l : List Nat} {i : Nat} (hi : i < l.length) (h0 : i ≠ 0) (h : ¬ l.getD (i - 1) 0 < l.getD i 0) : riseB l = false := by
  unfold riseB
  rw [List.all_eq_false]
  refine ⟨i, List.mem_range.2 hi, ?_⟩
  simp only [h0, decide_false, Bool.false_or, decide_eq_true_eq]
  exact h
theorem fitB_all {h : Nat} {l : List Nat} (hx : ∀ i, i < l.length → l.getD i 0 < 2 ^ h) : fitB h l = true := by
  unfold fitB
  rw [List.all_eq_true]
  intro x hxm
  obtain ⟨i, hi, rfl⟩ := List.getElem_of_mem hxm
  have := hx i hi
  rw [List.getD_eq_getElem?_getD, List.getElem?_eq_getElem hi] at this
  simpa using this
theorem fitB_no {h : Nat} {l : List Nat} {i : Nat} (hi : i < l.length) (hx : ¬ l.getD i 0 < 2 ^ h) : fitB h l = false := by
  unfold fitB
  rw [List.all_eq_false]
  rw [List.getD_eq_getElem?_getD, List.getElem?_eq_getElem hi] at hx
  exact ⟨l[i], List.getElem_mem hi, by simpa using hx⟩
end Go.Proofs.YtfmbpdjcoopaeaaDoor

namespace Go.Proofs.YtfmbpdjcoopaeaaDoor
open Go.RowKit

theorem rgtB_no {h : Int} {l : List Nat} (hb : h < 0 ∨ 32 < h ∨ l.length = 0 ∨ 256 < l.length) : rgtB h l = false := by
  unfold rgtB
  rcases hb with hb | hb | hb | hb
  · rw [decide_eq_false (show ¬ 0 ≤ h by omega)]
    simp
  · rw [decide_eq_false (show ¬ h ≤ 32 by omega)]
    simp
  · rw [List.eq_nil_of_length_eq_zero hb]
    simp
  · rw [decide_eq_false (show ¬ l.length ≤ 256 by omega)]
    simp
theorem rgtB_yes {h : Nat} {l : List Nat} (hh : h ≤ 32) (h0 : l.length ≠ 0) (hl : l.length ≤ 256) : rgtB (h : Int) l = (fitB h l && riseB l) := by
  unfold rgtB
  rw [decide_eq_true (show (0 : Int) ≤ h by omega), decide_eq_true (show (h : Int) ≤ 32 by omega), decide_eq_true hl, decide_eq_true (show l ≠ [] from fun e => h0 (by rw [e]; rfl)), Int.toNat_natCast]
  simp
end Go.Proofs.YtfmbpdjcoopaeaaDoor
