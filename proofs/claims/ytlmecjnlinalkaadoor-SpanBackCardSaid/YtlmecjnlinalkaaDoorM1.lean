/-
  Layer 11 by definition: which spans there are for a height, which nodes a span's proof has. Nothing here walks.
  Layer 11 by definition: level by level what the leaves of a span and its two lists come to. Nothing here walks.
  Layer 11 by definition: what a node comes to, how many nodes a proof has. Nothing here walks.
  Layer 11, the document's side: Right.
  Layer 11, the document's side: slices of sides that grow.
  Layer 11, the document's side: Sides.
-/
import Derived.Test.YtlmecjnlinalkaaDoorK1
import Derived.Test.YtlmecjnlinalkaaDoorJ5
import Derived.Test.YtlmecjnlinalkaaDoorN1
import Derived.Test.YtlmecjnlinalkaaDoorK5
import Derived.Test.YtlmecjnlinalkaaDoorK4
namespace Go.Proofs.YtlmecjnlinalkaaDoor

/-- Is there such a span? -/
def spanB (h : Int) (f : Nat) (m : Int) : Bool := decide (0 ≤ h) && decide (h ≤ 32) && decide (1 ≤ m) && decide (m ≤ 256) && decide (f + m.toNat ≤ 2 ^ h.toNat)
theorem spanB_no {h : Int} {f : Nat} {m : Int} (hb : h < 0 ∨ 32 < h ∨ m < 1 ∨ 256 < m) : spanB h f m = false := by
  unfold spanB
  rcases hb with hb | hb | hb | hb
  · rw [decide_eq_false (show ¬ 0 ≤ h by omega)]
    simp
  · rw [decide_eq_false (show ¬ h ≤ 32 by omega)]
    simp
  · rw [decide_eq_false (show ¬ 1 ≤ m by omega)]
    simp
  · rw [decide_eq_false (show ¬ m ≤ 256 by omega)]
    simp
theorem spanB_yes {h m f : Nat} (hh : h ≤ 32) (h0 : 1 ≤ m) (h1 : m ≤ 256) : spanB (h : Int) f (m : Int) = decide (f + m ≤ 2 ^ h) := by
  unfold spanB
  rw [decide_eq_true (show (0 : Int) ≤ h by omega), decide_eq_true (show (h : Int) ≤ 32 by omega), decide_eq_true (show (1 : Int) ≤ m by omega), decide_eq_true (show (m : Int) ≤ 256 by omega), Int.toNat_natCast, Int.toNat_natCast]
  simp
theorem spanB_parts {h m : Int} {f : Nat} (hb : spanB h f m = true) : ∃ k n : Nat, h = (k : Int) ∧ m = (n : Int) ∧ k ≤ 32 ∧ 1 ≤ n ∧ n ≤ 256 ∧ f + n ≤ 2 ^ k := by
  unfold spanB at hb
  simp only [Bool.and_eq_true, decide_eq_true_eq] at hb
  obtain ⟨⟨⟨⟨h1, h2⟩, h3⟩, h4⟩, h5⟩ := hb
  exact ⟨h.toNat, m.toNat, by omega, by omega, by omega, by omega, by omega, h5⟩
/-- The nodes on the left, the nodes on the right, level by level. -/
def sidL (f : Nat) : Nat → List (Nat × Nat)
  | 0 => []
  | k + 1 => sidL f k ++ if (f >>> k) % 2 = 0 then [] else [(k, f >>> k - 1)]
def sidR (z : Nat) : Nat → List (Nat × Nat)
  | 0 => []
  | k + 1 => sidR z k ++ if (z >>> k) % 2 = 1 then [] else [(k, z >>> k + 1)]
theorem sidL_zero (f : Nat) : sidL f 0 = [] := rfl
theorem sidR_zero (z : Nat) : sidR z 0 = [] := rfl
theorem sidL_next (f k : Nat) : sidL f (k + 1) = sidL f k ++ if (f >>> k) % 2 = 0 then [] else [(k, f >>> k - 1)] := rfl
theorem sidR_next (z k : Nat) : sidR z (k + 1) = sidR z k ++ if (z >>> k) % 2 = 1 then [] else [(k, z >>> k + 1)] := rfl
theorem sidL_length (f : Nat) : ∀ k, (sidL f k).length ≤ k
  | 0 => by simp [sidL]
  | k + 1 => by
    rw [sidL_next, List.length_append]
    have := sidL_length f k
    split <;> simp <;> omega
theorem sidR_length (z : Nat) : ∀ k, (sidR z k).length ≤ k
  | 0 => by simp [sidR]
  | k + 1 => by
    rw [sidR_next, List.length_append]
    have := sidR_length z k
    split <;> simp <;> omega
/-- Where they stand. -/
theorem sidL_in {f : Nat} (hf : f ≤ 4294967296) : ∀ k, ∀ q ∈ sidL f k, q.1 < k ∧ q.2 ≤ 4294967296
  | 0 => fun q h => by simp [sidL] at h
  | k + 1 => fun q h => by
    rw [sidL_next, List.mem_append] at h
    rcases h with h | h
    · have := sidL_in hf k q h
      omega
    · split at h
      · cases h
      · obtain rfl : q = (k, f >>> k - 1) := by simpa using h
        have h1 : f >>> k ≤ f := by rw [Nat.shiftRight_eq_div_pow]; exact Nat.div_le_self _ _
        exact ⟨Nat.lt_succ_self k, by show f >>> k - 1 ≤ _; omega⟩
theorem sidR_in {z : Nat} (hz : z < 4294967296) : ∀ k, ∀ q ∈ sidR z k, q.1 < k ∧ q.2 ≤ 4294967296
  | 0 => fun q h => by simp [sidR] at h
  | k + 1 => fun q h => by
    rw [sidR_next, List.mem_append] at h
    rcases h with h | h
    · have := sidR_in hz k q h
      omega
    · split at h
      · cases h
      · obtain rfl : q = (k, z >>> k + 1) := by simpa using h
        have h1 : z >>> k ≤ z := by rw [Nat.shiftRight_eq_div_pow]; exact Nat.div_le_self _ _
        exact ⟨Nat.lt_succ_self k, by show z >>> k + 1 ≤ _; omega⟩
attribute [irreducible] sidL sidR
end Go.Proofs.YtlmecjnlinalkaaDoor

namespace Go.Proofs.YtlmecjnlinalkaaDoor

/-- The places of a level that have leaves of a span below them. -/
def plcS (f z k : Nat) : List Nat := List.range' (f >>> k) (z >>> k - f >>> k + 1)
theorem shr_mono {f z : Nat} (h : f ≤ z) (k : Nat) : f >>> k ≤ z >>> k := by
  rw [Nat.shiftRight_eq_div_pow, Nat.shiftRight_eq_div_pow]
  exact Nat.div_le_div_right h
theorem plcS_mem {f z k p : Nat} (h : f ≤ z) : p ∈ plcS f z k ↔ f >>> k ≤ p ∧ p ≤ z >>> k := by
  have := shr_mono h k
  rw [plcS, List.mem_range'_1]
  omega
/-- With those beside them they are all that is below the next level's. -/
theorem plcS_step {f z : Nat} (h : f ≤ z) (k : Nat) : (if (f >>> k) % 2 = 0 then [] else [f >>> k - 1]) ++ plcS f z k ++ (if (z >>> k) % 2 = 1 then [] else [z >>> k + 1]) = List.range' (2 * (f >>> (k + 1))) (2 * (z >>> (k + 1) - f >>> (k + 1) + 1)) := by
  have h0 := shr_mono h k
  have h1 : f >>> (k + 1) = (f >>> k) / 2 := by rw [Nat.shiftRight_succ]
  have h2 : z >>> (k + 1) = (z >>> k) / 2 := by rw [Nat.shiftRight_succ]
  rw [h1, h2, plcS]
  clear h1 h2
  generalize f >>> k = a at *
  generalize z >>> k = b at *
  have l1 : (if a % 2 = 0 then [] else [a - 1]) = List.range' (2 * (a / 2)) (a - 2 * (a / 2)) := by
    split
    · rw [show a - 2 * (a / 2) = 0 by omega]; rfl
    · rw [show a - 2 * (a / 2) = 1 by omega, show 2 * (a / 2) = a - 1 by omega]; rfl
  have l2 : (if b % 2 = 1 then [] else [b + 1]) = List.range' (b + 1) (2 * (b / 2) + 1 - b) := by
    split
    · rw [show 2 * (b / 2) + 1 - b = 0 by omega]; rfl
    · rw [show 2 * (b / 2) + 1 - b = 1 by omega]; rfl
  rw [l1, l2]
  have e1 := List.range'_append_1 (s := 2 * (a / 2)) (m := a - 2 * (a / 2)) (n := b - a + 1)
  rw [show 2 * (a / 2) + (a - 2 * (a / 2)) = a by omega] at e1
  rw [e1]
  have e2 := List.range'_append_1 (s := 2 * (a / 2)) (m := a - 2 * (a / 2) + (b - a + 1)) (n := 2 * (b / 2) + 1 - b)
  rw [show 2 * (a / 2) + (a - 2 * (a / 2) + (b - a + 1)) = b + 1 by omega] at e2
  rw [e2]
  congr 1
  omega
/-- Nodes joined two by two. -/
def pairUp (k : Nat) : List (List UInt8) → List (List UInt8)
  | x :: y :: r => hashL (joinT k x y) :: pairUp k r
  | _ => []
theorem pairUp_two (k : Nat) (x y : List UInt8) (r : List (List UInt8)) : pairUp k (x :: y :: r) = hashL (joinT k x y) :: pairUp k r := rfl
theorem pairUp_32 (k : Nat) : ∀ n (l : List (List UInt8)), l.length ≤ n → ∀ x ∈ pairUp k l, x.length = 32
  | 0, l, h, x, hx => by
    obtain rfl : l = [] := List.eq_nil_of_length_eq_zero (by omega)
    cases hx
  | n + 1, [], h, x, hx => by cases hx
  | n + 1, [_], h, x, hx => by cases hx
  | n + 1, a :: b :: r, h, x, hx => by
    rw [pairUp_two] at hx
    rcases List.mem_cons.1 hx with rfl | hx
    · exact hashL_length _
    · exact pairUp_32 k n r (by simp at h; omega) x hx
theorem pairUp_range (G : Nat → List UInt8) (k : Nat) : ∀ n a, pairUp k ((List.range' (2 * a) (2 * n)).map G) = (List.range' a n).map fun p => hashL (joinT k (G (2 * p)) (G (2 * p + 1)))
  | 0, a => rfl
  | n + 1, a => by
    rw [show 2 * (n + 1) = 2 * n + 1 + 1 by omega, List.range'_succ, List.range'_succ, List.map_cons, List.map_cons, pairUp_two, List.range'_succ, List.map_cons, ← pairUp_range G k n (a + 1)]
    rw [show 2 * a + 1 + 1 = 2 * (a + 1) by omega]
/-- The nodes of a level, as they are made of the leaves and the two lists. -/
def lvlS (f z : Nat) (lv le ri : List UInt8) : Nat → List (List UInt8)
  | 0 => (List.range (z - f + 1)).map (hpart lv)
  | k + 1 => pairUp (k + 1) ((if (f >>> k) % 2 = 0 then [] else [hpart le (sidL f k).length]) ++ lvlS f z lv le ri k ++ (if (z >>> k) % 2 = 1 then [] else [hpart ri (sidR z k).length]))
section
variable {f z : Nat} {lv le ri : List UInt8}
theorem lvlS_zero : lvlS f z lv le ri 0 = (List.range (z - f + 1)).map (hpart lv) := rfl
theorem lvlS_next (k : Nat) : lvlS f z lv le ri (k + 1) = pairUp (k + 1) ((if (f >>> k) % 2 = 0 then [] else [hpart le (sidL f k).length]) ++ lvlS f z lv le ri k ++ (if (z >>> k) % 2 = 1 then [] else [hpart ri (sidR z k).length])) := rfl
theorem lvlS_eq (N : Nat → Nat → List UInt8) (hfz : f ≤ z) (h : Nat) (h0 : ∀ i, i ≤ z - f → N 0 (f + i) = hpart lv i) (hL : ∀ k, k < h → (f >>> k) % 2 ≠ 0 → N k (f >>> k - 1) = hpart le (sidL f k).length) (hR : ∀ k, k < h → (z >>> k) % 2 ≠ 1 → N k (z >>> k + 1) = hpart ri (sidR z k).length) (hS : ∀ k, k < h → ∀ p, f >>> (k + 1) ≤ p → p ≤ z >>> (k + 1) → N (k + 1) p = hashL (joinT (k + 1) (N k (2 * p)) (N k (2 * p + 1)))) :
    ∀ k, k ≤ h → lvlS f z lv le ri k = (plcS f z k).map (N k)
  | 0, _ => by
    rw [lvlS_zero, plcS, Nat.shiftRight_zero, Nat.shiftRight_zero, List.range'_eq_map_range, List.map_map]
    refine List.map_congr_left fun i hi => ?_
    rw [List.mem_range] at hi
    exact (h0 i (by omega)).symm
  | k + 1, hk => by
    rw [lvlS_next, lvlS_eq N hfz h h0 hL hR hS k (by omega)]
    have e1 : (if (f >>> k) % 2 = 0 then [] else [hpart le (sidL f k).length]) = (if (f >>> k) % 2 = 0 then [] else [f >>> k - 1]).map (N k) := by
      split
      · rfl
      · rename_i g
        rw [List.map_cons, hL k (by omega) g]
        rfl
    have e2 : (if (z >>> k) % 2 = 1 then [] else [hpart ri (sidR z k).length]) = (if (z >>> k) % 2 = 1 then [] else [z >>> k + 1]).map (N k) := by
      split
      · rfl
      · rename_i g
        rw [List.map_cons, hR k (by omega) g]
        rfl
    rw [e1, e2, ← List.map_append, ← List.map_append, plcS_step hfz k, pairUp_range, plcS]
    refine List.map_congr_left fun p hp => ?_
    rw [← plcS, plcS_mem hfz] at hp
    exact (hS k (by omega) p hp.1 hp.2).symm
end
/-- How many nodes a level has, with those beside them. -/
theorem pairUp_length (k : Nat) : ∀ n (l : List (List UInt8)), l.length = 2 * n → (pairUp k l).length = n
  | 0, l, h => by
    obtain rfl : l = [] := List.eq_nil_of_length_eq_zero (by omega)
    rfl
  | n + 1, [], h => by simp at h
  | n + 1, [_], h => by simp at h; omega
  | n + 1, a :: b :: r, h => by
    rw [pairUp_two, List.length_cons, pairUp_length k n r (by simp at h; omega)]
theorem even_step {f z : Nat} (h : f ≤ z) (k : Nat) : (if (f >>> k) % 2 = 0 then 0 else 1) + (z >>> k - f >>> k + 1) + (if (z >>> k) % 2 = 1 then 0 else 1) = 2 * (z >>> (k + 1) - f >>> (k + 1) + 1) := by
  have h0 := shr_mono h k
  have h1 : f >>> (k + 1) = (f >>> k) / 2 := by rw [Nat.shiftRight_succ]
  have h2 : z >>> (k + 1) = (z >>> k) / 2 := by rw [Nat.shiftRight_succ]
  rw [h1, h2]
  clear h1 h2
  generalize f >>> k = a at *
  generalize z >>> k = b at *
  split <;> split <;> omega
theorem lvlS_length {f z : Nat} (lv le ri : List UInt8) (h : f ≤ z) : ∀ k, (lvlS f z lv le ri k).length = z >>> k - f >>> k + 1
  | 0 => by simp [lvlS_zero]
  | k + 1 => by
    have ih := lvlS_length lv le ri h k
    have he := even_step h k
    rw [lvlS_next, pairUp_length _ (z >>> (k + 1) - f >>> (k + 1) + 1)]
    rw [List.length_append, List.length_append, ih, ← he]
    congr 1
    · congr 1
      split <;> rfl
    · split <;> rfl
theorem lvlS_32 {f z m : Nat} (lv le ri : List UInt8) (hm : z - f + 1 = m) (hl : lv.length = 32 * m) : ∀ k, ∀ x ∈ lvlS f z lv le ri k, x.length = 32
  | 0, x, hx => by
    rw [lvlS_zero] at hx
    obtain ⟨i, hi, rfl⟩ := List.mem_map.1 hx
    rw [List.mem_range] at hi
    exact hpart_length hl (by omega)
  | k + 1, x, hx => by
    rw [lvlS_next] at hx
    exact pairUp_32 _ _ _ (Nat.le_refl _) x hx
/-- At the height there is one. -/
theorem shr_all {z h : Nat} (hz : z < 2 ^ h) : z >>> h = 0 := by
  rw [Nat.shiftRight_eq_div_pow]
  exact Nat.div_eq_of_lt hz
theorem plcS_root {f z h : Nat} (hfz : f ≤ z) (hz : z < 2 ^ h) : plcS f z h = [0] := by
  rw [plcS, shr_all hz, shr_all (show f < 2 ^ h by omega)]
  rfl
end Go.Proofs.YtlmecjnlinalkaaDoor

namespace Go.Proofs.YtlmecjnlinalkaaDoor

/-- Where a level's own stands among all. -/
theorem sidL_pre (f : Nat) : ∀ n k, k ≤ n → ∃ r, sidL f n = sidL f k ++ r
  | 0, k, h => ⟨[], by rw [show k = 0 by omega, List.append_nil]⟩
  | n + 1, k, h => by
    by_cases e : k = n + 1
    · exact ⟨[], by rw [e, List.append_nil]⟩
    · obtain ⟨r, hr⟩ := sidL_pre f n k (by omega)
      exact ⟨r ++ if (f >>> n) % 2 = 0 then [] else [(n, f >>> n - 1)], by rw [sidL_next, hr, List.append_assoc]⟩
theorem sidR_pre (z : Nat) : ∀ n k, k ≤ n → ∃ r, sidR z n = sidR z k ++ r
  | 0, k, h => ⟨[], by rw [show k = 0 by omega, List.append_nil]⟩
  | n + 1, k, h => by
    by_cases e : k = n + 1
    · exact ⟨[], by rw [e, List.append_nil]⟩
    · obtain ⟨r, hr⟩ := sidR_pre z n k (by omega)
      exact ⟨r ++ if (z >>> n) % 2 = 1 then [] else [(n, z >>> n + 1)], by rw [sidR_next, hr, List.append_assoc]⟩
theorem sidL_mem {f : Nat} : ∀ {h k p : Nat}, (k, p) ∈ sidL f h ↔ k < h ∧ (f >>> k) % 2 ≠ 0 ∧ p = f >>> k - 1
  | 0, k, p => by rw [sidL_zero]; simp
  | h + 1, k, p => by
    rw [sidL_next, List.mem_append, sidL_mem (h := h)]
    constructor
    · rintro (⟨h1, h2⟩ | h1)
      · exact ⟨by omega, h2⟩
      · split at h1
        · cases h1
        · rename_i g
          simp only [List.mem_singleton, Prod.mk.injEq] at h1
          obtain ⟨rfl, rfl⟩ := h1
          exact ⟨by omega, g, rfl⟩
    · rintro ⟨h1, h2, h3⟩
      by_cases e : k = h
      · subst e
        rw [if_neg h2, h3]
        exact .inr (by simp)
      · exact .inl ⟨by omega, h2, h3⟩
theorem sidR_mem {z : Nat} : ∀ {h k p : Nat}, (k, p) ∈ sidR z h ↔ k < h ∧ (z >>> k) % 2 ≠ 1 ∧ p = z >>> k + 1
  | 0, k, p => by rw [sidR_zero]; simp
  | h + 1, k, p => by
    rw [sidR_next, List.mem_append, sidR_mem (h := h)]
    constructor
    · rintro (⟨h1, h2⟩ | h1)
      · exact ⟨by omega, h2⟩
      · split at h1
        · cases h1
        · rename_i g
          simp only [List.mem_singleton, Prod.mk.injEq] at h1
          obtain ⟨rfl, rfl⟩ := h1
          exact ⟨by omega, g, rfl⟩
    · rintro ⟨h1, h2, h3⟩
      by_cases e : k = h
      · subst e
        rw [if_neg h2, h3]
        exact .inr (by simp)
      · exact .inl ⟨by omega, h2, h3⟩
theorem sidL_idx {f h k : Nat} (hk : k < h) (ho : (f >>> k) % 2 ≠ 0) : (sidL f h).idxOf (k, f >>> k - 1) = (sidL f k).length := by
  obtain ⟨r, hr⟩ := sidL_pre f h (k + 1) (by omega)
  have hn : (k, f >>> k - 1) ∉ sidL f k := fun h => by
    have := (sidL_mem.1 h).1
    omega
  rw [hr, sidL_next, if_neg ho, List.append_assoc, List.idxOf_append, if_neg hn, List.singleton_append, List.idxOf_cons_self, Nat.zero_add]
theorem sidR_idx {z h k : Nat} (hk : k < h) (ho : (z >>> k) % 2 ≠ 1) : (sidR z h).idxOf (k, z >>> k + 1) = (sidR z k).length := by
  obtain ⟨r, hr⟩ := sidR_pre z h (k + 1) (by omega)
  have hn : (k, z >>> k + 1) ∉ sidR z k := fun h => by
    have := (sidR_mem.1 h).1
    omega
  rw [hr, sidR_next, if_neg ho, List.append_assoc, List.idxOf_append, if_neg hn, List.singleton_append, List.idxOf_cons_self, Nat.zero_add]
theorem sidL_lt {f h k : Nat} (hk : k < h) (ho : (f >>> k) % 2 ≠ 0) : (sidL f k).length < (sidL f h).length := by
  rw [← sidL_idx hk ho]
  exact List.idxOf_lt_length_of_mem (sidL_mem.2 ⟨hk, ho, rfl⟩)
theorem sidR_lt {z h k : Nat} (hk : k < h) (ho : (z >>> k) % 2 ≠ 1) : (sidR z k).length < (sidR z h).length := by
  rw [← sidR_idx hk ho]
  exact List.idxOf_lt_length_of_mem (sidR_mem.2 ⟨hk, ho, rfl⟩)
/-- What a node comes to, by definition. -/
def spanN (f : Nat) (S R : List (Nat × Nat)) (lv le ri : List UInt8) : Nat → Nat → List UInt8
  | 0, p => if (0, p) ∈ S then hpart le (S.idxOf (0, p)) else if (0, p) ∈ R then hpart ri (R.idxOf (0, p)) else hpart lv (p - f)
  | k + 1, p => if (k + 1, p) ∈ S then hpart le (S.idxOf (k + 1, p)) else if (k + 1, p) ∈ R then hpart ri (R.idxOf (k + 1, p)) else hashL (joinT (k + 1) (spanN f S R lv le ri k (2 * p)) (spanN f S R lv le ri k (2 * p + 1)))
section
variable {f k p : Nat} {S R : List (Nat × Nat)} {lv le ri : List UInt8}
theorem spanN_left (h : (k, p) ∈ S) : spanN f S R lv le ri k p = hpart le (S.idxOf (k, p)) := by cases k <;> simp [spanN, h]
theorem spanN_right (h : (k, p) ∉ S) (h' : (k, p) ∈ R) : spanN f S R lv le ri k p = hpart ri (R.idxOf (k, p)) := by cases k <;> simp [spanN, h, h']
theorem spanN_leaf (h : (0, p) ∉ S) (h' : (0, p) ∉ R) : spanN f S R lv le ri 0 p = hpart lv (p - f) := by simp [spanN, h, h']
theorem spanN_step (h : (k + 1, p) ∉ S) (h' : (k + 1, p) ∉ R) : spanN f S R lv le ri (k + 1) p = hashL (joinT (k + 1) (spanN f S R lv le ri k (2 * p)) (spanN f S R lv le ri k (2 * p + 1))) := by simp [spanN, h, h']
end
/-- Which nodes are reached. -/
def rchS (f z h k p : Nat) : Prop := (k, p) ∈ sidL f h ∨ (k, p) ∈ sidR z h ∨ f >>> k ≤ p ∧ p ≤ z >>> k
theorem rch_two {f z h k p : Nat} (hk : k + 1 ≤ h) (hr : rchS f z h (k + 1) p) (h1 : (k + 1, p) ∉ sidL f h) (h2 : (k + 1, p) ∉ sidR z h) : rchS f z h k (2 * p) ∧ rchS f z h k (2 * p + 1) := by
  obtain ⟨a1, a2⟩ : f >>> (k + 1) ≤ p ∧ p ≤ z >>> (k + 1) := by
    rcases hr with hr | hr | hr
    · exact absurd hr h1
    · exact absurd hr h2
    · exact hr
  have e1 : f >>> (k + 1) = (f >>> k) / 2 := by rw [Nat.shiftRight_succ]
  have e2 : z >>> (k + 1) = (z >>> k) / 2 := by rw [Nat.shiftRight_succ]
  rw [e1] at a1
  rw [e2] at a2
  clear e1 e2 hr h1 h2
  unfold rchS
  simp only [sidL_mem, sidR_mem]
  generalize f >>> k = a at *
  generalize z >>> k = b at *
  constructor
  · by_cases g : 2 * p < a
    · exact .inl ⟨by omega, by omega, by omega⟩
    · exact .inr (.inr ⟨by omega, by omega⟩)
  · by_cases g : b < 2 * p + 1
    · exact .inr (.inl ⟨by omega, by omega, by omega⟩)
    · exact .inr (.inr ⟨by omega, by omega⟩)
theorem mid_notL {f k p h : Nat} (hp : f >>> k ≤ p) : (k, p) ∉ sidL f h := fun hm => by
  have := sidL_mem.1 hm
  generalize f >>> k = a at *
  omega
theorem mid_notR {z k p h : Nat} (hp : p ≤ z >>> k) : (k, p) ∉ sidR z h := fun hm => by
  have := sidR_mem.1 hm
  omega
theorem side_notR {f z k p h h' : Nat} (hfz : f ≤ z) (hm : (k, p) ∈ sidL f h) : (k, p) ∉ sidR z h' := fun hm' => by
  have h1 := sidL_mem.1 hm
  have h2 := sidR_mem.1 hm'
  have := shr_mono hfz k
  omega
theorem rch_leaf {f z h p : Nat} (hr : rchS f z h 0 p) (h1 : (0, p) ∉ sidL f h) (h2 : (0, p) ∉ sidR z h) : f ≤ p ∧ p ≤ z := by
  rcases hr with hr | hr | hr
  · exact absurd hr h1
  · exact absurd hr h2
  · exact hr
/-- A reached node is a hash. -/
theorem spanN_length {f z h m : Nat} {lv le ri : List UInt8} (hm : z - f + 1 = m) (hl : lv.length = 32 * m) (hle : le.length = 32 * (sidL f h).length) (hri : ri.length = 32 * (sidR z h).length) : ∀ k p, rchS f z h k p → (spanN f (sidL f h) (sidR z h) lv le ri k p).length = 32
  | k, p, hr => by
    by_cases h1 : (k, p) ∈ sidL f h
    · rw [spanN_left h1]
      exact hpart_length hle (List.idxOf_lt_length_of_mem h1)
    · by_cases h2 : (k, p) ∈ sidR z h
      · rw [spanN_right h1 h2]
        exact hpart_length hri (List.idxOf_lt_length_of_mem h2)
      · cases k with
        | zero =>
          have := rch_leaf hr h1 h2
          rw [spanN_leaf h1 h2]
          exact hpart_length hl (by omega)
        | succ k =>
          rw [spanN_step h1 h2]
          exact hashL_length _
/-- Level by level it comes to the same. -/
theorem lvl_span {f z h : Nat} (lv le ri : List UInt8) (hfz : f ≤ z) : ∀ k, k ≤ h → lvlS f z lv le ri k = (plcS f z k).map (spanN f (sidL f h) (sidR z h) lv le ri k) := by
  refine lvlS_eq _ hfz h ?_ ?_ ?_ ?_
  · intro i hi
    rw [spanN_leaf (mid_notL (by rw [Nat.shiftRight_zero]; omega)) (mid_notR (by rw [Nat.shiftRight_zero]; omega)), Nat.add_sub_cancel_left]
  · intro k hk ho
    rw [spanN_left (sidL_mem.2 ⟨hk, ho, rfl⟩), sidL_idx hk ho]
  · intro k hk ho
    have hR : (k, z >>> k + 1) ∈ sidR z h := sidR_mem.2 ⟨hk, ho, rfl⟩
    rw [spanN_right (fun hL => side_notR hfz hL hR) hR, sidR_idx hk ho]
  · intro k hk p h1 h2
    rw [spanN_step (mid_notL h1) (mid_notR h2)]
theorem lvl_root {f z h : Nat} (lv le ri : List UInt8) (hfz : f ≤ z) (hz : z < 2 ^ h) : lvlS f z lv le ri h = [spanN f (sidL f h) (sidR z h) lv le ri h 0] := by
  rw [lvl_span lv le ri hfz h (Nat.le_refl _), plcS_root hfz hz]
  rfl
/-- How many nodes a span's proof has: as many as the proof of its indices. -/
theorem below_span {f m k p : Nat} (hm : 1 ≤ m) : belowB (List.range' f m) k p = decide (f >>> k ≤ p ∧ p ≤ (f + m - 1) >>> k) := by
  cases hb : belowB (List.range' f m) k p with
  | true =>
    obtain ⟨x, hx, e⟩ := List.any_eq_true.1 hb
    rw [List.mem_range'_1] at hx
    obtain rfl : x >>> k = p := by simpa using e
    exact (decide_eq_true ⟨shr_mono hx.1 k, shr_mono (by omega) k⟩).symm
  | false =>
    refine (decide_eq_false fun ⟨h1, h2⟩ => ?_).symm
    have hno : ∀ x, f ≤ x → x < f + m → x >>> k ≠ p := fun x hx1 hx2 e => by
      have : belowB (List.range' f m) k p = true := List.any_eq_true.2 ⟨x, List.mem_range'_1.2 ⟨hx1, hx2⟩, by simpa using e⟩
      rw [hb] at this
      cases this
    by_cases h3 : f ≤ p * 2 ^ k
    · refine hno (p * 2 ^ k) h3 ?_ (by rw [Nat.shiftRight_eq_div_pow, Nat.mul_div_cancel _ (Nat.two_pow_pos k)])
      have := (Nat.le_div_iff_mul_le (Nat.two_pow_pos k)).1 (by rw [Nat.shiftRight_eq_div_pow] at h2; exact h2)
      omega
    · refine hno f (Nat.le_refl _) (by omega) (Nat.le_antisymm h1 ?_)
      rw [Nat.shiftRight_eq_div_pow, Nat.le_div_iff_mul_le (Nat.two_pow_pos k)]
      omega
theorem sum_two (G : Nat → Nat) : ∀ n a, ((List.range' (2 * a) (2 * n)).map G).sum = ((List.range' a n).map fun p => G (2 * p) + G (2 * p + 1)).sum
  | 0, a => rfl
  | n + 1, a => by
    rw [show 2 * (n + 1) = 2 * n + 1 + 1 by omega, List.range'_succ, List.range'_succ, List.map_cons, List.map_cons, List.range'_succ, List.map_cons, List.sum_cons, List.sum_cons, List.sum_cons, ← sum_two G n (a + 1)]
    rw [show 2 * a + 1 + 1 = 2 * (a + 1) by omega]
    omega
theorem sum_spots {f m : Nat} (hm : 1 ≤ m) {h : Nat} (hh : h ≤ 32) (hf : f + m ≤ 2 ^ h) : ∀ k, k ≤ h → ((plcS f (f + m - 1) k).map fun p => (spotsS (List.range' f m) k p).length).sum = (sidL f k).length + (sidR (f + m - 1) k).length
  | 0, _ => by
    rw [sidL_zero, sidR_zero]
    have : ∀ l : List Nat, (∀ p ∈ l, (spotsS (List.range' f m) 0 p).length = 0) → (l.map fun p => (spotsS (List.range' f m) 0 p).length).sum = 0 := by
      intro l
      induction l with
      | nil => intro _; rfl
      | cons x l ih =>
        intro h
        rw [List.map_cons, List.sum_cons, h x (by simp), ih fun p hp => h p (List.mem_cons_of_mem _ hp)]
    refine this _ fun p hp => ?_
    rw [plcS_mem (by omega)] at hp
    rw [spotsS_leaf (by rw [below_span hm]; exact decide_eq_true hp)]
    rfl
  | k + 1, hk => by
    have hfz : f ≤ f + m - 1 := by omega
    have ih := sum_spots hm hh hf k (by omega)
    have e1 : ((plcS f (f + m - 1) (k + 1)).map fun p => (spotsS (List.range' f m) (k + 1) p).length) = ((plcS f (f + m - 1) (k + 1)).map fun p => (spotsS (List.range' f m) k (2 * p)).length + (spotsS (List.range' f m) k (2 * p + 1)).length) := by
      refine List.map_congr_left fun p hp => ?_
      rw [plcS_mem hfz] at hp
      have hpz : p < 2 ^ (h - (k + 1)) := by
        refine Nat.lt_of_le_of_lt hp.2 ?_
        rw [Nat.shiftRight_eq_div_pow, Nat.div_lt_iff_lt_mul (Nat.two_pow_pos _), ← Nat.pow_add, show h - (k + 1) + (k + 1) = h by omega]
        omega
      have hroom : (p + 1) * 2 ^ (k + 1) ≤ 4294967296 := by
        have h1 : (p + 1) * 2 ^ (k + 1) ≤ 2 ^ (h - (k + 1)) * 2 ^ (k + 1) := Nat.mul_le_mul_right _ hpz
        rw [← Nat.pow_add, show h - (k + 1) + (k + 1) = h by omega] at h1
        have h2 : (2 : Nat) ^ h ≤ 2 ^ 32 := Nat.pow_le_pow_right (by omega) hh
        omega
      rw [spotsS_half hroom (by rw [below_span hm]; exact decide_eq_true hp), List.length_append]
    rw [e1]
    rw [plcS, ← sum_two fun p => (spotsS (List.range' f m) k p).length]
    rw [← plcS_step hfz k, List.map_append, List.map_append, List.sum_append, List.sum_append, ih, sidL_next, sidR_next, List.length_append, List.length_append]
    have o1 : ((if (f >>> k) % 2 = 0 then [] else [f >>> k - 1]).map fun p => (spotsS (List.range' f m) k p).length).sum = (if (f >>> k) % 2 = 0 then ([] : List (Nat × Nat)) else [(k, f >>> k - 1)]).length := by
      split
      · rfl
      · rename_i g
        have : belowB (List.range' f m) k (f >>> k - 1) = false := by
          rw [below_span hm]
          generalize f >>> k = a at *
          exact decide_eq_false (by omega)
        rw [List.map_cons, spotsS_out this]
        rfl
    have o2 : ((if ((f + m - 1) >>> k) % 2 = 1 then [] else [(f + m - 1) >>> k + 1]).map fun p => (spotsS (List.range' f m) k p).length).sum = (if ((f + m - 1) >>> k) % 2 = 1 then ([] : List (Nat × Nat)) else [(k, (f + m - 1) >>> k + 1)]).length := by
      split
      · rfl
      · rename_i g
        have : belowB (List.range' f m) k ((f + m - 1) >>> k + 1) = false := by
          rw [below_span hm]
          generalize (f + m - 1) >>> k = b at *
          exact decide_eq_false (by omega)
        rw [List.map_cons, spotsS_out this]
        rfl
    rw [o1, o2]
    omega
theorem spots_span {f m h : Nat} (hm : 1 ≤ m) (hh : h ≤ 32) (hf : f + m ≤ 2 ^ h) : (spotsS (List.range' f m) h 0).length = (sidL f h).length + (sidR (f + m - 1) h).length := by
  have := sum_spots hm hh hf h (Nat.le_refl _)
  rw [plcS_root (by omega) (by omega), List.map_cons, List.map_nil, List.sum_cons, List.sum_nil, Nat.add_zero] at this
  exact this
end Go.Proofs.YtlmecjnlinalkaaDoor

namespace Go.Proofs.YtlmecjnlinalkaaDoor
open Go.RowKit

set_option maxRecDepth 100000 in
set_option maxHeartbeats 400000 in
theorem spanR_no (h m : Int) (f : Nat) (W : World) (hb : h < 0 ∨ 32 < h ∨ m < 1 ∨ 256 < m) :
    Calls Tryd.prog 42 #[.int .i64 h, .int .u64 (f : Int), .int .i64 m] W fun r W' => r = .returned (.bool false) ∧ W' = W := by
  by_cases h1 : h < 0
  · have f1 : decide (h < 0) = true := by simpa using h1
    clear hb
    go_enter Tryd.func42, Tryd.ntmps42
    go_wp2
    go_ret
    exact ⟨rfl, rfl⟩
  · have f1 : decide (h < 0) = false := by simpa using h1
    by_cases h2 : 32 < h
    · have f2 : decide (32 < h) = true := by simpa using h2
      clear hb
      go_enter Tryd.func42, Tryd.ntmps42
      go_wp2
      go_ret
      exact ⟨rfl, rfl⟩
    · have f2 : decide (32 < h) = false := by simpa using h2
      by_cases h3 : m < 1
      · have f3 : decide (m < 1) = true := by simpa using h3
        clear hb
        go_enter Tryd.func42, Tryd.ntmps42
        go_wp2
        go_ret
        exact ⟨rfl, rfl⟩
      · have f3 : decide (m < 1) = false := by simpa using h3
        have h4 : 256 < m := by omega
        have f4 : decide (256 < m) = true := by simpa using h4
        clear hb
        go_enter Tryd.func42, Tryd.ntmps42
        go_wp2
        go_ret
        exact ⟨rfl, rfl⟩
set_option maxRecDepth 100000 in
set_option maxHeartbeats 1000000 in
theorem spanR_yes (h m f : Nat) (W : World) (hh : h ≤ 32) (h0 : 1 ≤ m) (hl : m ≤ 256) (hf : f < 2 ^ 64) :
    Calls Tryd.prog 42 #[.int .i64 (h : Int), .int .u64 (f : Int), .int .i64 (m : Int)] W fun r W' => r = .returned (.bool (decide (f + m ≤ 2 ^ h))) ∧ W' = W := by
  have HL := hid (show m ≤ 256 ∧ 1 ≤ m from ⟨hl, h0⟩)
  have HH := hid hh
  have HF := hid hf
  have f1 : decide ((h : Int) < 0) = false := by simp
  have f2 : decide (32 < (h : Int)) = false := by simp; omega
  have f2n : decide (32 < h) = false := by simp; omega
  have f3 : decide ((m : Int) < 1) = false := by simp; omega
  have f3n : decide (m < 1) = false := by simp; omega
  have f4 : decide (256 < (m : Int)) = false := by simp; omega
  have f4n : decide (256 < m) = false := by simp; omega
  clear hh h0 hl hf
  go_enter Tryd.func42, Tryd.ntmps42
  go_wp2
  clear f1 f2 f2n f3 f3n f4 f4n
  go_loopw [7, 8] (fun v7 v8 wr => ∃ i : Nat, i ≤ h ∧ v8 = .int .i64 (i : Int) ∧ v7 = .int .u64 ((2 ^ i : Nat) : Int) ∧ wr = W) (fun _ v8 _ => h - (intOf v8).toNat)
  case atStart => exact ⟨0, by omega, rfl, rfl, rfl⟩
  case round =>
    obtain ⟨i, hi, rfl, rfl, ew0⟩ := hrel
    obtain rfl := ew0.symm
    by_cases hlt : i < h
    · have d1 : decide ((i : Int) < (h : Int)) = true := by simp; omega
      have d1n : decide (i < h) = true := by simp; omega
      obtain ⟨i1, hi1⟩ : ∃ m, m = i + 1 := ⟨_, rfl⟩
      have e2 : (i : Int) + 1 = (i1 : Int) := by omega
      have ew : IntKind.i64.wrap (i1 : Int) = (i1 : Int) := by rw [IntKind.wrap_i64] <;> have := HH.out <;> omega
      have hb := Nat.pow_le_pow_right (n := 2) (by omega) (show i1 ≤ 32 by have := HH.out; omega)
      have hp : 2 ^ i1 = 2 ^ i * 2 := by rw [hi1, Nat.pow_succ]
      obtain ⟨q, hq⟩ : ∃ q, q = 2 ^ i := ⟨_, rfl⟩
      obtain ⟨q1, hq1⟩ : ∃ q, q = 2 ^ i1 := ⟨_, rfl⟩
      rw [← hq, ← hq1] at hp
      rw [← hq1] at hb
      rw [← hq]
      have em : (q : Int) * 2 = (q1 : Int) := by omega
      have ewm : IntKind.u64.wrap (q1 : Int) = (q1 : Int) := by simp [IntKind.wrap, IntKind.signed, IntKind.bits]; omega
      have HX := hid (show i1 ≤ h ∧ q1 = 2 ^ i1 ∧ h - i1 < h - i by omega)
      clear hb hp hq hq1 hlt hi hi1
      go_wp2
      exact ⟨⟨i1, HX.out.1, rfl, by rw [← HX.out.2.1], trivial⟩, by
        show h - ((i1 : Int)).toNat < h - ((i : Int)).toNat
        rw [Int.toNat_natCast, Int.toNat_natCast]
        exact HX.out.2.2⟩
    · obtain rfl : i = h := by omega
      have d1 : decide ((i : Int) < (i : Int)) = false := by simp
      have hb := Nat.pow_le_pow_right (n := 2) (by omega) HH.out
      obtain ⟨q, hq⟩ : ∃ q, q = 2 ^ i := ⟨_, rfl⟩
      rw [← hq] at hb ⊢
      have HQB := hid hb
      have HQ := hid hq
      clear hlt hi hq hb
      go_wp2
      clear d1
      go_loopw [9] (fun v9 w2 => ∃ j : Nat, j ≤ m ∧ v9 = .int .i64 (j : Int) ∧ Hid (j = 0 ∨ f + j ≤ q) ∧ w2 = W) (fun v9 _ => m - (intOf v9).toNat)
      case atStart => exact ⟨0, by omega, rfl, hid (.inl rfl), rfl⟩
      case round =>
        obtain ⟨j, hj, rfl, hx, ew1⟩ := hrel
        obtain rfl := ew1.symm
        by_cases hlt : j < m
        · have d1 : decide ((j : Int) < (m : Int)) = true := by simp; omega
          have d1n : decide (j < m) = true := by simp; omega
          have hL := HL.out.1
          have hF := HF.out
          have hQ := HQB.out
          by_cases hc : q ≤ f
          · have f0 : decide ((q : Int) ≤ (f : Int)) = true := by simp; omega
            have f0n : decide (q ≤ f) = true := by simpa using hc
            have HO := hid (show decide (f + m ≤ 2 ^ i) = false by rw [← HQ.out]; simp; omega)
            clear hL hF hQ hc hlt hj hx
            go_wp2
            go_ret
            exact ⟨by rw [HO.out]; rfl, rfl⟩
          · have f0 : decide ((q : Int) ≤ (f : Int)) = false := by simp; omega
            have f0n : decide (q ≤ f) = false := by simp; omega
            obtain ⟨d, hd⟩ : ∃ d, d = q - f := ⟨_, rfl⟩
            have e5 : (q : Int) - (f : Int) = (d : Int) := by omega
            have e5w : IntKind.u64.wrap (d : Int) = (d : Int) := by simp [IntKind.wrap, IntKind.signed, IntKind.bits]; omega
            have e6w : IntKind.u64.wrap (j : Int) = (j : Int) := by simp [IntKind.wrap, IntKind.signed, IntKind.bits]; omega
            by_cases hc2 : d ≤ j
            · have k0 : decide ((d : Int) ≤ (j : Int)) = true := by simp; omega
              have k0n : decide (d ≤ j) = true := by simpa using hc2
              have HO := hid (show decide (f + m ≤ 2 ^ i) = false by rw [← HQ.out]; simp; omega)
              clear hL hF hQ hc hlt hj hx hd hc2
              go_wp2
              go_ret
              exact ⟨by rw [HO.out]; rfl, rfl⟩
            · have k0 : decide ((d : Int) ≤ (j : Int)) = false := by simp; omega
              have k0n : decide (d ≤ j) = false := by simp; omega
              obtain ⟨j1, hj1⟩ : ∃ m, m = j + 1 := ⟨_, rfl⟩
              have e2 : (j : Int) + 1 = (j1 : Int) := by omega
              have ew : IntKind.i64.wrap (j1 : Int) = (j1 : Int) := by rw [IntKind.wrap_i64] <;> omega
              have HM := hid (show j1 ≤ m ∧ m - j1 < m - j ∧ f + j1 ≤ q by omega)
              clear hL hF hQ hc hlt hj hx hd hc2 hj1
              go_wp2
              exact ⟨⟨j1, HM.out.1, rfl, hid (.inr HM.out.2.2), trivial⟩, by
                show m - ((j1 : Int)).toNat < m - ((j : Int)).toNat
                rw [Int.toNat_natCast, Int.toNat_natCast]
                exact HM.out.2.1⟩
        · obtain rfl : j = m := by omega
          have d1 : decide ((j : Int) < (j : Int)) = false := by simp
          have HO := hid (show decide (f + j ≤ 2 ^ i) = true by rw [← HQ.out]; have := hx.out; have := HL.out.2; simp; omega)
          clear hlt hj hx
          go_wp2
          go_ret
          exact ⟨by rw [HO.out]; rfl, rfl⟩
/-- Right, whatever it is handed. -/
theorem right11R_any (h m : Int) (f : Nat) (W : World) (hf : f < 2 ^ 64) :
    Calls Tryd.prog 42 #[.int .i64 h, .int .u64 (f : Int), .int .i64 m] W fun r W' => r = .returned (.bool (spanB h f m)) ∧ W' = W := by
  by_cases hb : h < 0 ∨ 32 < h ∨ m < 1 ∨ 256 < m
  · refine (spanR_no h m f W hb).mono ?_
    rintro r W' ⟨rfl, rfl⟩
    exact ⟨by rw [spanB_no hb], rfl⟩
  · obtain ⟨k, rfl⟩ : ∃ k : Nat, h = (k : Int) := ⟨h.toNat, by omega⟩
    obtain ⟨n, rfl⟩ : ∃ k : Nat, m = (k : Int) := ⟨m.toNat, by omega⟩
    rw [spanB_yes (by omega) (by omega) (by omega)]
    exact spanR_yes k n f W (by omega) (by omega) (by omega) hf
end Go.Proofs.YtlmecjnlinalkaaDoor

namespace Go.Proofs.YtlmecjnlinalkaaDoor
open Go.RowKit

theorem infoSd : (Tryd.prog.info? 132).map (fun i => (i.zero, i.size, i.bytes)) = some (some (.agg (sptV (0, 0)).toArray), 2, 16) := by kernel_rfl
theorem infoSd_parts : ∃ i, Tryd.prog.info? 132 = some i ∧ i.zero = some (.agg (sptV (0, 0)).toArray) ∧ i.size = 2 ∧ i.bytes = 16 := by
  have := infoSd
  cases h : Tryd.prog.info? 132 with
  | none => rw [h] at this; cases this
  | some ie =>
    rw [h] at this
    simp only [Option.map_some, Option.some.injEq, Prod.mk.injEq] at this
    exact ⟨ie, rfl, this.1, this.2.1, this.2.2⟩
theorem run_buildSd {o : Oper} {a : Go.Act} {W : World} (x : Operand) (ho : o.op = .buildSlice 80 1 #[(0, x)]) (p : Nat × Nat) (hx : a.eval x = .agg (sptV p).toArray) :
    (execOp a.eval o).run Tryd.prog W = .ok (.value (.slice (some ⟨W.heap.size, 0, none⟩) 1 1)) (W.alloc (.cells (sptV p).toArray 132)) := by
  obtain ⟨ie, hie, hz, hs, -⟩ := infoSd_parts
  unfold execOp
  simp only [ho, Sem.run_bind]
  rw [run_buildSlice W _ _ 1 _ (sptV p).toArray ie _ Tryd.underlying80 hie hz (by rw [hs]; decide) (by rw [hs]; decide) (by rw [hs]; simpa [hx] using fillSp p)]
  rfl
/-- A slice of sides of the call's own. -/
def Asd (W : World) (base : Nat) (v : Value) (L : List (Nat × Nat)) : Prop := W.ownsRow base 132 2 v L.length (sptR L)
theorem Asd.nil (W : World) (base : Nat) : Asd W base (.slice none 0 0) [] := World.ownsRow_nil _ _ _ _
theorem Asd.form {W : World} {base : Nat} {v : Value} {L : List (Nat × Nat)} (h : Asd W base v L) : ∃ A c, v = .slice A L.length c := by
  rcases h.2 with ⟨h1, h2⟩ | ⟨g, cap, cur, e, -⟩
  · rw [h1, h2]
    exact ⟨_, _, rfl⟩
  · exact ⟨_, _, e⟩
theorem Asd.kept {W W' : World} {base : Nat} {v : Value} {L : List (Nat × Nat)} (h : Asd W base v L) (hb : Below W.heap.size W W') : Asd W' base v L := by
  refine ⟨h.1, ?_⟩
  rcases h.2 with h2 | ⟨g, cap, cur, rfl, hb1, hh, r⟩
  · exact .inl h2
  · exact .inr ⟨g, cap, cur, rfl, hb1, (hb.block g (lt_of_block hh)).trans hh, r⟩
theorem Asd.lt {W : World} {base : Nat} {v : Value} {L : List (Nat × Nat)} (h : Asd W base v L) : ∀ k, v.ownBlock = some k → base ≤ k ∧ k < W.heap.size := World.ownsRow.lt h
theorem Asd.mono {W : World} {base base' : Nat} {v : Value} {L : List (Nat × Nat)} (h : Asd W base v L) (hb : base' ≤ base) : Asd W base' v L := by
  refine ⟨h.1, ?_⟩
  rcases h.2 with h2 | ⟨g, cap, cur, rfl, hb1, r⟩
  · exact .inl h2
  · exact .inr ⟨g, cap, cur, rfl, Nat.le_trans hb hb1, r⟩
/-- What it reads as. -/
theorem Asd.rd {W : World} {base c : Nat} {A : Option Addr} {L : List (Nat × Nat)} (h : Asd W base (.slice A L.length c) L) : Rd W W.heap.size A (sptR L) := fun hne => by
  rcases h.2 with ⟨h1, h2⟩ | ⟨g, cap, cur, e, hb, hh, -⟩
  · refine absurd ?_ hne
    obtain rfl : L = [] := List.eq_nil_of_length_eq_zero h2
    rfl
  · obtain rfl : A = some ⟨g, 0, none⟩ := by cases e; rfl
    refine ⟨g, 0, rfl, lt_of_block hh, fun j u hu => ?_⟩
    have := World.ownsRow.cells h (g := g) rfl j u hu
    rwa [add_plain] at this
/-- A side is appended. -/
theorem wpList_append_sd {ops : Array Oper} {rest : List Oper} {o : Oper} {a : Go.Act} {W : World} {Q : Exit → Go.Act → World → Prop} (hw : Region.wanted o (yielded ops a.tmps) = true) (s x : Operand)
    (ho : o.op = .call { callee := .builtin .append, args := #[s, x], argTypes := #[80, 80] })
    (base : Nat) (v : Value) (L : List (Nat × Nat)) (hs : a.eval s = v) (hown : Asd W base v L) (q : Nat) (p : Nat × Nat) (hx : a.eval x = .slice (some ⟨q, 0, none⟩) 1 1) (hq : At W q (sptV p).toArray 132) (n1 : Nat) (hn : n1 = L.length + 1) (hl : L.length ≤ 1000) (hbase : base ≤ W.heap.size)
    (h : ∀ A c w', Asd w' base (.slice A n1 c) (L ++ [p]) → W.grownBy w' v.ownBlock → ((Value.slice A n1 c).ownBlock = v.ownBlock ∨ (Value.slice A n1 c).ownBlock = some W.heap.size) → wpList Tryd.prog ops Q rest (a.put o.dst (.slice A n1 c)) w') :
    wpList Tryd.prog ops Q (o :: rest) a W :=
  BigFrame.wpList_want hw fun K hK => by
    obtain ⟨i, hi, hz, hsz, hby⟩ := infoSd_parts
    obtain ⟨v', w', hr, h2, h3, -, h5⟩ := run_append_own_at (P := Tryd.prog) W base 80 o.type 132 i _ 2 16 Tryd.underlying80 hi hz hsz hby rfl (by omega) v L.length (sptR L) hown ⟨q, 0, none⟩ 1 1 (sptV p) rfl
      (fun j u hu => by rw [add_plain, Nat.zero_add, hq.cell j, List.getElem?_toArray]; exact hu) (by rw [← sptR_one]; exact sptR_cells [p]) (by unfold maxLen; omega) (by omega) hbase
    have h6 : Asd w' base v' (L ++ [p]) := by
      unfold Asd
      rw [sptR_append, sptR_one, List.length_append]
      exact h2
    obtain ⟨A, c, rfl⟩ := h6.form
    rw [List.length_append, show L.length + [p].length = n1 by rw [hn]; rfl] at h5 hr h6
    unfold Oper.wp execOp
    simp only [ho, resolve, invoke, builtin, Sem.run_bind, Sem.run_pure, Result.andThen_ok, List.map_toArray, List.map_cons, List.map_nil, hs, hx, hr]
    exact hK _ _ (h A c w' h6 h3 h5)
/-- A row whose block isn't the one that grows. -/
theorem Asd.grown {W W' : World} {base : Nat} {v : Value} {L : List (Nat × Nat)} {row : Option Nat} (h : Asd W base v L) (hg : W.grownBy W' row) (hr : ∀ k, v.ownBlock = some k → row ≠ some k) : Asd W' base v L := by
  refine ⟨h.1, ?_⟩
  rcases h.2 with h2 | ⟨g, cap, cur, rfl, hb1, hh, r⟩
  · exact .inl h2
  · exact .inr ⟨g, cap, cur, rfl, hb1, (hg.block g (lt_of_block hh) (fun e => hr g rfl e.symm)).trans hh, r⟩
end Go.Proofs.YtlmecjnlinalkaaDoor

namespace Go.Proofs.YtlmecjnlinalkaaDoor
open Go.RowKit

/-- Sides that grow in new memory: those on the left, those on the right. -/
structure SdW (w : World) (vl vr : Value) (L R : List (Nat × Nat)) (W : World) : Prop where
  l : Asd W w.heap.size vl L
  r : Asd W w.heap.size vr R
  d : ∀ k, vl.ownBlock = some k → vr.ownBlock ≠ some k
  b : Below w.heap.size w W
section
variable {w W W' : World} {vl vr v' : Value} {L R : List (Nat × Nat)} {p : Nat × Nat}
theorem SdW.start (w : World) : SdW w (.slice none 0 0) (.slice none 0 0) [] [] w := ⟨Asd.nil _ _, Asd.nil _ _, (fun k h => by cases h), Below.refl _ _⟩
theorem SdW.new (h : SdW w vl vr L R W) (hb : Below W.heap.size W W') : SdW w vl vr L R W' := ⟨h.l.kept hb, h.r.kept hb, h.d, h.b.trans (hb.mono h.b.size)⟩
theorem SdW.pushL (h : SdW w vl vr L R W) (ha : Asd W' w.heap.size v' (L ++ [p])) (hg : W.grownBy W' vl.ownBlock) (hn : v'.ownBlock = vl.ownBlock ∨ v'.ownBlock = some W.heap.size) : SdW w v' vr (L ++ [p]) R W' := by
  refine ⟨ha, h.r.grown hg fun k hk e => h.d k e hk, fun k hk e => ?_, h.b.grown hg h.b.size (fun k hk => (h.l.lt k hk).1)⟩
  rcases hn with hn | hn
  · exact h.d k (hn ▸ hk) e
  · rw [hn] at hk
    cases hk
    exact absurd (h.r.lt _ e).2 (Nat.lt_irrefl _)
theorem SdW.pushR (h : SdW w vl vr L R W) (ha : Asd W' w.heap.size v' (R ++ [p])) (hg : W.grownBy W' vr.ownBlock) (hn : v'.ownBlock = vr.ownBlock ∨ v'.ownBlock = some W.heap.size) : SdW w vl v' L (R ++ [p]) W' := by
  refine ⟨h.l.grown hg fun k hk e => h.d k hk e, ha, fun k hk e => ?_, h.b.grown hg h.b.size (fun k hk => (h.r.lt k hk).1)⟩
  rcases hn with hn | hn
  · exact h.d k hk (hn ▸ e)
  · rw [hn] at e
    cases e
    exact absurd (h.l.lt _ hk).2 (Nat.lt_irrefl _)
end
set_option maxRecDepth 100000 in
set_option maxHeartbeats 4000000 in
theorem sidesR_any (h m f : Nat) (w : World) (hh : h ≤ 32) (h0 : 1 ≤ m) (hf : f + m ≤ 4294967296) :
    Calls Tryd.prog 44 #[.int .i64 (h : Int), .int .u64 (f : Int), .int .i64 (m : Int)] w fun r w' => ∃ A1 c1 A2 c2, r = .returned (.tuple #[.slice A1 (sidL f h).length c1, .slice A2 (sidR (f + m - 1) h).length c2]) ∧ SdW w (.slice A1 (sidL f h).length c1) (.slice A2 (sidR (f + m - 1) h).length c2) (sidL f h) (sidR (f + m - 1) h) w' := by
  have HH := hid hh
  obtain ⟨z, hz⟩ : ∃ z, z = f + m - 1 := ⟨_, rfl⟩
  obtain ⟨fm, hfm⟩ : ∃ z, z = f + m := ⟨_, rfl⟩
  have a1 : IntKind.u64.wrap (m : Int) = (m : Int) := by simp [IntKind.wrap, IntKind.signed, IntKind.bits]; omega
  have a2 : IntKind.u64.wrap ((f : Int) + (m : Int)) = (fm : Int) := by simp [IntKind.wrap, IntKind.signed, IntKind.bits]; omega
  have a3 : IntKind.u64.wrap ((fm : Int) - 1) = (z : Int) := by simp [IntKind.wrap, IntKind.signed, IntKind.bits]; omega
  rw [← hz]
  have HF := hid (show f ≤ 4294967296 by omega)
  have HZ := hid (show z ≤ 4294967296 by omega)
  clear hh h0 hf hz hfm
  go_enter Tryd.func44, Tryd.ntmps44
  go_wp2
  clear a1 a2 a3
  go_loopw [8, 9, 11] (fun v8 v9 v11 wr => ∃ (k : Nat) (A1 : Option Addr) (c1 : Nat) (A2 : Option Addr) (c2 : Nat), k ≤ h ∧ v11 = .int .i64 (k : Int) ∧ v8 = .slice A1 (sidL f k).length c1 ∧ v9 = .slice A2 (sidR z k).length c2 ∧ Hid (SdW w (.slice A1 (sidL f k).length c1) (.slice A2 (sidR z k).length c2) (sidL f k) (sidR z k) wr)) (fun _ _ v11 _ => h - (intOf v11).toNat)
  case atStart => exact ⟨0, none, 0, none, 0, by omega, rfl, by rw [sidL_zero]; rfl, by rw [sidR_zero]; rfl, hid (by rw [sidL_zero, sidR_zero]; exact SdW.start w)⟩
  case round =>
    obtain ⟨k, A1, c1, A2, c2, hk, rfl, rfl, rfl, HW⟩ := hrel
    by_cases hlt : k < h
    · have e1 : decide ((k : Int) < (h : Int)) = true := by simp; omega
      have e1' : decide (k < h) = true := by simp; omega
      have uk : IntKind.u64.wrap (k : Int) = (k : Int) := by have := HH.out; simp [IntKind.wrap, IntKind.signed, IntKind.bits]; omega
      obtain ⟨k1, hk1⟩ : ∃ m, m = k + 1 := ⟨_, rfl⟩
      have e2 : (k : Int) + 1 = (k1 : Int) := by omega
      have ew : IntKind.i64.wrap (k1 : Int) = (k1 : Int) := by rw [IntKind.wrap_i64] <;> have := HH.out <;> omega
      have hs1 := shr_u64 23 f k .u64 (by have := HH.out; omega)
      have hs2 := shr_u64 23 z k .u64 (by have := HH.out; omega)
      have hL := sidL_next f k
      have hR := sidR_next z k
      rw [← hk1] at hL hR
      have HLL := hid (show (sidL f k).length ≤ 1000 by have := sidL_length f k; have := HH.out; omega)
      have HLR := hid (show (sidR z k).length ≤ 1000 by have := sidR_length z k; have := HH.out; omega)
      have ha : f >>> k ≤ 4294967296 := by
        have h1 : f >>> k ≤ f := by rw [Nat.shiftRight_eq_div_pow]; exact Nat.div_le_self _ _
        have := HF.out
        omega
      have hb : z >>> k ≤ 4294967296 := by
        have h1 : z >>> k ≤ z := by rw [Nat.shiftRight_eq_div_pow]; exact Nat.div_le_self _ _
        have := HZ.out
        omega
      generalize f >>> k = a at hs1 hL ha
      generalize z >>> k = b at hs2 hR hb
      generalize sidL f k = L at hL HW HLL
      generalize sidR z k = R at hR HW HLR
      have HM := hid (show k1 ≤ h ∧ h - k1 < h - k by omega)
      have m1 : ((a : Int)).tmod 2 = ((a % 2 : Nat) : Int) := by rw [Int.tmod_eq_emod_of_nonneg (by omega)]; omega
      have m2 : ((b : Int)).tmod 2 = ((b % 2 : Nat) : Int) := by rw [Int.tmod_eq_emod_of_nonneg (by omega)]; omega
      obtain ⟨x, hx⟩ : ∃ x, x = a % 2 := ⟨_, rfl⟩
      obtain ⟨y, hy⟩ : ∃ x, x = b % 2 := ⟨_, rfl⟩
      rw [← hx] at m1 hL
      rw [← hy] at m2 hR
      obtain ⟨am, ham⟩ : ∃ x, x = a - 1 := ⟨_, rfl⟩
      obtain ⟨bp, hbp⟩ : ∃ x, x = b + 1 := ⟨_, rfl⟩
      rw [← ham] at hL
      rw [← hbp] at hR
      have wb : IntKind.u64.wrap ((b : Int) + 1) = (bp : Int) := by simp [IntKind.wrap, IntKind.signed, IntKind.bits]; omega
      by_cases hc : x = 0
      · have f0 : decide ((x : Int) = 0) = true := by simp; omega
        have f0b : ((x : Int) == 0) = true := by simp; omega
        have f0n : decide (x = 0) = true := by simp; omega
        rw [if_pos hc, List.append_nil] at hL
        by_cases hd : y = 1
        · have g0 : decide ((y : Int) = 1) = true := by simp; omega
          have g0b : ((y : Int) == 1) = true := by simp; omega
          have g0n : decide (y = 1) = true := by simp; omega
          rw [if_pos hd, List.append_nil] at hR
          have HL := hid hL
          have HR := hid hR
          clear hL hR ha hb hx hy ham hbp hc hd hlt hk hk1
          go_wp2
          exact ⟨⟨k1, A1, c1, A2, c2, HM.out.1, rfl, by rw [HL.out], by rw [HR.out], hid (by rw [HL.out, HR.out]; exact HW.out)⟩, by
            show h - ((k1 : Int)).toNat < h - ((k : Int)).toNat
            rw [Int.toNat_natCast, Int.toNat_natCast]
            exact HM.out.2⟩
        · have g0 : decide ((y : Int) = 1) = false := by simp; omega
          have g0b : ((y : Int) == 1) = false := by simp; omega
          have g0n : decide (y = 1) = false := by simp; omega
          rw [if_neg hd] at hR
          have HL := hid hL
          have HR := hid hR
          clear hL hR ha hb hx hy ham hbp hc hd hlt hk hk1
          go_wp2_with (first
            | (refine wpList_valW (by rfl) (run_buildSd (.tmp 49) rfl (k, bp) rfl) ?_)
            | (refine wpList_append_sd (by rfl) (.tmp 45) (.tmp 50) rfl w.heap.size (.slice A2 R.length c2) R rfl (HW.out.r.kept ((Below.refl _ _).alloc (Nat.le_refl _) _)) wr.heap.size (k, bp) rfl (At.new _ _ _) (R.length + 1) rfl HLR.out (by have := HW.out.b.size; simp; omega) ?_; intro A4 c4 w4 h1 h2 h3; have HW4 := hid ((HW.out.new ((Below.refl _ _).alloc (Nat.le_refl _) _)).pushR h1 h2 h3); clear h1 h2 h3))
          exact ⟨⟨k1, A1, c1, A4, c4, HM.out.1, rfl, by rw [HL.out], by rw [HR.out, List.length_append]; rfl, hid (by rw [HL.out, HR.out, List.length_append]; exact HW4.out)⟩, by
            show h - ((k1 : Int)).toNat < h - ((k : Int)).toNat
            rw [Int.toNat_natCast, Int.toNat_natCast]
            exact HM.out.2⟩
      · have f0 : decide ((x : Int) = 0) = false := by simp; omega
        have f0b : ((x : Int) == 0) = false := by simp; omega
        have f0n : decide (x = 0) = false := by simp; omega
        have wa : IntKind.u64.wrap ((a : Int) - 1) = (am : Int) := by simp [IntKind.wrap, IntKind.signed, IntKind.bits]; omega
        rw [if_neg hc] at hL
        by_cases hd : y = 1
        · have g0 : decide ((y : Int) = 1) = true := by simp; omega
          have g0b : ((y : Int) == 1) = true := by simp; omega
          have g0n : decide (y = 1) = true := by simp; omega
          rw [if_pos hd, List.append_nil] at hR
          have HL := hid hL
          have HR := hid hR
          clear hL hR ha hb hx hy ham hbp hc hd hlt hk hk1
          go_wp2_with (first
            | (refine wpList_valW (by rfl) (run_buildSd (.tmp 39) rfl (k, am) rfl) ?_)
            | (refine wpList_append_sd (by rfl) (.tmp 35) (.tmp 40) rfl w.heap.size (.slice A1 L.length c1) L rfl (HW.out.l.kept ((Below.refl _ _).alloc (Nat.le_refl _) _)) wr.heap.size (k, am) rfl (At.new _ _ _) (L.length + 1) rfl HLL.out (by have := HW.out.b.size; simp; omega) ?_; intro A3 c3 w3 h1 h2 h3; have HW3 := hid ((HW.out.new ((Below.refl _ _).alloc (Nat.le_refl _) _)).pushL h1 h2 h3); clear h1 h2 h3))
          exact ⟨⟨k1, A3, c3, A2, c2, HM.out.1, rfl, by rw [HL.out, List.length_append]; rfl, by rw [HR.out], hid (by rw [HL.out, HR.out, List.length_append]; exact HW3.out)⟩, by
            show h - ((k1 : Int)).toNat < h - ((k : Int)).toNat
            rw [Int.toNat_natCast, Int.toNat_natCast]
            exact HM.out.2⟩
        · have g0 : decide ((y : Int) = 1) = false := by simp; omega
          have g0b : ((y : Int) == 1) = false := by simp; omega
          have g0n : decide (y = 1) = false := by simp; omega
          rw [if_neg hd] at hR
          have HL := hid hL
          have HR := hid hR
          clear hL hR ha hb hx hy ham hbp hc hd hlt hk hk1
          go_wp2_with (first
            | (refine wpList_valW (by rfl) (run_buildSd (.tmp 39) rfl (k, am) rfl) ?_)
            | (refine wpList_append_sd (by rfl) (.tmp 35) (.tmp 40) rfl w.heap.size (.slice A1 L.length c1) L rfl (HW.out.l.kept ((Below.refl _ _).alloc (Nat.le_refl _) _)) wr.heap.size (k, am) rfl (At.new _ _ _) (L.length + 1) rfl HLL.out (by have := HW.out.b.size; simp; omega) ?_; intro A3 c3 w3 h1 h2 h3; have HW3 := hid ((HW.out.new ((Below.refl _ _).alloc (Nat.le_refl _) _)).pushL h1 h2 h3); clear h1 h2 h3)
            | (refine wpList_valW (by rfl) (run_buildSd (.tmp 49) rfl (k, bp) rfl) ?_)
            | (refine wpList_append_sd (by rfl) (.tmp 45) (.tmp 50) rfl w.heap.size (.slice A2 R.length c2) R rfl (HW3.out.r.kept ((Below.refl _ _).alloc (Nat.le_refl _) _)) w3.heap.size (k, bp) rfl (At.new _ _ _) (R.length + 1) rfl HLR.out (by have := HW3.out.b.size; simp; omega) ?_; intro A4 c4 w4 h1 h2 h3; have HW4 := hid ((HW3.out.new ((Below.refl _ _).alloc (Nat.le_refl _) _)).pushR h1 h2 h3); clear h1 h2 h3))
          exact ⟨⟨k1, A3, c3, A4, c4, HM.out.1, rfl, by rw [HL.out, List.length_append]; rfl, by rw [HR.out, List.length_append]; rfl, hid (by rw [HL.out, HR.out, List.length_append, List.length_append]; exact HW4.out)⟩, by
            show h - ((k1 : Int)).toNat < h - ((k : Int)).toNat
            rw [Int.toNat_natCast, Int.toNat_natCast]
            exact HM.out.2⟩
    · obtain rfl : k = h := by omega
      have e1 : decide ((k : Int) < (k : Int)) = false := by simp
      clear hk hlt
      go_wp2
      go_ret2
      exact ⟨A1, c1, A2, c2, rfl, HW.out⟩
end Go.Proofs.YtlmecjnlinalkaaDoor
