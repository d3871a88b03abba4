/-
  Layer 12, ahead of what has landed: trees that were written to, cut, grown: their nodes.
  Layer 12, ahead of what has landed: what a leaf and a path climb to; a path that is cut; a root that grows.
  Layer 12, the document's side: Fits, Climb.
-/
import Derived.Test.YtdegmcfcbndelaaDoorL2
import Derived.Test.YtdegmcfcbndelaaDoorJ1
import Derived.Test.YtdegmcfcbndelaaDoorJ4
import Derived.Test.YtdegmcfcbndelaaDoorN1
import Derived.Test.YtdegmcfcbndelaaDoorY1
namespace Go.Proofs.YtdegmcfcbndelaaDoor
open Go.RowKit

/-- A node hangs on the leaves below it alone. -/
theorem nodeS_ext {L M : List (Nat × List UInt8)} : ∀ (n p : Nat), (p + 1) * 2 ^ n ≤ 9223372036854775808 → (∀ i, i >>> n = p → getH L i = getH M i) → nodeS n p L = nodeS n p M
  | 0, p, _, h => by rw [nodeS_leaf, nodeS_leaf, h p (Nat.shiftRight_zero)]
  | n + 1, p, hp, h => by
    have h1 : 1 ≤ 2 ^ n := Nat.one_le_two_pow
    have e1 : (2 * p + 1 + 1) * 2 ^ n = (p + 1) * 2 ^ (n + 1) := by rw [show 2 * p + 1 + 1 = (p + 1) * 2 by omega, Nat.mul_assoc, Nat.pow_succ']
    have e2 : (2 * p + 1) * 2 ^ n ≤ (2 * p + 1 + 1) * 2 ^ n := Nat.mul_le_mul_right _ (by omega)
    have e3 : 2 * p + 1 + 1 ≤ (2 * p + 1 + 1) * 2 ^ n := Nat.le_mul_of_pos_right _ h1
    rw [nodeS_step n p (by omega), nodeS_step n p (by omega)]
    rw [nodeS_ext n (2 * p) (by omega) (fun i hi => h i (by rw [shr_half, hi]; omega)), nodeS_ext n (2 * p + 1) (by omega) (fun i hi => h i (by rw [shr_half, hi]; omega))]
theorem nodeS_none {L : List (Nat × List UInt8)} (n p : Nat) (hp : (p + 1) * 2 ^ n ≤ 9223372036854775808) (h : ∀ i, i >>> n = p → getH L i = none) : nodeS n p L = emptyL n := by
  rw [← nodeS_nil n p]
  exact nodeS_ext n p hp fun i hi => by rw [h i hi, getH_nil]
theorem getH_cut (b : Nat) (L : List (Nat × List UInt8)) (i : Nat) : getH (cutS b L) i = if i < b then getH L i else none := by
  unfold cutS
  split
  · rename_i g
    exact getH_filter (f := fun x => decide (x < b)) (decide_eq_true g)
  · rename_i g
    refine getH_none fun p hp e => ?_
    have := (List.mem_filter.1 hp).2
    simp at this
    omega
theorem sib_even {j i : Nat} (h : (i >>> j) % 2 = 0) : sibN j i = i >>> j + 1 := by unfold sibN; rw [if_pos h]
theorem sib_odd {j i : Nat} (h : ¬ (i >>> j) % 2 = 0) : sibN j i = i >>> j - 1 := by unfold sibN; rw [if_neg h]
/-- What is beside the way to the last leaf that remains: the left ones stay, the right ones are empty. -/
theorem sib_cut (L : List (Nat × List UInt8)) {j i : Nat} (hi : i < 4294967296) (hj : j ≤ 32) : nodeS j (sibN j i) (cutS (i + 1) L) = if (i >>> j) % 2 = 0 then emptyL j else nodeS j (sibN j i) L := by
  have hd : i >>> j = i / 2 ^ j := Nat.shiftRight_eq_div_pow _ _
  have hp : 0 < 2 ^ j := Nat.two_pow_pos j
  have hp32 : 2 ^ j ≤ 2 ^ 32 := Nat.pow_le_pow_right (by omega) hj
  have hle : i >>> j * 2 ^ j ≤ i := by rw [hd]; exact Nat.div_mul_le_self _ _
  have hlt : i < (i >>> j + 1) * 2 ^ j := by rw [hd]; exact Nat.lt_mul_of_div_lt (Nat.lt_succ_self _) hp
  have room : ∀ x, x ≤ i >>> j + 1 → (x + 1) * 2 ^ j ≤ 9223372036854775808 := fun x hx => by
    have h1 : (x + 1) * 2 ^ j ≤ (i >>> j + 1 + 1) * 2 ^ j := Nat.mul_le_mul_right _ (by omega)
    have h2 : (i >>> j + 1 + 1) * 2 ^ j = i >>> j * 2 ^ j + 2 ^ j + 2 ^ j := by rw [Nat.add_mul, Nat.add_mul, Nat.one_mul]
    omega
  split
  · rename_i g
    rw [sib_even g]
    refine nodeS_none _ _ (room _ (Nat.le_refl _)) fun x hx => ?_
    have hx2 : (i >>> j + 1) * 2 ^ j ≤ x := by
      rw [← hx, Nat.shiftRight_eq_div_pow x j]
      exact Nat.div_mul_le_self _ _
    rw [getH_cut, if_neg (by omega)]
  · rename_i g
    rw [sib_odd g]
    have h1 : 1 ≤ i >>> j := by
      rcases Nat.eq_zero_or_pos (i >>> j) with e | e
      · rw [e] at g; simp at g
      · exact e
    refine nodeS_ext _ _ (room _ (Nat.le_succ_of_le (Nat.sub_le _ _))) fun x hx => ?_
    have hx2 : x < (i >>> j - 1 + 1) * 2 ^ j := by
      rw [← hx, Nat.shiftRight_eq_div_pow x j]
      exact Nat.lt_mul_of_div_lt (Nat.lt_succ_self _) hp
    have hx3 : (i >>> j - 1 + 1) * 2 ^ j ≤ i >>> j * 2 ^ j := Nat.mul_le_mul_right _ (Nat.le_of_eq (Nat.sub_add_cancel h1))
    rw [getH_cut, if_pos (by omega)]
/-- The leaf itself stays. -/
theorem leaf_cut (L : List (Nat × List UInt8)) (i : Nat) : nodeS 0 i (cutS (i + 1) L) = nodeS 0 i L := by
  rw [nodeS_leaf, nodeS_leaf, getH_cut, if_pos (Nat.lt_succ_self i)]
/-- A tree grown by one level. -/
theorem root_grow {L : List (Nat × List UInt8)} {n : Nat} (hn : n ≤ 32) (h : ∀ p ∈ L, p.1 < 2 ^ n) : nodeS (n + 1) 0 L = hashL (joinT (n + 1) (nodeS n 0 L) (emptyL n)) := by
  have hp32 : 2 ^ n ≤ 2 ^ 32 := Nat.pow_le_pow_right (by omega) hn
  rw [nodeS_step n 0 (by omega)]
  congr 2
  refine nodeS_none n 1 (by omega) fun i hi => getH_none fun p hp e => ?_
  have h1 := h p hp
  rw [Nat.shiftRight_eq_div_pow] at hi
  have h2 : i / 2 ^ n = 0 := Nat.div_eq_of_lt (by omega)
  omega
/-- What is beside a proof's leaves stays as it is when they are written. -/
theorem beside_write {L M : List (Nat × List UInt8)} {l : List Nat} {h : Nat} (hh : h ≤ 32) (he : ∀ i, i ∉ l → getH L i = getH M i) : besideS L (spotsS l h 0) = besideS M (spotsS l h 0) := by
  have hpw : (2 : Nat) ^ h ≤ 2 ^ 32 := Nat.pow_le_pow_right (by omega) hh
  unfold besideS
  rw [List.flatMap_def, List.flatMap_def]
  congr 1
  refine List.map_congr_left fun q hq => ?_
  have hb := spotsS_below l h 0 q hq
  obtain ⟨hk, hu⟩ := spotsS_under l h 0 (by omega) q hq
  refine nodeS_ext _ _ ?_ fun i hi => he i fun hm => ?_
  · rw [Nat.shiftRight_eq_div_pow] at hu
    have h1 : q.2 < 2 ^ (h - q.1) := by
      rcases Nat.lt_or_ge q.2 (2 ^ (h - q.1)) with g | g
      · exact g
      · have := Nat.div_pos g (Nat.two_pow_pos (h - q.1))
        omega
    have h2 : (q.2 + 1) * 2 ^ q.1 ≤ 2 ^ (h - q.1) * 2 ^ q.1 := Nat.mul_le_mul_right _ h1
    rw [← Nat.pow_add, show h - q.1 + q.1 = h by omega] at h2
    omega
  · have : belowB l q.1 q.2 = true := List.any_eq_true.2 ⟨i, hm, by simpa using hi⟩
    rw [this] at hb
    cases hb
/-- The root behind a writing step of a tree. -/
theorem root_write {L M : List (Nat × List UInt8)} (ho : okL M) {l : List Nat} {h : Nat} (hg : rgtB (h : Int) l = true) (he : ∀ i, i ∉ l → getH L i = getH M i) : rootS (h : Int) l l.length (spotsS l h 0).length (leavesS M l) (besideS L (spotsS l h 0)) = nodeS h 0 M := by
  rw [beside_write (rgtB_parts hg).1 he]
  exact root_tree ho hg
end Go.Proofs.YtdegmcfcbndelaaDoor

namespace Go.Proofs.YtdegmcfcbndelaaDoor
open Go.RowKit

/-- What a leaf and the first hashes of a path come to. -/
def climbH (leaf path : List UInt8) (i : Nat) : Nat → List UInt8
  | 0 => leaf
  | k + 1 => if (i >>> k) % 2 = 0 then hashL (joinT (k + 1) (climbH leaf path i k) (hpart path k)) else hashL (joinT (k + 1) (hpart path k) (climbH leaf path i k))
theorem climbH_zero (leaf path : List UInt8) (i : Nat) : climbH leaf path i 0 = leaf := rfl
theorem climbH_even {leaf path : List UInt8} {i k : Nat} (h : (i >>> k) % 2 = 0) : climbH leaf path i (k + 1) = hashL (joinT (k + 1) (climbH leaf path i k) (hpart path k)) := by
  show (if _ then _ else _) = _
  rw [if_pos h]
theorem climbH_odd {leaf path : List UInt8} {i k : Nat} (h : ¬ (i >>> k) % 2 = 0) : climbH leaf path i (k + 1) = hashL (joinT (k + 1) (hpart path k) (climbH leaf path i k)) := by
  show (if _ then _ else _) = _
  rw [if_neg h]
theorem climbH_length {leaf path : List UInt8} {i : Nat} (h : leaf.length = 32) : ∀ k, (climbH leaf path i k).length = 32
  | 0 => h
  | k + 1 => by
    by_cases e : (i >>> k) % 2 = 0
    · rw [climbH_even e]; exact hashL_length _
    · rw [climbH_odd e]; exact hashL_length _
/-- With what is beside the way in a tree it comes to the tree's nodes. -/
theorem climbH_tree {L : List (Nat × List UInt8)} {path : List UInt8} {i : Nat} (hi : i < 9223372036854775808) : ∀ k, (∀ j, j < k → hpart path j = nodeS j (sibN j i) L) → climbH (nodeS 0 i L) path i k = nodeS k (i >>> k) L
  | 0, _ => by rw [climbH_zero, Nat.shiftRight_zero]
  | k + 1, h => by
    have ih := climbH_tree hi k fun j hj => h j (by omega)
    rw [climb_step k i hi]
    by_cases e : (i >>> k) % 2 = 0
    · rw [climbH_even e, ih, h k (by omega), if_neg (by omega)]
    · rw [climbH_odd e, ih, h k (by omega), if_pos (by omega)]
theorem pathS_none12 (L : List (Nat × List UInt8)) (i : Nat) : pathS L i 0 = [] := by with_unfolding_all rfl
theorem pathS_len12 {L : List (Nat × List UInt8)} (ho : okL L) (i : Nat) : ∀ k, (pathS L i k).length = 32 * k
  | 0 => by rw [pathS_none12]; rfl
  | k + 1 => by
    rw [pathS_succ, List.length_append, pathS_len12 ho i k, nodeS_length _ _ _ ho]
    omega
theorem pathS_part {L : List (Nat × List UInt8)} (ho : okL L) (i : Nat) : ∀ h j, j < h → hpart (pathS L i h) j = nodeS j (sibN j i) L
  | 0, j, hj => by omega
  | h + 1, j, hj => by
    have hl := pathS_len12 ho i h
    rw [pathS_succ, hpart]
    by_cases e : j = h
    · subst e
      rw [List.drop_left' hl, List.take_of_length_le (by rw [nodeS_length _ _ _ ho]; exact Nat.le_refl _)]
    · rw [List.drop_append_of_le_length (by omega), List.take_append_of_le_length (by rw [List.length_drop]; omega)]
      exact pathS_part ho i h j (by omega)
/-- A tree's leaf and path come to its root. -/
theorem climb_root {L : List (Nat × List UInt8)} (ho : okL L) {i h : Nat} (hh : h ≤ 32) (hi : i < 2 ^ h) : climbH (nodeS 0 i L) (pathS L i h) i h = nodeS h 0 L := by
  have hp32 : 2 ^ h ≤ 2 ^ 32 := Nat.pow_le_pow_right (by omega) hh
  rw [climbH_tree (by omega) h (fun j hj => pathS_part ho i h j hj), Nat.shiftRight_eq_div_pow, Nat.div_eq_of_lt hi]
/-- A path whose right hashes are empty ones, up to a height. -/
def cutP (path : List UInt8) (i n : Nat) : List UInt8 := (List.range n).flatMap fun j => if (i >>> j) % 2 = 0 then emptyL j else hpart path j
theorem cutP_zero (path : List UInt8) (i : Nat) : cutP path i 0 = [] := rfl
theorem cutP_next (path : List UInt8) (i n : Nat) : cutP path i (n + 1) = cutP path i n ++ (if (i >>> n) % 2 = 0 then emptyL n else hpart path n) := by
  unfold cutP
  rw [List.range_succ, List.flatMap_append]
  simp
theorem cutP_length {path : List UInt8} {h : Nat} (hl : path.length = 32 * h) (i : Nat) : ∀ n, n ≤ h → (cutP path i n).length = 32 * n
  | 0, _ => rfl
  | n + 1, hn => by
    rw [cutP_next, List.length_append, cutP_length hl i n (by omega)]
    split
    · rw [emptyL_length]; omega
    · rw [hpart_length hl (by omega)]; omega
theorem cutP_part {path : List UInt8} {h : Nat} (hl : path.length = 32 * h) (i : Nat) : ∀ n j, n ≤ h → j < n → hpart (cutP path i n) j = if (i >>> j) % 2 = 0 then emptyL j else hpart path j
  | 0, j, _, hj => by omega
  | n + 1, j, hn, hj => by
    have hc := cutP_length hl i n (by omega)
    have hx : (if (i >>> n) % 2 = 0 then emptyL n else hpart path n).length = 32 := by
      split
      · exact emptyL_length n
      · exact hpart_length hl (by omega)
    rw [cutP_next, hpart]
    by_cases e : j = n
    · subst e
      rw [List.drop_left' hc, List.take_of_length_le (by rw [hx]; exact Nat.le_refl _)]
    · rw [List.drop_append_of_le_length (by omega), List.take_append_of_le_length (by rw [List.length_drop]; omega)]
      exact cutP_part hl i n j (by omega) (by omega)
/-- A cutting step of a tree leads to the root of the tree that was cut. -/
theorem climb_cut {L : List (Nat × List UInt8)} (ho : okL L) {i h n : Nat} (hn : n ≤ h) (hh : h ≤ 32) (hi : i < 2 ^ n) : climbH (nodeS 0 i L) (cutP (pathS L i h) i n) i n = nodeS n 0 (cutS (i + 1) L) := by
  have hp32 : 2 ^ n ≤ 2 ^ 32 := Nat.pow_le_pow_right (by omega) (by omega)
  have h1 := climbH_tree (L := cutS (i + 1) L) (path := cutP (pathS L i h) i n) (i := i) (by omega) n (fun j hj => by
    rw [cutP_part (pathS_len12 ho i h) i n j hn hj, sib_cut L (by omega) (by omega)]
    split
    · rfl
    · exact pathS_part ho i h j (by omega))
  rw [leaf_cut, Nat.shiftRight_eq_div_pow, Nat.div_eq_of_lt hi] at h1
  exact h1
/-- A root with some levels more. -/
def growH (root : List UInt8) (low : Nat) : Nat → List UInt8
  | 0 => root
  | k + 1 => hashL (joinT (low + k + 1) (growH root low k) (emptyL (low + k)))
theorem growH_next (root : List UInt8) (low k : Nat) : growH root low (k + 1) = hashL (joinT (low + k + 1) (growH root low k) (emptyL (low + k))) := rfl
theorem growH_length {root : List UInt8} (h : root.length = 32) (low : Nat) : ∀ k, (growH root low k).length = 32
  | 0 => h
  | k + 1 => by rw [growH_next]; exact hashL_length _
/-- A growing step of a tree leads to the root of the tree that has grown. -/
theorem grow_root {L : List (Nat × List UInt8)} {low : Nat} (h : ∀ p ∈ L, p.1 < 2 ^ low) : ∀ k, low + k ≤ 33 → growH (nodeS low 0 L) low k = nodeS (low + k) 0 L
  | 0, _ => rfl
  | k + 1, hk => by
    rw [growH_next, grow_root h k (by omega)]
    exact (root_grow (n := low + k) (by omega) fun p hp => Nat.lt_of_lt_of_le (h p hp) (Nat.pow_le_pow_right (by omega) (by omega))).symm
/-- More blocks, no less height. -/
theorem high_le {a b : Nat} (hab : a ≤ b) (hb : b ≤ 4294967296) : highN a ≤ highN b := by
  obtain ⟨h1, -, -⟩ := highN_spec (b := b) hb
  obtain ⟨-, -, h3⟩ := highN_spec (b := a) (by omega)
  refine Nat.le_of_not_lt fun g => ?_
  have := h3 _ g
  omega
end Go.Proofs.YtdegmcfcbndelaaDoor

namespace Go.Proofs.YtdegmcfcbndelaaDoor
open Go.RowKit

/-- A climb's memory. -/
structure CbW (W : World) (x : List UInt8) (V : World) : Prop where
  b : Below W.heap.size W V
  h : At V W.heap.size (ubs x).toArray 25
  r : At V (W.heap.size + 1) (ubs n32).toArray 25
theorem CbW.new {W V V' : World} {x : List UInt8} (k : CbW W x V) (hb : Below V.heap.size V V') : CbW W x V' := ⟨k.b.trans (hb.mono k.b.size), k.h.new_ hb, k.r.new_ hb⟩
theorem CbW.drew {W V : World} {x : List UInt8} (k : CbW W x V) : CbW W x V.drew := k.new (Below.refl _ _).drew
theorem CbW.start {W : World} {x : List UInt8} : CbW W x ((W.alloc (.cells (ubs x).toArray 25)).alloc (.cells (ubs n32).toArray 25)) :=
  ⟨((Below.refl _ _).alloc (Nat.le_refl _) _).alloc (by simp) _, (At.new _ _ _).alloc _, At.new_at (by simp)⟩
theorem CbW.put {W V : World} {x y : List UInt8} (k : CbW W x V) : CbW W y (V.setRow W.heap.size (ubs y).toArray) :=
  ⟨below_setRow k.b (Nat.le_refl _) _, setRow_heap _ _ (ubs x).toArray _ _ _ k.h, (setRow_other V _ _ _ (by omega)).trans k.r⟩
end Go.Proofs.YtdegmcfcbndelaaDoor
