/-
  Layer 12, ahead of what has landed: trees that were written to, cut, grown: their nodes.
  Layer 12, ahead of what has landed: what a leaf and a path climb to; a path that is cut; a root that grows.
  Layer 12, the document's side: Fits, Climb.
-/
import Derived.Test.YtdegmcfcbndelaaDoorL2
import Derived.Test.YtdegmcfcbndelaaDoorJ1
import Derived.Test.YtdegmcfcbndelaaDoorJ4
import Derived.Test.YtdegmcfcbndelaaDoorN1
import Derived.Test.YtdegmcfcbndelaaDoorY1
namespace Go.Proofs.YtdegmcfcbndelaaDoor
open Go.RowKit

/-- A node hangs on the leaves below it alone. -/
theorem nodeS_ext {L M : List (Nat × List UInt8)} : ∀ (n p : Nat), (p + 1) * 2 ^ n ≤ 9223372036854775808 → (∀ i, i >>> n = p → getH L i = getH M i) → nodeS n p L = nodeS n p M
  | 0, p, _, h => by rw [nodeS_leaf, nodeS_leaf, h p (Nat.shiftRight_zero)]
  | n + 1, p, hp, h => by
    have h1 : 1 ≤ 2 ^ n := Nat.one_le_two_pow
    have e1 : (2 * p + 1 + 1) * 2 ^ n = (p + 1) * 2 ^ (n + 1) := by rw [show 2 * p + 1 + 1 = (p + 1) * 2 by omega, Nat.mul_assoc, Nat.pow_succ']
    have e2 : (2 * p + 1) * 2 ^ n ≤ (2 * p + 1 + 1) * 2 ^ n := Nat.mul_le_mul_right _ (by omega)
    have e3 : 2 * p + 1 + 1 ≤ (2 * p + 1 + 1) * 2 ^ n := Nat.le_mul_of_pos_right _ h1
    rw [nodeS_step n p (by omega), nodeS_step n p (by omega)]
    rw [nodeS_ext n (2 * p) (by omega) (fun i hi => h i (by rw [shr_half, hi]; omega)), nodeS_ext n (2 * p + 1) (by omega) (fun i hi => h i (by rw [shr_half, hi]; omega))]
theorem nodeS_none {L : List (Nat × List UInt8)} (n p : Nat) (hp : (p + 1) * 2 ^ n ≤ 9223372036854775808) (h : ∀ i, i >>> n = p → getH L i = none) : nodeS n p L = emptyL n := by
  rw [← nodeS_nil n p]
  exact nodeS_ext n p hp fun i hi => by rw [h i hi, getH_nil]
theorem getH_cut (b : Nat) (L : List (Nat × List UInt8)) (i : Nat) : getH (cutS b L) i = if i < b then getH L i else none := by
  unfold cutS
  split
  · rename_i g
    exact getH_filter (f := fun x => decide (x < b)) (decide_eq_true g)
  · rename_i g
    refine getH_none fun p hp e => ?_
    have := (List.mem_filter.1 hp).2
    simp at this
    omega
theorem sib_even {j i : Nat} (h : (i >>> j) % 2 = 0) : sibN j i = i >>> j + 1 := by unfold sibN; rw [if_pos h]
theorem sib_odd {j i : Nat} (h : ¬ (i >>> j) % 2 = 0) : sibN j i = i >>> j - 1 := by unfold sibN; rw [if_neg h]
/-- What is beside the way to the last leaf that remains: the left ones stay, the right ones are empty. -/
theorem sib_cut (L : List (Nat × List UInt8)) {j i : Nat} (hi : i < 4294967296) (hj : j ≤ 32) : nodeS j (sibN j i) (cutS (i + 1) L) = if (i >>> j) % 2 = 0 then emptyL j else nodeS j (sibN j i) L := by
  have hd : i >>> j = i / 2 ^ j := Nat.shiftRight_eq_div_pow _ _
  have hp : 0 < 2 ^ j := Nat.two_pow_pos j
  have hp32 : 2 ^ j ≤ 2 ^ 32 := Nat.pow_le_pow_right (by omega) hj
  have hle : i >>> j * 2 ^ j ≤ i := by rw [hd]; exact Nat.div_mul_le_self _ _
  have hlt : i < (i >>> j + 1) * 2 ^ j := by rw [hd]; exact Nat.lt_mul_of_div_lt (Nat.lt_succ_self _) hp
  have room : ∀ x, x ≤ i >>> j + 1 → (x + 1) * 2 ^ j ≤ 9223372036854775808 := fun x hx => by
    have h1 : (x + 1) * 2 ^ j ≤ (i >>> j + 1 + 1) * 2 ^ j := Nat.mul_le_mul_right _ (by omega)
    have h2 : (i >>> j + 1 + 1) * 2 ^ j = i >>> j * 2 ^ j + 2 ^ j + 2 ^ j := by rw [Nat.add_mul, Nat.add_mul, Nat.one_mul]
    omega
  split
  · rename_i g
    rw [sib_even g]
    refine nodeS_none _ _ (room _ (Nat.le_refl _)) fun x hx => ?_
    have hx2 : (i >>> j + 1) * 2 ^ j ≤ x := by
      rw [← hx, Nat.shiftRight_eq_div_pow x j]
      exact Nat.div_mul_le_self _ _
    rw [getH_cut, if_neg (by omega)]
  · rename_i g
    rw [sib_odd g]
    have h1 : 1 ≤ i >>> j := by
      rcases Nat.eq_zero_or_pos (i >>> j) with e | e
      · rw [e] at g; simp at g
      · exact e
    refine nodeS_ext _ _ (room _ (Nat.le_succ_of_le (Nat.sub_le _ _))) fun x hx => ?_
    have hx2 : x < (i >>> j - 1 + 1) * 2 ^ j := by
      rw [← hx, Nat.shiftRight_eq_div_pow x j]
      exact Nat.lt_mul_of_div_lt (Nat.lt_succ_self _) hp
    have hx3 : (i >>> j - 1 + 1) * 2 ^ j ≤ i >>> j * 2 ^ j := Nat.mul_le_mul_right _ (Nat.le_of_eq (Nat.sub_add_cancel h1))
    rw [getH_cut, if_pos (by omega)]
/-- The leaf itself stays. -/
theorem leaf_cut (L : List (Nat × List UInt8)) (i : Nat) : nodeS 0 i (cutS (i + 1) L) = nodeS 0 i L := by
  rw [nodeS_leaf, nodeS_leaf, getH_cut, if_pos (Nat.lt_succ_self i)]
/-- A tree grown by one level. -/
theorem root_grow {L : List (Nat × List UInt8)} {n : Nat} (hn : n ≤ 32) (h : ∀ p ∈ L, p.1 < 2 ^ n) : nodeS (n + 1) 0 L = hashL (joinT (n + 1) (nodeS n 0 L) (emptyL n)) := by
  have hp32 : 2 ^ n ≤ 2 ^ 32 := Nat.pow_le_pow_right (by omega) hn
  rw [nodeS_step n 0 (by omega)]
  congr 2
  refine nodeS_none n 1 (by omega) fun i hi => getH_none fun p hp e => ?_
  have h1 := h p hp
  rw [Nat.shiftRight_eq_div_pow] at hi
  have h2 : i / 2 ^ n = 0 := Nat.div_eq_of_lt (by omega)
  omega
/-- What is beside a proof's leaves stays as it is when they are written. -/
theorem beside_write {L M : List (Nat × List UInt8)} {l : List Nat} {h : Nat} (hh : h ≤ 32) (he : ∀ i, i ∉ l → getH L i = getH M i) : besideS L (spotsS l h 0) = besideS M (spotsS l h 0) := by
  have hpw : (2 : Nat) ^ h ≤ 2 ^ 32 := Nat.pow_le_pow_right (by omega) hh
  unfold besideS
  rw [List.flatMap_def, List.flatMap_def]
  congr 1
  refine List.map_congr_left fun q hq => ?_
  have hb := spotsS_below l h 0 q hq
  obtain ⟨hk, hu⟩ := spotsS_under l h 0 (by omega) q hq
  refine nodeS_ext _ _ ?_ fun i hi => he i fun hm => ?_
  · rw [Nat.shiftRight_eq_div_pow] at hu
    have h1 : q.2 < 2 ^ (h - q.1) := by
      rcases Nat.lt_or_ge q.2 (2 ^ (h - q.1)) with g | g
      · exact g
      · have := Nat.div_pos g (Nat.two_pow_pos (h - q.1))
        omega
    have h2 : (q.2 + 1) * 2 ^ q.1 ≤ 2 ^ (h - q.1) * 2 ^ q.1 := Nat.mul_le_mul_right _ h1
    rw [← Nat.pow_add, show h - q.1 + q.1 = h by omega] at h2
    omega
  · have : belowB l q.1 q.2 = true := List.any_eq_true.2 ⟨i, hm, by simpa using hi⟩
    rw [this] at hb
    cases hb
/-- The root behind a writing step of a tree. -/
theorem root_write {L M : List (Nat × List UInt8)} (ho : okL M) {l : List Nat} {h : Nat} (hg : rgtB (h : Int) l = true) (he : ∀ i, i ∉ l → getH L i = getH M i) : rootS (h : Int) l l.length (spotsS l h 0).length (leavesS M l) (besideS L (spotsS l h 0)) = nodeS h 0 M := by
  rw [beside_write (rgtB_parts hg).1 he]
  exact root_tree ho hg
end Go.Proofs.YtdegmcfcbndelaaDoor

namespace Go.Proofs.YtdegmcfcbndelaaDoor
open Go.RowKit

/-- What a leaf and the first hashes of a path come to. -/
def climbH (leaf path : List UInt8) (i : Nat) : Nat → List UInt8
  | 0 => leaf
  | k + 1 => if (i >>> k) % 2 = 0 then hashL (joinT (k + 1) (climbH leaf path i k) (hpart path k)) else hashL (joinT (k + 1) (hpart path k) (climbH leaf path i k))
theorem climbH_zero (leaf path : List UInt8) (i : Nat) : climbH leaf path i 0 = leaf := rfl
theorem climbH_even {leaf path : List UInt8} {i k : Nat} (h : (i >>> k) % 2 = 0) : climbH leaf path i (k + 1) = hashL (joinT (k + 1) (climbH leaf path i k) (hpart path k)) := by
  show (if _ then _ else _) = _
  rw [if_pos h]
theorem climbH_odd {leaf path : List UInt8} {i k : Nat} (h : ¬ (i >>> k) % 2 = 0) : climbH leaf path i (k + 1) = hashL (joinT (k + 1) (hpart path k) (climbH leaf path i k)) := by
  show (if _ then _ else _) = _
  rw [if_neg h]
theorem climbH_length {leaf path : List UInt8} {i : Nat} (h : leaf.length = 32) : ∀ k, (climbH leaf path i k).length = 32
  | 0 => h
  | k + 1 => by
    by_cases e : (i >>> k) % 2 = 0
    · rw [climbH_even e]; exact hashL_length _
    · rw [climbH_odd e]; exact hashL_length _
/-- With what is beside the way in a tree it comes to the tree's nodes. -/
theorem climbH_tree {L : List (Nat × List UInt8)} {path : List UInt8} {i : Nat} (hi : i < 9223372036854775808) : ∀ k, (∀ j, j < k → hpart path j = nodeS j (sibN j i) L) → climbH (nodeS 0 i L) path i k = nodeS k (i >>> k) L
  | 0, _ => by rw [climbH_zero, Nat.shiftRight_zero]
  | k + 1, h => by
    have ih := climbH_tree hi k fun j hj => h j (by omega)
    rw [climb_step k i hi]
    by_cases e : (i >>> k) % 2 = 0
    · rw [climbH_even e, ih, h k (by omega), if_neg (by omega)]
    · rw [climbH_odd e, ih, h k (by omega), if_pos (by omega)]
theorem pathS_none12 (L : List (Nat × List UInt8)) (i : Nat) : pathS L i 0 = [] := by with_unfolding_all rfl
theorem pathS_len12 {L : List (Nat × List UInt8)} (ho : okL L) (i : Nat) : ∀ k, (pathS L i k).length = 32 * k
  | 0 => by rw [pathS_none12]; rfl
  | k + 1 => by
    rw [pathS_succ, List.length_append, pathS_len12 ho i k, nodeS_length _ _ _ ho]
    omega
theorem pathS_part {L : List (Nat × List UInt8)} (ho : okL L) (i : Nat) : ∀ h j, j < h → hpart (pathS L i h) j = nodeS j (sibN j i) L
  | 0, j, hj => by omega
  | h + 1, j, hj => by
    have hl := pathS_len12 ho i h
    rw [pathS_succ, hpart]
    by_cases e : j = h
    · subst e
      rw [List.drop_left' hl, List.take_of_length_le (by rw [nodeS_length _ _ _ ho]; exact Nat.le_refl _)]
    · rw [List.drop_append_of_le_length (by omega), List.take_append_of_le_length (by rw [List.length_drop]; omega)]
      exact pathS_part ho i h j (by omega)
/-- A tree's leaf and path come to its root. -/
theorem climb_root {L : List (Nat × List UInt8)} (ho : okL L) {i h : Nat} (hh : h ≤ 32) (hi : i < 2 ^ h) : climbH (nodeS 0 i L) (pathS L i h) i h = nodeS h 0 L := by
  have hp32 : 2 ^ h ≤ 2 ^ 32 := Nat.pow_le_pow_right (by omega) hh
  rw [climbH_tree (by omega) h (fun j hj => pathS_part ho i h j hj), Nat.shiftRight_eq_div_pow, Nat.div_eq_of_lt hi]
/-- A path whose right hashes are empty ones, up to a height. -/
def cutP (path : List UInt8) (i n : Nat) : List UInt8 := (List.range n).flatMap fun j => if (i >>> j) % 2 = 0 then emptyL j else hpart path j
theorem cutP_zero (path : List UInt8) (i : Nat) : cutP path i 0 = [] := rfl
theorem cutP_next (path : List UInt8) (i n : Nat) : cutP path i (n + 1) = cutP path i n ++ (if (i >>> n) % 2 = 0 then emptyL n else hpart path n) := by
  unfold cutP
  rw [List.range_succ, List.flatMap_append]
  simp
theorem cutP_length {path : List UInt8} {h : Nat} (hl : path.length = 32 * h) (i : Nat) : ∀ n, n ≤ h → (cutP path i n).length = 32 * n
  | 0, _ => rfl
  | n + 1, hn => by
    rw [cutP_next, List.length_append, cutP_length hl i n (by omega)]
    split
    · rw [emptyL_length]; omega
    · rw [hpart_length hl (by omega)]; omega
theorem cutP_part {path : List UInt8} {h : Nat} (hl : path.length = 32 * h) (i : Nat) : ∀ n j, n ≤ h → j < n → hpart (cutP path i n) j = if (i >>> j) % 2 = 0 then emptyL j else hpart path j
  | 0, j, _, hj => by omega
  | n + 1, j, hn, hj => by
    have hc := cutP_length hl i n (by omega)
    have hx : (if (i >>> n) % 2 = 0 then emptyL n else hpart path n).length = 32 := by
      split
      · exact emptyL_length n
      · exact hpart_length hl (by omega)
    rw [cutP_next, hpart]
    by_cases e : j = n
    · subst e
      rw [List.drop_left' hc, List.take_of_length_le (by rw [hx]; exact Nat.le_refl _)]
    · rw [List.drop_append_of_le_length (by omega), List.take_append_of_le_length (by rw [List.length_drop]; omega)]
      exact cutP_part hl i n j (by omega) (by omega)
/-- A cutting step of a tree leads to the root of the tree that was cut. -/
theorem climb_cut {L : List (Nat × List UInt8)} (ho : okL L) {i h n : Nat} (hn : n ≤ h) (hh : h ≤ 32) (hi : i < 2 ^ n) : climbH (nodeS 0 i L) (cutP (pathS L i h) i n) i n = nodeS n 0 (cutS (i + 1) L) := by
  have hp32 : 2 ^ n ≤ 2 ^ 32 := Nat.pow_le_pow_right (by omega) (by omega)
  have h1 := climbH_tree (L := cutS (i + 1) L) (path := cutP (pathS L i h) i n) (i := i) (by omega) n (fun j hj => by
    rw [cutP_part (pathS_len12 ho i h) i n j hn hj, sib_cut L (by omega) (by omega)]
    split
    · rfl
    · exact pathS_part ho i h j (by omega))
  rw [leaf_cut, Nat.shiftRight_eq_div_pow, Nat.div_eq_of_lt hi] at h1
  exact h1
/-- A root with some levels more. -/
def growH (root : List UInt8) (low : Nat) : Nat → List UInt8
  | 0 => root
  | k + 1 => hashL (joinT (low + k + 1) (growH root low k) (emptyL (low + k)))
theorem growH_next (root : List UInt8) (low k : Nat) : growH root low (k + 1) = hashL (joinT (low + k + 1) (growH root low k) (emptyL (low + k))) := rfl
theorem growH_length {root : List UInt8} (h : root.length = 32) (low : Nat) : ∀ k, (growH root low k).length = 32
  | 0 => h
  | k + 1 => by rw [growH_next]; exact hashL_length _
/-- A growing step of a tree leads to the root of the tree that has grown. -/
theorem grow_root {L : List (Nat × List UInt8)} {low : Nat} (h : ∀ p ∈ L, p.1 < 2 ^ low) : ∀ k, low + k ≤ 33 → growH (nodeS low 0 L) low k = nodeS (low + k) 0 L
  | 0, _ => rfl
  | k + 1, hk => by
    rw [growH_next, grow_root h k (by omega)]
    exact (root_grow (n := low + k) (by omega) fun p hp => Nat.lt_of_lt_of_le (h p hp) (Nat.pow_le_pow_right (by omega) (by omega))).symm
/-- More blocks, no less height. -/
theorem high_le {a b : Nat} (hab : a ≤ b) (hb : b ≤ 4294967296) : highN a ≤ highN b := by
  obtain ⟨h1, -, -⟩ := highN_spec (b := b) hb
  obtain ⟨-, -, h3⟩ := highN_spec (b := a) (by omega)
  refine Nat.le_of_not_lt fun g => ?_
  have := h3 _ g
  omega
/-- An index halved. -/
theorem fits_half (i n : Nat) : (i >>> n = 0) ↔ i < 2 ^ n := by
  rw [Nat.shiftRight_eq_div_pow]
  exact Nat.div_eq_zero_iff_lt (Nat.two_pow_pos n)
end Go.Proofs.YtdegmcfcbndelaaDoor

namespace Go.Proofs.YtdegmcfcbndelaaDoor
open Go.RowKit

/-- Whether an index fits a path. -/
def ftB (i n : Nat) : Bool := decide (n ≤ 32) && decide (i < 2 ^ n)
set_option maxRecDepth 100000 in
set_option maxHeartbeats 1000000 in
theorem fitsR_any (i n : Nat) (hi : i < 18446744073709551616) (hn : n ≤ 1000000) (w : World) :
    Calls Tryd.prog 45 #[.int .u64 (i : Int), .int .i64 (n : Int)] w fun r w' => r = .returned (.bool (ftB i n)) ∧ w' = w := by
  by_cases h32 : 32 < n
  · have e0 : ftB i n = false := by unfold ftB; simp; omega
    have c1 : decide (32 < (n : Int)) = true := by simp; omega
    have c1n : decide (32 < n) = true := by simp; omega
    rw [e0]
    clear e0 h32
    go_enter Tryd.func45, Tryd.ntmps45
    go_wp2
    go_ret
    exact ⟨rfl, rfl⟩
  have e0 : ftB i n = decide (i >>> n = 0) := by
    unfold ftB
    rw [decide_eq_true (show n ≤ 32 by omega), Bool.true_and]
    exact decide_eq_decide.2 (fits_half i n).symm
  have c1 : decide (32 < (n : Int)) = false := by simp; omega
  have c1n : decide (32 < n) = false := by simp; omega
  have HN := hid (show n ≤ 32 by omega)
  have HI := hid hi
  rw [e0]
  clear e0 h32 hn hi
  go_enter Tryd.func45, Tryd.ntmps45
  go_wp2
  go_loopw [0, 5] (fun v0 v5 wr => ∃ j : Nat, j ≤ n ∧ v0 = .int .u64 ((i >>> j : Nat) : Int) ∧ v5 = .int .i64 (j : Int) ∧ wr = w) (fun _ v5 _ => n - (intOf v5).toNat)
  case atStart => exact ⟨0, by omega, by rw [Nat.shiftRight_zero], rfl, rfl⟩
  case round =>
    obtain ⟨j, hj, rfl, rfl, ew0⟩ := hrel
    obtain rfl := ew0.symm
    by_cases hlt : j < n
    · have d1 : decide ((j : Int) < (n : Int)) = true := by simp; omega
      have d1n : decide (j < n) = true := by simp; omega
      obtain ⟨s, hs⟩ : ∃ s, s = i >>> j := ⟨_, rfl⟩
      obtain ⟨s2, hs2⟩ : ∃ v, v = s / 2 := ⟨_, rfl⟩
      have hs3 : i >>> (j + 1) = s2 := by rw [Nat.shiftRight_succ, ← hs, hs2]
      have hle : s < 18446744073709551616 := by rw [hs]; exact Nat.lt_of_le_of_lt (Nat.shiftRight_le _ _) HI.out
      have e2 : (s : Int).tdiv 2 = (s2 : Int) := by rw [hs2]; exact (Int.ofNat_tdiv s 2).symm
      have wu : IntKind.u64.wrap (s2 : Int) = (s2 : Int) := by simp [IntKind.wrap, IntKind.signed, IntKind.bits]; omega
      obtain ⟨j1, hj1⟩ : ∃ m, m = j + 1 := ⟨_, rfl⟩
      have e3 : (j : Int) + 1 = (j1 : Int) := by omega
      have ew : IntKind.i64.wrap (j1 : Int) = (j1 : Int) := by rw [IntKind.wrap_i64] <;> have := HN.out <;> omega
      have HM := hid (show j1 ≤ n ∧ n - j1 < n - j by omega)
      have HS := hid (show i >>> j1 = s2 by rw [hj1]; exact hs3)
      rw [← hs]
      clear hs hs2 hs3 hle hj1 hlt hj
      go_wp2
      exact ⟨⟨j1, HM.out.1, by rw [HS.out], rfl, trivial⟩, by
        show n - ((j1 : Int)).toNat < n - ((j : Int)).toNat
        rw [Int.toNat_natCast, Int.toNat_natCast]
        exact HM.out.2⟩
    · obtain rfl : j = n := by omega
      have d1 : decide ((j : Int) < (j : Int)) = false := by simp
      obtain ⟨s, hs⟩ : ∃ s, s = i >>> j := ⟨_, rfl⟩
      have HE := hid (show ((s : Int) == 0) = decide (i >>> j = 0) by rw [← hs]; by_cases e : s = 0 <;> simp [e])
      rw [← hs]
      clear hlt hj hs
      go_wp2
      go_ret
      exact ⟨congrArg (fun b => Ending.returned (Value.bool b)) HE.out, rfl⟩
/-- What the region of a join yields. -/
def cl12 (A : Option Addr) (n c j j1 g q : Nat) (x s y : List UInt8) : Nat → Value
  | 0 => .int .i64 (j : Int)
  | 1 => .int .i64 (j1 : Int)
  | 2 => .agg (ubs x).toArray
  | 3 => .slice A n c
  | 4 => .int .i64 (j : Int)
  | 5 => .pointer (some ⟨g, q, none⟩)
  | 6 => .agg (ubs s).toArray
  | _ => .agg (ubs y).toArray
/-- .. of one whose left is the path's. -/
def cr12 (A : Option Addr) (n c j j1 g q : Nat) (x s y : List UInt8) : Nat → Value
  | 0 => .int .i64 (j : Int)
  | 1 => .int .i64 (j1 : Int)
  | 2 => .slice A n c
  | 3 => .int .i64 (j : Int)
  | 4 => .pointer (some ⟨g, q, none⟩)
  | 5 => .agg (ubs s).toArray
  | 6 => .agg (ubs x).toArray
  | _ => .agg (ubs y).toArray
/-- A climb's memory. -/
structure CbW (W : World) (x : List UInt8) (V : World) : Prop where
  b : Below W.heap.size W V
  h : At V W.heap.size (ubs x).toArray 25
  r : At V (W.heap.size + 1) (ubs n32).toArray 25
theorem CbW.new {W V V' : World} {x : List UInt8} (k : CbW W x V) (hb : Below V.heap.size V V') : CbW W x V' := ⟨k.b.trans (hb.mono k.b.size), k.h.new_ hb, k.r.new_ hb⟩
theorem CbW.drew {W V : World} {x : List UInt8} (k : CbW W x V) : CbW W x V.drew := k.new (Below.refl _ _).drew
theorem CbW.start {W : World} {x : List UInt8} : CbW W x ((W.alloc (.cells (ubs x).toArray 25)).alloc (.cells (ubs n32).toArray 25)) :=
  ⟨((Below.refl _ _).alloc (Nat.le_refl _) _).alloc (by simp) _, (At.new _ _ _).alloc _, At.new_at (by simp)⟩
theorem CbW.put {W V : World} {x y : List UInt8} (k : CbW W x V) : CbW W y (V.setRow W.heap.size (ubs y).toArray) :=
  ⟨below_setRow k.b (Nat.le_refl _) _, setRow_heap _ _ (ubs x).toArray _ _ _ k.h, (setRow_other V _ _ _ (by omega)).trans k.r⟩
set_option maxRecDepth 100000 in
set_option maxHeartbeats 2000000 in
theorem climbR12_any (leaf path : List UInt8) (i n c : Nat) (A : Option Addr) (W : World) (hl : leaf.length = 32) (hn : n ≤ 32) (hi : i < 18446744073709551616) (hp : path.length = 32 * n) (hr : Rd W W.heap.size A (ubs path)) (hT : Tabr W) (hI : Tab W 1 IV.l) :
    Calls Tryd.prog 46 #[.agg (ubs leaf).toArray, .int .u64 (i : Int), .slice A n c] W fun r W' => r = .returned (.agg (ubs (climbH leaf path i n)).toArray) ∧ Below W.heap.size W W' := by
  have HAH := hid (fun (o : Oper) (a : Go.Act) (W : World) (h : o.op = .alloc 25) => run_alloc_of (o := o) (a := a) (W := W) _ h _ zeroH8)
  have HL := hid hl
  have HN := hid hn
  have HI := hid hi
  have HP := hid hp
  have HR := hid hr
  have HT := hid hT
  have HIN := hid hI
  have HC := hid (CbW.start (W := W) (x := leaf))
  obtain ⟨fin, hfin⟩ : ∃ f, f = climbH leaf path i n := ⟨_, rfl⟩
  have HFN := hid hfin
  rw [← hfin]
  clear hl hn hi hp hr hT hI hfin
  go_enter Tryd.func46, Tryd.ntmps46
  go_wp2_with (first
    | (refine Great.wpList_allocTo rfl _ rfl _ _ (HAH.out _ _ _ rfl) ?_))
  generalize (W.alloc (.cells (ubs leaf).toArray 25)).alloc (.cells (ubs n32).toArray 25) = W0 at HC ⊢
  go_loopw [1, 7] (fun v1 v7 wr => ∃ j : Nat, j ≤ n ∧ v1 = .int .u64 ((i >>> j : Nat) : Int) ∧ v7 = .int .i64 (j : Int) ∧ CbW W (climbH leaf path i j) wr) (fun _ v7 _ => n - (intOf v7).toNat)
  case atStart => exact ⟨0, by omega, by rw [Nat.shiftRight_zero], rfl, HC.out⟩
  case round =>
    clear HC
    obtain ⟨j, hj, rfl, rfl, hX⟩ := hrel
    by_cases hlt : j < n
    · have d1 : decide ((j : Int) < (n : Int)) = true := by simp; omega
      have d1n : decide (j < n) = true := by simp; omega
      have ik : (j : Int) < (n : Int) := by omega
      obtain ⟨u, hu⟩ : ∃ u, u = i >>> j := ⟨_, rfl⟩
      obtain ⟨u2, hu2⟩ : ∃ v, v = u / 2 := ⟨_, rfl⟩
      have hu3 : i >>> (j + 1) = u2 := by rw [Nat.shiftRight_succ, ← hu, hu2]
      have hle : u < 18446744073709551616 := by rw [hu]; exact Nat.lt_of_le_of_lt (Nat.shiftRight_le _ _) HI.out
      have e2 : (u : Int).tdiv 2 = (u2 : Int) := by rw [hu2]; exact (Int.ofNat_tdiv u 2).symm
      have wu : IntKind.u64.wrap (u2 : Int) = (u2 : Int) := by simp [IntKind.wrap, IntKind.signed, IntKind.bits]; omega
      obtain ⟨g, o, rfl, hgb, hra⟩ := hpart_range HR.out HP.out hlt
      obtain ⟨q, hq⟩ : ∃ q, q = o + 32 * j := ⟨_, rfl⟩
      rw [← hq] at hra
      have eq : o + j * 32 = q := by omega
      have HRA := hid hra
      have HGB := hid hgb
      have HSL := hid (hpart_length (bs := path) HP.out hlt)
      have HXL := hid (climbH_length (path := path) (i := i) HL.out j)
      obtain ⟨j1, hj1⟩ : ∃ m, m = j + 1 := ⟨_, rfl⟩
      have e3 : (j : Int) + 1 = (j1 : Int) := by omega
      have ew : IntKind.i64.wrap (j1 : Int) = (j1 : Int) := by rw [IntKind.wrap_i64] <;> have := HN.out <;> omega
      have HM := hid (show j1 ≤ n ∧ n - j1 < n - j by omega)
      have HS := hid (show i >>> j1 = u2 by rw [hj1]; exact hu3)
      rcases Nat.mod_two_eq_zero_or_one u with hpar | hpar
      · have hm2 : (u : Int).tmod 2 = 0 := by rw [Int.tmod_eq_emod_of_nonneg (by omega)]; omega
        have hY := climbH_even (leaf := leaf) (path := path) (i := i) (k := j) (by rw [← hu]; omega)
        rw [← hj1] at hY
        obtain ⟨s, hs⟩ : ∃ s, s = hpart path j := ⟨_, rfl⟩
        obtain ⟨x, hx⟩ : ∃ x, x = climbH leaf path i j := ⟨_, rfl⟩
        rw [← hs] at HRA HSL hY
        rw [← hx] at HXL hY hX
        obtain ⟨y, hy⟩ : ∃ y, y = hashL (joinT j1 x s) := ⟨_, rfl⟩
        rw [← hy] at hY
        have HYL := hid (show y.length = 32 by rw [hy]; exact hashL_length _)
        have HY := hid hY
        have HX := hid hX
        have HJ := hid (fun (V : World) (b : Below W.heap.size W V) => show Calls Tryd.prog 82 #[.int .i64 (j1 : Int), .agg (ubs x).toArray, .agg (ubs s).toArray] V (fun r V' => r = .returned (.agg (ubs y).toArray) ∧ Below V.heap.size V V') from by
          rw [hy]
          exact joinR_any j1 x s V HXL.out HSL.out (HT.out.below b) (Tab.below (x := IV.a) (xs := [IV.b, IV.c, IV.d, IV.e, IV.f, IV.g, IV.h]) HIN.out b))
        rw [← hu]
        clear hs hx hy hY hX hu hu2 hu3 hle hra hgb hq hj1 hlt hj hpar HR
        go_wp2
        try simp only [Act.put, List.setIfInBounds_toArray, List.set_cons_succ, List.set_cons_zero]
        refine wp_region_facts 8 9 [17, 18, 19, 20, 21, 22, 23, 24] (fun k v _ => v = cl12 (some ⟨g, o, none⟩) n c j j1 g q x s y k) (CbW W x) (by kernel_rfl) (by kernel_rfl)
          (fun W W' h hb => h.new hb) (fun _ _ _ _ h _ => h) (HX.out.drew) ?_ ?_
        · intro i hi vals W1 K hB hn hK
          simp only [frm_cons, frm_nil, List.set_cons_succ, List.set_cons_zero, Nat.reduceAdd] at hK ⊢
          rcases (by omega : i = 0 ∨ i = 1 ∨ i = 2 ∨ i = 3 ∨ i = 4 ∨ i = 5 ∨ i = 6 ∨ i = 7) with rfl | rfl | rfl | rfl | rfl | rfl | rfl | rfl
          · refine wpOp_plain rfl rfl (wp_val (w' := W1) (v := .int .i64 (j : Int)) (by go_simp) ?_)
            exact hK _ _ rfl (Below.refl _ _)
          · have h0 := hn 0 (by decide +kernel)
            simp only [cl12] at h0
            simp only [h0] at hK ⊢
            refine wpOp_plain rfl rfl (wp_val (w' := W1) (v := .int .i64 (j1 : Int)) (by go_simp) ?_)
            exact hK _ _ rfl (Below.refl _ _)
          · refine wpOp_plain rfl rfl (wp_val (run_loadH (.tmp 3) rfl W.heap.size 0 rfl x (range_whole hB.h) HXL.out) ?_)
            exact hK _ _ rfl (Below.refl _ _)
          · refine wpOp_plain rfl rfl (wp_val (w' := W1) (v := .slice (some ⟨g, o, none⟩) n c) (by go_simp) ?_)
            exact hK _ _ rfl (Below.refl _ _)
          · refine wpOp_plain rfl rfl (wp_val (w' := W1) (v := .int .i64 (j : Int)) (by go_simp) ?_)
            exact hK _ _ rfl (Below.refl _ _)
          · have h3 := hn 3 (by decide +kernel)
            have h4 := hn 4 (by decide +kernel)
            simp only [cl12] at h3 h4
            simp only [h3, h4] at hK ⊢
            refine wpOp_plain rfl rfl (wp_val (w' := W1) (v := .pointer (some ⟨g, q, none⟩)) (by go_simp) ?_)
            exact hK _ _ rfl (Below.refl _ _)
          · have h5 := hn 5 (by decide +kernel)
            simp only [cl12] at h5
            simp only [h5] at hK ⊢
            refine wpOp_plain rfl rfl (wp_val (run_loadH (.tmp 22) rfl g q rfl s (range_new hB.b HGB.out HRA.out) HSL.out) ?_)
            exact hK _ _ rfl (Below.refl _ _)
          · have h1 := hn 1 (by decide +kernel)
            have h2 := hn 2 (by decide +kernel)
            have h6 := hn 6 (by decide +kernel)
            simp only [cl12] at h1 h2 h6
            simp only [h1, h2, h6] at hK ⊢
            refine wpOp_plain rfl rfl ?_
            go_simp
            go_at_call 82
            refine (HJ.out W1 hB.b).mono ?_
            rintro e W' ⟨rfl, hb⟩
            exact hK _ _ rfl hb
        · intro vals W1 hB hF
          have h7 := hF 7 (by omega)
          simp only [cl12] at h7
          simp only [frm_cons, frm_nil, List.set_cons_succ, List.set_cons_zero, Nat.reduceAdd, h7]
          refine wpUpto_one (i := 8) rfl (by decide +kernel) rfl ?_
          intro Q0 hQ0
          refine wp_store_row 25 (.tmp 3) (.tmp 24) rfl W.heap.size (ubs y).toArray rfl rfl 25 (ubs x).toArray hB.h (sizeH_of HYL.out) (by simp [ubs_length, HXL.out, HYL.out]) (ubs_all _) ?_
          refine hQ0.out _ _ (fun _ => trivial) ?_
          clear hQ0 Q0
          refine wpUpto_done (by decide +kernel) ?_ _
          have C9 := hid (hB.put (y := y))
          generalize W1.setRow W.heap.size (ubs y).toArray = W9 at C9 ⊢
          clear hB hF h7
          go_simp
          go_wp2
          exact ⟨⟨j1, HM.out.1, by rw [HS.out], rfl, by rw [HY.out]; exact C9.out⟩, by
            show n - ((j1 : Int)).toNat < n - ((j : Int)).toNat
            rw [Int.toNat_natCast, Int.toNat_natCast]
            exact HM.out.2⟩
      · have hm2 : (u : Int).tmod 2 = 1 := by rw [Int.tmod_eq_emod_of_nonneg (by omega)]; omega
        have hY := climbH_odd (leaf := leaf) (path := path) (i := i) (k := j) (by rw [← hu]; omega)
        rw [← hj1] at hY
        obtain ⟨s, hs⟩ : ∃ s, s = hpart path j := ⟨_, rfl⟩
        obtain ⟨x, hx⟩ : ∃ x, x = climbH leaf path i j := ⟨_, rfl⟩
        rw [← hs] at HRA HSL hY
        rw [← hx] at HXL hY hX
        obtain ⟨y, hy⟩ : ∃ y, y = hashL (joinT j1 s x) := ⟨_, rfl⟩
        rw [← hy] at hY
        have HYL := hid (show y.length = 32 by rw [hy]; exact hashL_length _)
        have HY := hid hY
        have HX := hid hX
        have HJ := hid (fun (V : World) (b : Below W.heap.size W V) => show Calls Tryd.prog 82 #[.int .i64 (j1 : Int), .agg (ubs s).toArray, .agg (ubs x).toArray] V (fun r V' => r = .returned (.agg (ubs y).toArray) ∧ Below V.heap.size V V') from by
          rw [hy]
          exact joinR_any j1 s x V HSL.out HXL.out (HT.out.below b) (Tab.below (x := IV.a) (xs := [IV.b, IV.c, IV.d, IV.e, IV.f, IV.g, IV.h]) HIN.out b))
        rw [← hu]
        clear hs hx hy hY hX hu hu2 hu3 hle hra hgb hq hj1 hlt hj hpar HR
        go_wp2
        try simp only [Act.put, List.setIfInBounds_toArray, List.set_cons_succ, List.set_cons_zero]
        refine wp_region_facts 8 9 [25, 26, 27, 28, 29, 30, 31, 32] (fun k v _ => v = cr12 (some ⟨g, o, none⟩) n c j j1 g q x s y k) (CbW W x) (by kernel_rfl) (by kernel_rfl)
          (fun W W' h hb => h.new hb) (fun _ _ _ _ h _ => h) (HX.out.drew) ?_ ?_
        · intro i hi vals W1 K hB hn hK
          simp only [frm_cons, frm_nil, List.set_cons_succ, List.set_cons_zero, Nat.reduceAdd] at hK ⊢
          rcases (by omega : i = 0 ∨ i = 1 ∨ i = 2 ∨ i = 3 ∨ i = 4 ∨ i = 5 ∨ i = 6 ∨ i = 7) with rfl | rfl | rfl | rfl | rfl | rfl | rfl | rfl
          · refine wpOp_plain rfl rfl (wp_val (w' := W1) (v := .int .i64 (j : Int)) (by go_simp) ?_)
            exact hK _ _ rfl (Below.refl _ _)
          · have h0 := hn 0 (by decide +kernel)
            simp only [cr12] at h0
            simp only [h0] at hK ⊢
            refine wpOp_plain rfl rfl (wp_val (w' := W1) (v := .int .i64 (j1 : Int)) (by go_simp) ?_)
            exact hK _ _ rfl (Below.refl _ _)
          · refine wpOp_plain rfl rfl (wp_val (w' := W1) (v := .slice (some ⟨g, o, none⟩) n c) (by go_simp) ?_)
            exact hK _ _ rfl (Below.refl _ _)
          · refine wpOp_plain rfl rfl (wp_val (w' := W1) (v := .int .i64 (j : Int)) (by go_simp) ?_)
            exact hK _ _ rfl (Below.refl _ _)
          · have h2 := hn 2 (by decide +kernel)
            have h3 := hn 3 (by decide +kernel)
            simp only [cr12] at h2 h3
            simp only [h2, h3] at hK ⊢
            refine wpOp_plain rfl rfl (wp_val (w' := W1) (v := .pointer (some ⟨g, q, none⟩)) (by go_simp) ?_)
            exact hK _ _ rfl (Below.refl _ _)
          · have h4 := hn 4 (by decide +kernel)
            simp only [cr12] at h4
            simp only [h4] at hK ⊢
            refine wpOp_plain rfl rfl (wp_val (run_loadH (.tmp 29) rfl g q rfl s (range_new hB.b HGB.out HRA.out) HSL.out) ?_)
            exact hK _ _ rfl (Below.refl _ _)
          · refine wpOp_plain rfl rfl (wp_val (run_loadH (.tmp 3) rfl W.heap.size 0 rfl x (range_whole hB.h) HXL.out) ?_)
            exact hK _ _ rfl (Below.refl _ _)
          · have h1 := hn 1 (by decide +kernel)
            have h5 := hn 5 (by decide +kernel)
            have h6 := hn 6 (by decide +kernel)
            simp only [cr12] at h1 h5 h6
            simp only [h1, h5, h6] at hK ⊢
            refine wpOp_plain rfl rfl ?_
            go_simp
            go_at_call 82
            refine (HJ.out W1 hB.b).mono ?_
            rintro e W' ⟨rfl, hb⟩
            exact hK _ _ rfl hb
        · intro vals W1 hB hF
          have h7 := hF 7 (by omega)
          simp only [cr12] at h7
          simp only [frm_cons, frm_nil, List.set_cons_succ, List.set_cons_zero, Nat.reduceAdd, h7]
          refine wpUpto_one (i := 8) rfl (by decide +kernel) rfl ?_
          intro Q0 hQ0
          refine wp_store_row 25 (.tmp 3) (.tmp 32) rfl W.heap.size (ubs y).toArray rfl rfl 25 (ubs x).toArray hB.h (sizeH_of HYL.out) (by simp [ubs_length, HXL.out, HYL.out]) (ubs_all _) ?_
          refine hQ0.out _ _ (fun _ => trivial) ?_
          clear hQ0 Q0
          refine wpUpto_done (by decide +kernel) ?_ _
          have C9 := hid (hB.put (y := y))
          generalize W1.setRow W.heap.size (ubs y).toArray = W9 at C9 ⊢
          clear hB hF h7
          go_simp
          go_wp2
          exact ⟨⟨j1, HM.out.1, by rw [HS.out], rfl, by rw [HY.out]; exact C9.out⟩, by
            show n - ((j1 : Int)).toNat < n - ((j : Int)).toNat
            rw [Int.toNat_natCast, Int.toNat_natCast]
            exact HM.out.2⟩
    · obtain rfl : j = n := by omega
      have d1 : decide ((j : Int) < (j : Int)) = false := by simp
      have HXL := hid (show fin.length = 32 by rw [HFN.out]; exact climbH_length (path := path) (i := i) HL.out j)
      rw [← HFN.out] at hX
      have HX := hid hX
      obtain ⟨u, hu⟩ : ∃ u, u = i >>> j := ⟨_, rfl⟩
      rw [← hu]
      clear hlt hj hX HR hu
      go_wp2_with (first
        | (refine wpList_valW (by rfl) (run_loadH (.tmp 3) rfl W.heap.size 0 rfl fin (range_whole HX.out.h) HXL.out) ?_)
        | (refine wpList_store_row rfl _ (.tmp 6) (.tmp 35) rfl (W.heap.size + 1) (ubs fin).toArray rfl rfl 25 (ubs n32).toArray HX.out.r (sizeH_of HXL.out) ?e5 (ubs_all _) ?e6; rotate_right))
      case e5 => simp [ubs_length, n32_length, HXL.out]
      refine bodyPost_ret (results_cell_row rfl _ _ (W.heap.size + 1) 25 (ubs fin).toArray (0, 0) _ rfl (setRow_heap _ _ (ubs n32).toArray _ _ _ HX.out.r) Tryd.underlying25 rfl (sizeH_of HXL.out)) rfl ?_
      exact ⟨rfl, below_setRow HX.out.b (by omega) _⟩
end Go.Proofs.YtdegmcfcbndelaaDoor
