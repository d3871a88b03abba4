/-
  Layer 10, the program's side: Leaves, of trees of whatever memory.
  Layer 10: a tree's leaves and its proof come to its nodes; how many spots there are. Nothing here walks.
  alive of layer 9, over what the program's trees are to answer.
  Layer 10: alive, over what the program's trees answer; how much is looked at.
-/
import Derived.Test.YtdegmcfcbndelaaDoorK8
import Derived.Test.YtdegmcfcbndelaaDoorZ2
import Derived.Test.YtdegmcfcbndelaaDoorK9
import Derived.Test.YtdegmcfcbndelaaDoorL3
import Derived.Test.YtdegmcfcbndelaaDoorL1
import Derived.Test.YtdegmcfcbndelaaDoorY4
namespace Go.Proofs.YtdegmcfcbndelaaDoor
open Go.RowKit

theorem leavesS_length {L : List (Nat × List UInt8)} (ho : okL L) (l : List Nat) : (leavesS L l).length = 32 * l.length := by
  have key : ∀ j, j ≤ l.length → (leavesS L (l.take j)).length = 32 * j := by
    intro j
    induction j with
    | zero => intro _; rw [leavesS_zero]; rfl
    | succ j ih =>
      intro hj
      rw [leavesS_next L l j (by omega), List.length_append, ih (by omega), nodeS_length _ _ _ ho]
      omega
  have := key l.length (Nat.le_refl _)
  rwa [List.take_length] at this
/-- The first m leaves, and noughts behind them. -/
def lvTo (L : List (Nat × List UInt8)) (l : List Nat) (m : Nat) : List UInt8 := leavesS L (l.take m) ++ List.replicate (32 * (l.length - m)) 0
theorem lvTo_zero (L : List (Nat × List UInt8)) (l : List Nat) : lvTo L l 0 = List.replicate (32 * l.length) 0 := by
  unfold lvTo
  rw [leavesS_zero, List.nil_append, Nat.sub_zero]
theorem lvTo_all (L : List (Nat × List UInt8)) (l : List Nat) : lvTo L l l.length = leavesS L l := by
  unfold lvTo
  rw [List.take_length, Nat.sub_self, Nat.mul_zero, List.replicate_zero, List.append_nil]
theorem lvTo_length {L : List (Nat × List UInt8)} (ho : okL L) (l : List Nat) (m : Nat) (hm : m ≤ l.length) : (lvTo L l m).length = 32 * l.length := by
  rw [lvTo, List.length_append, leavesS_length ho, List.length_replicate, List.length_take]
  omega
theorem lvTo_next {L : List (Nat × List UInt8)} (ho : okL L) (l : List Nat) (m : Nat) (hm : m < l.length) : spl (lvTo L l m) (32 * m) (nodeS 0 l[m] L) = lvTo L l (m + 1) := by
  have h1 : List.replicate (32 * (l.length - m)) (0 : UInt8) = List.replicate 32 0 ++ List.replicate (32 * (l.length - (m + 1))) 0 := by
    rw [List.replicate_append_replicate]
    congr 1
    omega
  have := spl_at (leavesS L (l.take m)) (List.replicate 32 0) (List.replicate (32 * (l.length - (m + 1))) 0) (nodeS 0 l[m] L) (by rw [nodeS_length _ _ _ ho, List.length_replicate])
  rw [leavesS_length ho, List.length_take, Nat.min_eq_left (by omega)] at this
  rw [lvTo, h1, this, lvTo, leavesS_next L l m hm, List.append_assoc]
/-- What holds while leaves are written. -/
structure LqW (Pt : PtT) (S : Nat → Prop) (w : World) (b h : Nat) (L : List (Nat × List UInt8)) (l : List Nat) (D m : Nat) (V : World) : Prop where
  t : Pt S V b h L
  r : At V D (ubs (lvTo L l m)).toArray 25
  lo : w.heap.size ≤ D
  below : Below w.heap.size w V
section
variable {Pt : PtT} {w0 : World}
theorem LqW.new (t : T9c Pt w0) {S : Nat → Prop} {w V V' : World} {b h D m : Nat} {L : List (Nat × List UInt8)} {l : List Nat} (x : LqW Pt S w b h L l D m V) (hb : Below V.heap.size V V') : LqW Pt S w b h L l D m V' :=
  ⟨t.new x.t hb, x.r.new_ hb, x.lo, x.below.trans (hb.mono x.below.size)⟩
theorem LqW.store (t : T9c Pt w0) {S : Nat → Prop} {w V : World} {b h D m : Nat} {L : List (Nat × List UInt8)} {l : List Nat} (x : LqW Pt S w b h L l D m V) (ho : okL L) (hm : m < l.length) (hS : ∀ j, S j → j < w.heap.size) : LqW Pt S w b h L l D (m + 1) (V.setCells D (32 * m) (ubs (nodeS 0 l[m] L))) := by
  have hb : Below D V (V.setCells D (32 * m) (ubs (nodeS 0 l[m] L))) := below_setCells (Below.refl _ _) (Nat.le_refl _) _ _
  refine ⟨t.keep x.t hb.size (KeepsS.of_below hb fun j hj => Nat.lt_of_lt_of_le (hS j hj) x.lo), ?_, x.lo, x.below.trans (hb.mono x.lo)⟩
  have := at_setCells x.r (32 * m) (nodeS 0 l[m] L)
  rwa [lvTo_next ho l m hm] at this
theorem LqW.there {S : Nat → Prop} {w V : World} {b h D m : Nat} {L : List (Nat × List UInt8)} {l : List Nat} (x : LqW Pt S w b h L l D m V) (ho : okL L) (hm : m < l.length) : V.there D (32 * m) 32 := there_at x.r _ _ (by rw [lvTo_length ho l m (by omega)]; omega)
end
end Go.Proofs.YtdegmcfcbndelaaDoor

namespace Go.Proofs.YtdegmcfcbndelaaDoor

theorem besideS_length {L : List (Nat × List UInt8)} (ho : okL L) (s : List (Nat × Nat)) : (besideS L s).length = 32 * s.length := by
  have key : ∀ j, j ≤ s.length → (besideS L (s.take j)).length = 32 * j := by
    intro j
    induction j with
    | zero => intro _; rw [besideS_zero]; rfl
    | succ j ih =>
      intro hj
      rw [besideS_next L s j (by omega), List.length_append, ih (by omega), nodeS_length _ _ _ ho]
      omega
  have := key s.length (Nat.le_refl _)
  rwa [List.take_length] at this
theorem hpart_pre {a b c : List UInt8} {i : Nat} (ha : a.length = 32 * i) (hb : b.length = 32) : hpart (a ++ b ++ c) i = b := by
  rw [hpart, List.append_assoc, ← ha, List.drop_left, List.take_left' hb]
theorem beside_part {L : List (Nat × List UInt8)} (ho : okL L) (s : List (Nat × Nat)) (i : Nat) (hi : i < s.length) : hpart (besideS L s) i = nodeS s[i].1 s[i].2 L := by
  have key : ∀ n, i + 1 + n ≤ s.length → ∃ z, besideS L (s.take (i + 1 + n)) = besideS L (s.take i) ++ nodeS s[i].1 s[i].2 L ++ z := by
    intro n
    induction n with
    | zero => exact fun _ => ⟨[], by rw [Nat.add_zero, besideS_next L s i hi, List.append_nil]⟩
    | succ n ih =>
      intro h
      obtain ⟨z, hz⟩ := ih (by omega)
      exact ⟨z ++ nodeS s[i + 1 + n].1 s[i + 1 + n].2 L, by rw [← Nat.add_assoc, besideS_next L s (i + 1 + n) (by omega), hz, List.append_assoc]⟩
  obtain ⟨z, hz⟩ := key (s.length - (i + 1)) (by omega)
  rw [show i + 1 + (s.length - (i + 1)) = s.length by omega, List.take_length] at hz
  rw [hz]
  exact hpart_pre (by rw [besideS_length ho, List.length_take]; congr 1; omega) (nodeS_length _ _ _ ho)
theorem leaves_part {L : List (Nat × List UInt8)} (ho : okL L) (s : List Nat) (i : Nat) (hi : i < s.length) : hpart (leavesS L s) i = nodeS 0 s[i] L := by
  have key : ∀ n, i + 1 + n ≤ s.length → ∃ z, leavesS L (s.take (i + 1 + n)) = leavesS L (s.take i) ++ nodeS 0 s[i] L ++ z := by
    intro n
    induction n with
    | zero => exact fun _ => ⟨[], by rw [Nat.add_zero, leavesS_next L s i hi, List.append_nil]⟩
    | succ n ih =>
      intro h
      obtain ⟨z, hz⟩ := ih (by omega)
      exact ⟨z ++ nodeS 0 s[i + 1 + n] L, by rw [← Nat.add_assoc, leavesS_next L s (i + 1 + n) (by omega), hz, List.append_assoc]⟩
  obtain ⟨z, hz⟩ := key (s.length - (i + 1)) (by omega)
  rw [show i + 1 + (s.length - (i + 1)) = s.length by omega, List.take_length] at hz
  rw [hz]
  exact hpart_pre (by rw [leavesS_length ho, List.length_take]; congr 1; omega) (nodeS_length _ _ _ ho)
/-- A tree's leaves and its proof come to its nodes. -/
theorem climb_tree {L : List (Nat × List UInt8)} (ho : okL L) {l : List Nat} {S : List (Nat × Nat)} : ∀ k p, (p + 1) * 2 ^ k ≤ 4294967296 → (∀ q ∈ spotsS l k p, q ∈ S) → (climbS l (leavesS L l) S (besideS L S) k p).2 = nodeS k p L
  | 0, p, _, hin => by
    by_cases h : (0, p) ∈ S
    · rw [climbS_spot h]
      show hpart (besideS L S) (S.idxOf (0, p)) = nodeS 0 p L
      rw [beside_part ho S _ (List.idxOf_lt_length_of_mem h), List.getElem_idxOf]
    · rw [climbS_leaf h]
      show hpart (leavesS L l) (l.idxOf p) = nodeS 0 p L
      rw [leaves_part ho l _ (List.idxOf_lt_length_of_mem (leaf_of_not hin h)), List.getElem_idxOf]
  | k + 1, p, hp, hin => by
    by_cases h : (k + 1, p) ∈ S
    · rw [climbS_spot h]
      show hpart (besideS L S) (S.idxOf (k + 1, p)) = nodeS (k + 1) p L
      rw [beside_part ho S _ (List.idxOf_lt_length_of_mem h), List.getElem_idxOf]
    · have hr := half_room hp
      have hlr := spots_left hin h
      rw [climbS_step h, nodeS_step k p (by omega)]
      rw [mod64 (by omega), mod64 (by omega)] at hlr ⊢
      show hashL _ = _
      rw [climb_tree ho k (2 * p) hr.1 hlr.1, climb_tree ho k (2 * p + 1) hr.2.1 hlr.2]
theorem root_tree {L : List (Nat × List UInt8)} (ho : okL L) {l : List Nat} {h : Nat} (hg : rgtB (h : Int) l = true) : rootS (h : Int) l l.length (spotsS l h 0).length (leavesS L l) (besideS L (spotsS l h 0)) = nodeS h 0 L := by
  have e : ccB (h : Int) l l.length (spotsS l h 0).length = 0 := by
    unfold ccB
    rw [hg, if_pos rfl, if_pos rfl, Int.toNat_natCast, if_pos rfl]
  have hp : (0 + 1) * 2 ^ h ≤ 4294967296 := by
    have : (2 : Nat) ^ h ≤ 2 ^ 32 := Nat.pow_le_pow_right (by omega) (rgtB_parts hg).1
    omega
  rw [rootS, if_pos e, Int.toNat_natCast]
  exact climb_tree ho h 0 hp (fun q hq => hq)
end Go.Proofs.YtdegmcfcbndelaaDoor

namespace Go.Proofs.YtdegmcfcbndelaaDoor
open Go.RowKit

def h5 : List UInt8 := 5 :: List.replicate 31 0
attribute [irreducible] h5
end Go.Proofs.YtdegmcfcbndelaaDoor

namespace Go.Proofs.YtdegmcfcbndelaaDoor
open Go.RowKit

def h3 : List UInt8 := 3 :: List.replicate 31 0
attribute [irreducible] h3
end Go.Proofs.YtdegmcfcbndelaaDoor
