/-
  Layer 10, the program's side: Leaves, of trees of whatever memory.
  Layer 10: a tree's leaves and its proof come to its nodes; how many spots there are. Nothing here walks.
  alive of layer 9, over what the program's trees are to answer.
  Layer 10: alive, over what the program's trees answer; how much is looked at.
-/
import Derived.Test.YtdegmcfcbndelaaDoorK8
import Derived.Test.YtdegmcfcbndelaaDoorZ2
import Derived.Test.YtdegmcfcbndelaaDoorK9
import Derived.Test.YtdegmcfcbndelaaDoorL3
import Derived.Test.YtdegmcfcbndelaaDoorL1
import Derived.Test.YtdegmcfcbndelaaDoorY4
namespace Go.Proofs.YtdegmcfcbndelaaDoor
open Go.RowKit

theorem leavesS_length {L : List (Nat × List UInt8)} (ho : okL L) (l : List Nat) : (leavesS L l).length = 32 * l.length := by
  have key : ∀ j, j ≤ l.length → (leavesS L (l.take j)).length = 32 * j := by
    intro j
    induction j with
    | zero => intro _; rw [leavesS_zero]; rfl
    | succ j ih =>
      intro hj
      rw [leavesS_next L l j (by omega), List.length_append, ih (by omega), nodeS_length _ _ _ ho]
      omega
  have := key l.length (Nat.le_refl _)
  rwa [List.take_length] at this
/-- The first m leaves, and noughts behind them. -/
def lvTo (L : List (Nat × List UInt8)) (l : List Nat) (m : Nat) : List UInt8 := leavesS L (l.take m) ++ List.replicate (32 * (l.length - m)) 0
theorem lvTo_zero (L : List (Nat × List UInt8)) (l : List Nat) : lvTo L l 0 = List.replicate (32 * l.length) 0 := by
  unfold lvTo
  rw [leavesS_zero, List.nil_append, Nat.sub_zero]
theorem lvTo_all (L : List (Nat × List UInt8)) (l : List Nat) : lvTo L l l.length = leavesS L l := by
  unfold lvTo
  rw [List.take_length, Nat.sub_self, Nat.mul_zero, List.replicate_zero, List.append_nil]
theorem lvTo_length {L : List (Nat × List UInt8)} (ho : okL L) (l : List Nat) (m : Nat) (hm : m ≤ l.length) : (lvTo L l m).length = 32 * l.length := by
  rw [lvTo, List.length_append, leavesS_length ho, List.length_replicate, List.length_take]
  omega
theorem lvTo_next {L : List (Nat × List UInt8)} (ho : okL L) (l : List Nat) (m : Nat) (hm : m < l.length) : spl (lvTo L l m) (32 * m) (nodeS 0 l[m] L) = lvTo L l (m + 1) := by
  have h1 : List.replicate (32 * (l.length - m)) (0 : UInt8) = List.replicate 32 0 ++ List.replicate (32 * (l.length - (m + 1))) 0 := by
    rw [List.replicate_append_replicate]
    congr 1
    omega
  have := spl_at (leavesS L (l.take m)) (List.replicate 32 0) (List.replicate (32 * (l.length - (m + 1))) 0) (nodeS 0 l[m] L) (by rw [nodeS_length _ _ _ ho, List.length_replicate])
  rw [leavesS_length ho, List.length_take, Nat.min_eq_left (by omega)] at this
  rw [lvTo, h1, this, lvTo, leavesS_next L l m hm, List.append_assoc]
/-- What holds while leaves are written. -/
structure LqW (Pt : PtT) (S : Nat → Prop) (w : World) (b h : Nat) (L : List (Nat × List UInt8)) (l : List Nat) (D m : Nat) (V : World) : Prop where
  t : Pt S V b h L
  r : At V D (ubs (lvTo L l m)).toArray 25
  lo : w.heap.size ≤ D
  below : Below w.heap.size w V
section
variable {Pt : PtT} {w0 : World}
theorem LqW.new (t : T9c Pt w0) {S : Nat → Prop} {w V V' : World} {b h D m : Nat} {L : List (Nat × List UInt8)} {l : List Nat} (x : LqW Pt S w b h L l D m V) (hb : Below V.heap.size V V') : LqW Pt S w b h L l D m V' :=
  ⟨t.new x.t hb, x.r.new_ hb, x.lo, x.below.trans (hb.mono x.below.size)⟩
theorem LqW.store (t : T9c Pt w0) {S : Nat → Prop} {w V : World} {b h D m : Nat} {L : List (Nat × List UInt8)} {l : List Nat} (x : LqW Pt S w b h L l D m V) (ho : okL L) (hm : m < l.length) (hS : ∀ j, S j → j < w.heap.size) : LqW Pt S w b h L l D (m + 1) (V.setCells D (32 * m) (ubs (nodeS 0 l[m] L))) := by
  have hb : Below D V (V.setCells D (32 * m) (ubs (nodeS 0 l[m] L))) := below_setCells (Below.refl _ _) (Nat.le_refl _) _ _
  refine ⟨t.keep x.t hb.size (KeepsS.of_below hb fun j hj => Nat.lt_of_lt_of_le (hS j hj) x.lo), ?_, x.lo, x.below.trans (hb.mono x.lo)⟩
  have := at_setCells x.r (32 * m) (nodeS 0 l[m] L)
  rwa [lvTo_next ho l m hm] at this
theorem LqW.there {S : Nat → Prop} {w V : World} {b h D m : Nat} {L : List (Nat × List UInt8)} {l : List Nat} (x : LqW Pt S w b h L l D m V) (ho : okL L) (hm : m < l.length) : V.there D (32 * m) 32 := there_at x.r _ _ (by rw [lvTo_length ho l m (by omega)]; omega)
end
end Go.Proofs.YtdegmcfcbndelaaDoor

namespace Go.Proofs.YtdegmcfcbndelaaDoor

theorem besideS_length {L : List (Nat × List UInt8)} (ho : okL L) (s : List (Nat × Nat)) : (besideS L s).length = 32 * s.length := by
  have key : ∀ j, j ≤ s.length → (besideS L (s.take j)).length = 32 * j := by
    intro j
    induction j with
    | zero => intro _; rw [besideS_zero]; rfl
    | succ j ih =>
      intro hj
      rw [besideS_next L s j (by omega), List.length_append, ih (by omega), nodeS_length _ _ _ ho]
      omega
  have := key s.length (Nat.le_refl _)
  rwa [List.take_length] at this
/-- How many spots there are. -/
theorem spots_few {l : List Nat} (hs : l.Pairwise (· < ·)) : ∀ k p, (p + 1) * 2 ^ k ≤ 4294967296 → subI l k p ≠ [] → (spotsS l k p).length ≤ k * (subI l k p).length
  | 0, p, _, h => by
    rw [spotsS_leaf (by simpa [subI_nil] using h)]
    simp
  | k + 1, p, hp, h => by
    have hr := half_room hp
    rw [spotsS_half hp (by simpa [subI_nil] using h), subI_split hs, List.length_append, List.length_append]
    have one : ∀ p', (p' + 1) * 2 ^ k ≤ 4294967296 → (subI l k p' = [] ∧ (spotsS l k p').length = 1) ∨ (0 < (subI l k p').length ∧ (spotsS l k p').length ≤ k * (subI l k p').length) := fun p' hp' => by
      by_cases e : subI l k p' = []
      · refine .inl ⟨e, ?_⟩
        rw [spotsS_out (subI_nil.1 e)]
        rfl
      · exact .inr ⟨List.length_pos_iff.2 e, spots_few hs k p' hp' e⟩
    have hsplit := subI_split hs k p
    have h1 := one (2 * p) hr.1
    have h2 := one (2 * p + 1) hr.2.1
    generalize subI l k (2 * p) = sl at *
    generalize subI l k (2 * p + 1) = sr at *
    have a1 : (k + 1) * sl.length = k * sl.length + sl.length := Nat.succ_mul _ _
    have a2 : (k + 1) * sr.length = k * sr.length + sr.length := Nat.succ_mul _ _
    rw [Nat.mul_add, a1, a2]
    clear a1 a2
    rcases h1 with ⟨e1, e2⟩ | ⟨e1, e2⟩ <;> rcases h2 with ⟨f1, f2⟩ | ⟨f1, f2⟩
    · rw [e1, f1] at hsplit
      exact absurd (by rw [hsplit]; rfl) h
    · rw [e1] at hsplit ⊢
      simp only [List.length_nil]
      omega
    · rw [f1] at hsplit ⊢
      simp only [List.length_nil]
      omega
    · omega
theorem spots_thousand {l : List Nat} {h : Nat} (hg : rgtB (h : Int) l = true) : (spotsS l h 0).length ≤ 8192 := by
  obtain ⟨hh, hne, hlen, hs, hfit⟩ := rgtB_parts hg
  have hp : (0 + 1) * 2 ^ h ≤ 4294967296 := by
    have : (2 : Nat) ^ h ≤ 2 ^ 32 := Nat.pow_le_pow_right (by omega) hh
    omega
  have hsub : subI l h 0 = l := subI_all hfit
  have := spots_few hs h 0 hp (by rw [hsub]; exact hne)
  rw [hsub] at this
  have h2 : h * l.length ≤ 32 * 256 := Nat.mul_le_mul hh hlen
  omega
end Go.Proofs.YtdegmcfcbndelaaDoor

namespace Go.Proofs.YtdegmcfcbndelaaDoor
open Go.RowKit

def h5 : List UInt8 := 5 :: List.replicate 31 0
attribute [irreducible] h5
end Go.Proofs.YtdegmcfcbndelaaDoor

namespace Go.Proofs.YtdegmcfcbndelaaDoor
open Go.RowKit

def h3 : List UInt8 := 3 :: List.replicate 31 0
attribute [irreducible] h3
end Go.Proofs.YtdegmcfcbndelaaDoor
