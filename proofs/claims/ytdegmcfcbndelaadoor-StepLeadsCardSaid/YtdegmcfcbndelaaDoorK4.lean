/-
  Layer 10, the document's side: slices of texts of the call's own; the text that is joined lies in new memory.
  Layer 10, the document's side: spots as values; slices of spots that grow; Spots.
  Layer 10, the document's side: climb: a node that is one of the proof's; a leaf.
  Layer 10, the document's side: climb: a leaf.
  Layer 10: the texts and the root that leaves and a proof come to, by definition; slices of texts kept where older memory is written.
  Layer 10: what a walk down to some indices reaches, and what is made of it: nodes beside, leaves, nodes joined; a stack of hashes. Nothing here walks.
  Layer 10: a stack of hashes, fed by what a walk reaches, comes to what the document's climb comes to. Nothing here walks.
-/
import Derived.Test.YtdegmcfcbndelaaDoorN1
import Derived.Test.YtdegmcfcbndelaaDoorV0
import Derived.Maps.AppendAt
import Derived.Laws.OwnMore
import Derived.Great.BuildSlice
import Derived.Test.YtdegmcfcbndelaaDoorK1
import Derived.Deep.AppendLies
import Derived.Test.YtdegmcfcbndelaaDoorL2
namespace Go.Proofs.YtdegmcfcbndelaaDoor
open Go.RowKit

/-- A slice of texts of the call's own: the texts lie from a block on, and none in the row of the slice. -/
def Apt (W : World) (base : Nat) (v : Value) (ps : List Part) : Prop :=
  W.ownsRow base 120 1 v ps.length (ps.map Part.v) ∧ ∀ p ∈ ps, Rb W W.heap.size p.A p.bs ∧ ∀ k, p.v.ownBlock = some k → base ≤ k ∧ k < W.heap.size ∧ v.ownBlock ≠ some k
section
variable {W W' : World} {base base' : Nat} {v : Value} {ps qs : List Part}
theorem Apt.nil (W : World) (base : Nat) : Apt W base (.slice none 0 0) [] := ⟨World.ownsRow_nil _ _ _ _, fun _ h => nomatch h⟩
theorem Apt.form (h : Apt W base v ps) : ∃ A c, v = .slice A ps.length c := by
  rcases h.1.2 with ⟨h1, h2⟩ | ⟨g, cap, cur, e, -⟩
  · rw [h1, h2]
    exact ⟨_, _, rfl⟩
  · exact ⟨_, _, e⟩
theorem Apt.lt (h : Apt W base v ps) : ∀ k, v.ownBlock = some k → base ≤ k ∧ k < W.heap.size := World.ownsRow.lt h.1
theorem Apt.kept (h : Apt W base v ps) (hb : Below W.heap.size W W') : Apt W' base v ps := by
  refine ⟨⟨h.1.1, ?_⟩, fun p hp => ⟨((h.2 p hp).1.below hb).mono hb.size, fun k hk => ?_⟩⟩
  · rcases h.1.2 with h2 | ⟨g, cap, cur, rfl, hb1, hh, r⟩
    · exact .inl h2
    · exact .inr ⟨g, cap, cur, rfl, hb1, (hb.block g (lt_of_block hh)).trans hh, r⟩
  · have := (h.2 p hp).2 k hk
    exact ⟨this.1, Nat.lt_of_lt_of_le this.2.1 hb.size, this.2.2⟩
theorem Apt.mono (h : Apt W base v ps) (hb : base' ≤ base) : Apt W base' v ps := by
  refine ⟨⟨h.1.1, ?_⟩, fun p hp => ⟨(h.2 p hp).1, fun k hk => ?_⟩⟩
  · rcases h.1.2 with h2 | ⟨g, cap, cur, rfl, hb1, r⟩
    · exact .inl h2
    · exact .inr ⟨g, cap, cur, rfl, Nat.le_trans hb hb1, r⟩
  · have := (h.2 p hp).2 k hk
    exact ⟨Nat.le_trans hb this.1, this.2⟩
/-- What it reads as. -/
theorem Apt.rd {c : Nat} {A : Option Addr} (h : Apt W base (.slice A ps.length c) ps) : Rd W W.heap.size A (ps.map Part.v) := fun hne => by
  rcases h.1.2 with ⟨h1, h2⟩ | ⟨g, cap, cur, e, hb, hh, -⟩
  · refine absurd ?_ hne
    obtain rfl : ps = [] := List.eq_nil_of_length_eq_zero h2
    rfl
  · obtain rfl : A = some ⟨g, 0, none⟩ := by cases e; rfl
    refine ⟨g, 0, rfl, lt_of_block hh, fun j u hu => ?_⟩
    have := World.ownsRow.cells h.1 (g := g) rfl j u hu
    rwa [add_plain] at this
/-- A slice of one text. -/
theorem Apt.lit {B : Nat} {p : Part} (h : Rb W W.heap.size p.A p.bs) (hk : ∀ k, p.v.ownBlock = some k → B ≤ k ∧ k < W.heap.size) (hB : B ≤ W.heap.size) : Apt (W.alloc (.cells #[p.v] 120)) B (.slice (some ⟨W.heap.size, 0, none⟩) 1 1) [p] := by
  refine ⟨World.ownsRow_lit (e := 120) (size := 1) W #[p.v] 1 hB (by unfold maxLen; decide) rfl, fun q hq => ?_⟩
  obtain rfl : q = p := by simpa using hq
  have hb : Below W.heap.size W (W.alloc (.cells #[q.v] 120)) := (Below.refl _ _).alloc (Nat.le_refl _) _
  refine ⟨(h.below hb).mono hb.size, fun k hk' => ?_⟩
  have h1 := hk k hk'
  refine ⟨h1.1, Nat.lt_of_lt_of_le h1.2 hb.size, fun e => ?_⟩
  have : W.heap.size = k := by simpa [Value.ownBlock] using e
  omega
end
end Go.Proofs.YtdegmcfcbndelaaDoor

namespace Go.Proofs.YtdegmcfcbndelaaDoor
open Go.RowKit

/-- A spot's cells; spots one behind the other. -/
def sptV (p : Nat × Nat) : List Value := [.int .i64 (p.1 : Int), .int .u64 (p.2 : Int)]
def sptR (L : List (Nat × Nat)) : List Value := L.flatMap sptV
/-- A slice of spots of the call's own. -/
def Asp (W : World) (base : Nat) (v : Value) (L : List (Nat × Nat)) : Prop := W.ownsRow base 130 2 v L.length (sptR L)
theorem Asp.nil (W : World) (base : Nat) : Asp W base (.slice none 0 0) [] := World.ownsRow_nil _ _ _ _
theorem Asp.form {W : World} {base : Nat} {v : Value} {L : List (Nat × Nat)} (h : Asp W base v L) : ∃ A c, v = .slice A L.length c := by
  rcases h.2 with ⟨h1, h2⟩ | ⟨g, cap, cur, e, -⟩
  · rw [h1, h2]
    exact ⟨_, _, rfl⟩
  · exact ⟨_, _, e⟩
theorem Asp.kept {W W' : World} {base : Nat} {v : Value} {L : List (Nat × Nat)} (h : Asp W base v L) (hb : Below W.heap.size W W') : Asp W' base v L := by
  refine ⟨h.1, ?_⟩
  rcases h.2 with h2 | ⟨g, cap, cur, rfl, hb1, hh, r⟩
  · exact .inl h2
  · exact .inr ⟨g, cap, cur, rfl, hb1, (hb.block g (lt_of_block hh)).trans hh, r⟩
theorem Asp.lt {W : World} {base : Nat} {v : Value} {L : List (Nat × Nat)} (h : Asp W base v L) : ∀ k, v.ownBlock = some k → base ≤ k ∧ k < W.heap.size := World.ownsRow.lt h
theorem Asp.mono {W : World} {base base' : Nat} {v : Value} {L : List (Nat × Nat)} (h : Asp W base v L) (hb : base' ≤ base) : Asp W base' v L := by
  refine ⟨h.1, ?_⟩
  rcases h.2 with h2 | ⟨g, cap, cur, rfl, hb1, r⟩
  · exact .inl h2
  · exact .inr ⟨g, cap, cur, rfl, Nat.le_trans hb hb1, r⟩
/-- What it reads as. -/
theorem Asp.rd {W : World} {base c : Nat} {A : Option Addr} {L : List (Nat × Nat)} (h : Asp W base (.slice A L.length c) L) : Rd W W.heap.size A (sptR L) := fun hne => by
  rcases h.2 with ⟨h1, h2⟩ | ⟨g, cap, cur, e, hb, hh, -⟩
  · refine absurd ?_ hne
    obtain rfl : L = [] := List.eq_nil_of_length_eq_zero h2
    rfl
  · obtain rfl : A = some ⟨g, 0, none⟩ := by cases e; rfl
    refine ⟨g, 0, rfl, lt_of_block hh, fun j u hu => ?_⟩
    have := World.ownsRow.cells h (g := g) rfl j u hu
    rwa [add_plain] at this
theorem spotsS_length (l : List Nat) : ∀ k p, (spotsS l k p).length ≤ 2 ^ k
  | 0, p => by
    unfold spotsS
    split <;> simp
  | k + 1, p => by
    unfold spotsS
    split
    · rw [List.length_append, Nat.pow_succ]
      have := spotsS_length l k (2 * p % 18446744073709551616)
      have := spotsS_length l k ((2 * p + 1) % 18446744073709551616)
      omega
    · simp [Nat.one_le_two_pow]
end Go.Proofs.YtdegmcfcbndelaaDoor

namespace Go.Proofs.YtdegmcfcbndelaaDoor
open Go.RowKit

end Go.Proofs.YtdegmcfcbndelaaDoor

namespace Go.Proofs.YtdegmcfcbndelaaDoor
open Go.RowKit

end Go.Proofs.YtdegmcfcbndelaaDoor

namespace Go.Proofs.YtdegmcfcbndelaaDoor
open Go.RowKit

/-- A node's texts and its hash. -/
def climbS (l : List Nat) (lv : List UInt8) (S : List (Nat × Nat)) (bes : List UInt8) : Nat → Nat → List (List UInt8) × List UInt8
  | 0, p => if (0, p) ∈ S then ([], hpart bes (S.idxOf (0, p))) else ([], hpart lv (l.idxOf p))
  | k + 1, p => if (k + 1, p) ∈ S then ([], hpart bes (S.idxOf (k + 1, p))) else
      ((climbS l lv S bes k (2 * p % 18446744073709551616)).1 ++ (climbS l lv S bes k ((2 * p + 1) % 18446744073709551616)).1 ++ [joinT (k + 1) (climbS l lv S bes k (2 * p % 18446744073709551616)).2 (climbS l lv S bes k ((2 * p + 1) % 18446744073709551616)).2],
        hashL (joinT (k + 1) (climbS l lv S bes k (2 * p % 18446744073709551616)).2 (climbS l lv S bes k ((2 * p + 1) % 18446744073709551616)).2))
section
variable {l : List Nat} {lv bes : List UInt8} {S : List (Nat × Nat)}
theorem climbS_spot {k p : Nat} (h : (k, p) ∈ S) : climbS l lv S bes k p = ([], hpart bes (S.idxOf (k, p))) := by cases k <;> simp [climbS, h]
theorem climbS_leaf {p : Nat} (h : (0, p) ∉ S) : climbS l lv S bes 0 p = ([], hpart lv (l.idxOf p)) := by simp [climbS, h]
theorem climbS_step {k p : Nat} (h : (k + 1, p) ∉ S) : climbS l lv S bes (k + 1) p =
    ((climbS l lv S bes k (2 * p % 18446744073709551616)).1 ++ (climbS l lv S bes k ((2 * p + 1) % 18446744073709551616)).1 ++ [joinT (k + 1) (climbS l lv S bes k (2 * p % 18446744073709551616)).2 (climbS l lv S bes k ((2 * p + 1) % 18446744073709551616)).2],
      hashL (joinT (k + 1) (climbS l lv S bes k (2 * p % 18446744073709551616)).2 (climbS l lv S bes k ((2 * p + 1) % 18446744073709551616)).2)) := by simp [climbS, h]
/-- A node that is reached and isn't one of the proof's has an index below. -/
theorem below_of_not {k p : Nat} (hin : ∀ q ∈ spotsS l k p, q ∈ S) (h : (k, p) ∉ S) : belowB l k p = true := by
  cases hb : belowB l k p with
  | true => rfl
  | false =>
    rw [spotsS_out hb] at hin
    exact absurd (hin (k, p) (by simp)) h
theorem leaf_of_not {p : Nat} (hin : ∀ q ∈ spotsS l 0 p, q ∈ S) (h : (0, p) ∉ S) : p ∈ l := by
  have := below_of_not hin h
  unfold belowB at this
  obtain ⟨x, hx, e⟩ := List.any_eq_true.1 this
  have e' : x = p := by simpa using e
  rwa [← e']
theorem spots_left {k p : Nat} (hin : ∀ q ∈ spotsS l (k + 1) p, q ∈ S) (h : (k + 1, p) ∉ S) : (∀ q ∈ spotsS l k (2 * p % 18446744073709551616), q ∈ S) ∧ ∀ q ∈ spotsS l k ((2 * p + 1) % 18446744073709551616), q ∈ S := by
  rw [spotsS_step (below_of_not hin h)] at hin
  exact ⟨fun q hq => hin q (List.mem_append_left _ hq), fun q hq => hin q (List.mem_append_right _ hq)⟩
theorem climbS_root (hlv : lv.length = 32 * l.length) (hbes : bes.length = 32 * S.length) : ∀ k p, (∀ q ∈ spotsS l k p, q ∈ S) → (climbS l lv S bes k p).2.length = 32
  | 0, p, hin => by
    by_cases h : (0, p) ∈ S
    · rw [climbS_spot h]
      exact hpart_length hbes (List.idxOf_lt_length_of_mem h)
    · rw [climbS_leaf h]
      exact hpart_length hlv (List.idxOf_lt_length_of_mem (leaf_of_not hin h))
  | k + 1, p, hin => by
    by_cases h : (k + 1, p) ∈ S
    · rw [climbS_spot h]
      exact hpart_length hbes (List.idxOf_lt_length_of_mem h)
    · rw [climbS_step h]
      exact hashL_length _
end
section
variable {W W' : World} {base g : Nat} {v : Value} {ps : List Part} {A : Option Addr} {bs : List UInt8} {rr : Option Nat}
theorem Rb.grown (h : Rb W W.heap.size A bs) (hg : W.grownBy W' rr) (hne : ∀ b o, A = some ⟨b, o, none⟩ → rr ≠ some b) : Rb W' W'.heap.size A bs := by
  have hfr : Fr (fun k => rr = some k) W W' := (Fr.refl _ W).grown hg (fun k hk => .inr hk)
  exact (Rd.fr h hfr (fun b o e hS => hne b o e hS)).mono hfr.size
theorem Apt.row (h : Apt W base v ps) (hg : g < base) (cs : Array Value) : Apt (W.setRow g cs) base v ps := by
  have hsz : (W.setRow g cs).heap.size = W.heap.size := by simp [World.setRow]
  have hfr : Fr (fun k => k = g) W (W.setRow g cs) := ⟨rfl, rfl, rfl, by rw [hsz]; exact Nat.le_refl _, fun k _ hk => setRow_other W g k cs hk⟩
  refine ⟨⟨h.1.1, ?_⟩, fun p hp => ⟨?_, fun k hk => by rw [hsz]; exact (h.2 p hp).2 k hk⟩⟩
  · rcases h.1.2 with h2 | ⟨g', cap, cur, rfl, hb1, hh, r⟩
    · exact .inl h2
    · exact .inr ⟨g', cap, cur, rfl, hb1, (setRow_other W g g' cs (by omega)).trans hh, r⟩
  · rw [hsz]
    refine Rd.fr (h.2 p hp).1 hfr (fun b o e hS => ?_)
    have := ((h.2 p hp).2 b (by unfold Part.v; rw [e]; rfl)).1
    omega
end
end Go.Proofs.YtdegmcfcbndelaaDoor

namespace Go.Proofs.YtdegmcfcbndelaaDoor

/-- What a walk reaches: 0 a node beside, 1 a leaf, 2 a node that is joined; its level and its place. -/
abbrev Evt := Nat × Nat × Nat
def walkE : Nat → Nat → List Nat → List Evt
  | 0, p, l => if l = [] then [(0, 0, p)] else [(1, 0, p)]
  | k + 1, p, l => if l = [] then [(0, k + 1, p)] else walkE k (2 * p) (l.filter fun x => decide (x < (2 * p + 1) * 2 ^ k)) ++ (walkE k (2 * p + 1) (l.filter fun x => !decide (x < (2 * p + 1) * 2 ^ k)) ++ [(2, k + 1, p)])
theorem walkE_nil (k p : Nat) : walkE k p [] = [(0, k, p)] := by cases k <;> simp [walkE]
theorem walkE_leaf {p : Nat} {l : List Nat} (h : l ≠ []) : walkE 0 p l = [(1, 0, p)] := by simp [walkE, h]
theorem walkE_step {k p : Nat} {l : List Nat} (h : l ≠ []) : walkE (k + 1) p l = walkE k (2 * p) (l.filter fun x => decide (x < (2 * p + 1) * 2 ^ k)) ++ (walkE k (2 * p + 1) (l.filter fun x => !decide (x < (2 * p + 1) * 2 ^ k)) ++ [(2, k + 1, p)]) := by simp [walkE, h]
attribute [irreducible] walkE
/-- The indices below a node. -/
def subI (l : List Nat) (k p : Nat) : List Nat := l.filter fun x => x >>> k == p
theorem subI_nil {l : List Nat} {k p : Nat} : subI l k p = [] ↔ belowB l k p = false := by
  unfold subI belowB
  rw [List.filter_eq_nil_iff, List.any_eq_false]
theorem shr_step (x k p : Nat) : (x >>> (k + 1) = p ∧ x < (2 * p + 1) * 2 ^ k ↔ x >>> k = 2 * p) ∧ (x >>> (k + 1) = p ∧ ¬ x < (2 * p + 1) * 2 ^ k ↔ x >>> k = 2 * p + 1) := by
  have h1 : x >>> (k + 1) = (x >>> k) / 2 := by rw [Nat.shiftRight_succ]
  have h2 : x < (2 * p + 1) * 2 ^ k ↔ x >>> k < 2 * p + 1 := by
    rw [Nat.shiftRight_eq_div_pow, Nat.div_lt_iff_lt_mul (Nat.two_pow_pos k)]
  rw [h1, h2]
  generalize x >>> k = y
  omega
theorem subI_left (l : List Nat) (k p : Nat) : (subI l (k + 1) p).filter (fun x => decide (x < (2 * p + 1) * 2 ^ k)) = subI l k (2 * p) := by
  unfold subI
  rw [List.filter_filter]
  refine List.filter_congr fun x _ => ?_
  have h := (shr_step x k p).1
  rw [Bool.eq_iff_iff]
  simp only [Bool.and_eq_true, decide_eq_true_eq, beq_iff_eq]
  rw [← h]
  exact And.comm
theorem subI_right (l : List Nat) (k p : Nat) : (subI l (k + 1) p).filter (fun x => !decide (x < (2 * p + 1) * 2 ^ k)) = subI l k (2 * p + 1) := by
  unfold subI
  rw [List.filter_filter]
  refine List.filter_congr fun x _ => ?_
  have h := (shr_step x k p).2
  rw [Bool.eq_iff_iff]
  simp only [Bool.and_eq_true, Bool.not_eq_true', decide_eq_false_iff_not, beq_iff_eq]
  rw [← h]
  exact And.comm
theorem pairwise_lt_ext {a b : List Nat} (ha : a.Pairwise (· < ·)) (hb : b.Pairwise (· < ·)) (h : ∀ x, x ∈ a ↔ x ∈ b) : a = b := by
  induction a generalizing b with
  | nil =>
    cases b with
    | nil => rfl
    | cons y b => exact absurd ((h y).2 (by simp)) (by simp)
  | cons x a ih =>
    cases b with
    | nil => exact absurd ((h x).1 (by simp)) (by simp)
    | cons y b =>
      obtain ⟨h1, h2⟩ := List.pairwise_cons.1 ha
      obtain ⟨h3, h4⟩ := List.pairwise_cons.1 hb
      have e : x = y := by
        rcases List.mem_cons.1 ((h x).1 (by simp)) with e | e
        · exact e
        · rcases List.mem_cons.1 ((h y).2 (by simp)) with f | f
          · exact f.symm
          · have := h1 y f
            have := h3 x e
            omega
      subst e
      rw [ih h2 h4 fun z => ?_]
      constructor
      · intro hz
        rcases List.mem_cons.1 ((h z).1 (by simp [hz])) with e | e
        · subst e; have := h1 z hz; omega
        · exact e
      · intro hz
        rcases List.mem_cons.1 ((h z).2 (by simp [hz])) with e | e
        · subst e; have := h3 z hz; omega
        · exact e
theorem subI_split {l : List Nat} (hs : l.Pairwise (· < ·)) (k p : Nat) : subI l (k + 1) p = subI l k (2 * p) ++ subI l k (2 * p + 1) := by
  refine pairwise_lt_ext (hs.filter _) (List.pairwise_append.2 ⟨hs.filter _, hs.filter _, fun a ha b hb => ?_⟩) fun x => ?_
  · have h1 : a >>> k = 2 * p := by simpa using (List.mem_filter.1 ha).2
    have h2 : b >>> k = 2 * p + 1 := by simpa using (List.mem_filter.1 hb).2
    have h3 := ((shr_step a k p).1.2 h1).2
    have h4 := ((shr_step b k p).2.2 h2).2
    omega
  · unfold subI
    rw [List.mem_append, List.mem_filter, List.mem_filter, List.mem_filter, ← and_or_left]
    refine and_congr_right fun _ => ?_
    have h1 : x >>> (k + 1) = (x >>> k) / 2 := by rw [Nat.shiftRight_succ]
    simp only [beq_iff_eq, h1]
    omega
theorem subI_leaf {l : List Nat} (hs : l.Pairwise (· < ·)) {p : Nat} (h : subI l 0 p ≠ []) : subI l 0 p = [p] := by
  refine pairwise_lt_ext (hs.filter _) (by simp) fun x => ?_
  obtain ⟨y, hy⟩ := List.exists_mem_of_ne_nil _ h
  have h1 := List.mem_filter.1 hy
  have h2 : y = p := by simpa using h1.2
  constructor
  · intro hx
    have := (List.mem_filter.1 hx).2
    simpa using this
  · intro hx
    have e : x = p := by simpa using hx
    rw [e, ← h2]
    rw [← h2] at hy
    exact hy
theorem subI_all {l : List Nat} {h : Nat} (hl : ∀ x ∈ l, x < 2 ^ h) : subI l h 0 = l := by
  unfold subI
  refine List.filter_eq_self.2 fun x hx => ?_
  have := hl x hx
  rw [Nat.shiftRight_eq_div_pow, Nat.div_eq_of_lt this]
  rfl
/-- The nodes beside, and the leaves, among what is reached. -/
def asides (E : List Evt) : List (Nat × Nat) := (E.filter fun e => e.1 == 0).map (·.2)
def leafs (E : List Evt) : List Nat := (E.filter fun e => e.1 == 1).map (·.2.2)
theorem asides_append (E F : List Evt) : asides (E ++ F) = asides E ++ asides F := by simp [asides]
theorem leafs_append (E F : List Evt) : leafs (E ++ F) = leafs E ++ leafs F := by simp [leafs]
theorem mod64 {n : Nat} (h : n < 18446744073709551616) : n % 18446744073709551616 = n := Nat.mod_eq_of_lt h
theorem walk_asides (l : List Nat) : ∀ k p, (p + 1) * 2 ^ k ≤ 4294967296 → asides (walkE k p (subI l k p)) = spotsS l k p
  | 0, p, _ => by
    by_cases h : subI l 0 p = []
    · rw [h, walkE_nil, spotsS_out (subI_nil.1 h)]; rfl
    · rw [walkE_leaf h, spotsS_leaf (by simpa [subI_nil] using h)]; rfl
  | k + 1, p, hp => by
    by_cases h : subI l (k + 1) p = []
    · rw [h, walkE_nil, spotsS_out (subI_nil.1 h)]; rfl
    · have h1 : (2 * p + 1 + 1) * 2 ^ k ≤ 4294967296 := by rw [Nat.pow_succ] at hp; rw [show (2 * p + 1 + 1) * 2 ^ k = (p + 1) * (2 ^ k * 2) by rw [show 2 * p + 1 + 1 = 2 * (p + 1) by omega, Nat.mul_comm 2 (p + 1), Nat.mul_assoc, Nat.mul_comm 2]]; exact hp
      have h2 : (2 * p + 1) * 2 ^ k ≤ 4294967296 := Nat.le_trans (Nat.mul_le_mul_right _ (by omega)) h1
      have h3 : 2 * p + 1 + 1 ≤ 4294967296 := Nat.le_trans (Nat.le_mul_of_pos_right _ (Nat.two_pow_pos k)) h1
      rw [walkE_step h, subI_left, subI_right, asides_append, asides_append, walk_asides l k _ h2, walk_asides l k _ h1, spotsS_step (by simpa [subI_nil] using h), mod64 (by omega), mod64 (by omega)]
      simp [asides]
theorem walk_leafs {l : List Nat} (hs : l.Pairwise (· < ·)) : ∀ k p, leafs (walkE k p (subI l k p)) = subI l k p
  | 0, p => by
    by_cases h : subI l 0 p = []
    · rw [h, walkE_nil]; rfl
    · rw [walkE_leaf h, subI_leaf hs h]; rfl
  | k + 1, p => by
    by_cases h : subI l (k + 1) p = []
    · rw [h, walkE_nil]; rfl
    · rw [walkE_step h, subI_left, subI_right, leafs_append, leafs_append, walk_leafs hs, walk_leafs hs, subI_split hs]
      simp [leafs]
/-- How many hashes what is reached leaves on the stack. -/
def netE : List Evt → Int
  | [] => 0
  | e :: E => (if e.1 = 0 ∨ e.1 = 1 then 1 else -1) + netE E
theorem netE_append (E F : List Evt) : netE (E ++ F) = netE E + netE F := by
  induction E with
  | nil => simp [netE]
  | cons e E ih => simp only [List.cons_append, netE, ih]; omega
theorem walk_net : ∀ k p l, netE (walkE k p l) = 1
  | 0, p, l => by
    by_cases h : l = []
    · rw [h, walkE_nil]; rfl
    · rw [walkE_leaf h]; rfl
  | k + 1, p, l => by
    by_cases h : l = []
    · rw [h, walkE_nil]; rfl
    · rw [walkE_step h, netE_append, netE_append, walk_net, walk_net]; rfl
/-- What is reached is of three kinds; where a node is joined there are two hashes. -/
theorem split_append {α : Type} {A B pre post : List α} {e : α} (h : A ++ B = pre ++ e :: post) : (∃ q, A = pre ++ e :: q) ∨ ∃ q, pre = A ++ q ∧ B = q ++ e :: post := by
  rcases List.append_eq_append_iff.1 h with ⟨q, h1, h2⟩ | ⟨q, h1, h2⟩
  · exact .inr ⟨q, h1, h2⟩
  · cases q with
    | nil => exact .inr ⟨[], by simpa using h1.symm, by simpa using h2.symm⟩
    | cons c q =>
      injection h2 with h3 h4
      subst h3
      exact .inl ⟨q, h1⟩
theorem walk_join : ∀ k p l (pre : List Evt) (e : Evt) (post : List Evt), walkE k p l = pre ++ e :: post → e.1 = 0 ∨ e.1 = 1 ∨ (e.1 = 2 ∧ 2 ≤ netE pre)
  | 0, p, l, pre, e, post, h => by
    by_cases hl : l = []
    · rw [hl, walkE_nil] at h
      cases pre with
      | nil => injection h with h1 h2; subst h1; exact .inl rfl
      | cons a pre => injection h with h1 h2; cases pre <;> cases h2
    · rw [walkE_leaf hl] at h
      cases pre with
      | nil => injection h with h1 h2; subst h1; exact .inr (.inl rfl)
      | cons a pre => injection h with h1 h2; cases pre <;> cases h2
  | k + 1, p, l, pre, e, post, h => by
    by_cases hl : l = []
    · rw [hl, walkE_nil] at h
      cases pre with
      | nil => injection h with h1 h2; subst h1; exact .inl rfl
      | cons a pre => injection h with h1 h2; cases pre <;> cases h2
    · rw [walkE_step hl] at h
      rcases split_append h with ⟨q, h1⟩ | ⟨q, rfl, h1⟩
      · exact walk_join k _ _ pre e q h1
      · rcases split_append h1 with ⟨q2, h2⟩ | ⟨q2, rfl, h2⟩
        · rcases walk_join k _ _ q e q2 h2 with h3 | h3 | ⟨h3, h4⟩
          · exact .inl h3
          · exact .inr (.inl h3)
          · exact .inr (.inr ⟨h3, by rw [netE_append, walk_net]; omega⟩)
        · cases q2 with
          | nil =>
            injection h2 with h3 h4
            subst h3
            exact .inr (.inr ⟨rfl, by rw [netE_append, netE_append, walk_net, walk_net]; decide⟩)
          | cons a q2 => injection h2 with h3 h4; cases q2 <;> cases h4
end Go.Proofs.YtdegmcfcbndelaaDoor

namespace Go.Proofs.YtdegmcfcbndelaaDoor

/-- A stack of hashes, the texts that were joined, how many nodes beside and leaves were taken. -/
structure Mst where
  st : List (List UInt8)
  tx : List (List UInt8)
  a : Nat
  b : Nat
def joinM (k : Nat) (st : List (List UInt8)) : List UInt8 := joinT k (st.getD (st.length - 2) []) (st.getD (st.length - 2 + 1) [])
def stepM (lv bes : List UInt8) (M : Mst) (e : Evt) : Mst :=
  if e.1 = 0 then ⟨M.st ++ [hpart bes M.a], M.tx, M.a + 1, M.b⟩
  else if e.1 = 1 then ⟨M.st ++ [hpart lv M.b], M.tx, M.a, M.b + 1⟩
  else ⟨M.st.take (M.st.length - 2) ++ [hashL (joinM e.2.1 M.st)], M.tx ++ [joinM e.2.1 M.st], M.a, M.b⟩
def runM (lv bes : List UInt8) (E : List Evt) : Mst := E.foldl (stepM lv bes) ⟨[], [], 0, 0⟩
theorem runM_nil (lv bes : List UInt8) : runM lv bes [] = ⟨[], [], 0, 0⟩ := rfl
theorem runM_snoc (lv bes : List UInt8) (E : List Evt) (e : Evt) : runM lv bes (E ++ [e]) = stepM lv bes (runM lv bes E) e := by
  unfold runM
  rw [List.foldl_append]
  rfl
theorem stepM_aside (lv bes : List UInt8) (M : Mst) (k p : Nat) : stepM lv bes M (0, k, p) = ⟨M.st ++ [hpart bes M.a], M.tx, M.a + 1, M.b⟩ := rfl
theorem stepM_leaf (lv bes : List UInt8) (M : Mst) (k p : Nat) : stepM lv bes M (1, k, p) = ⟨M.st ++ [hpart lv M.b], M.tx, M.a, M.b + 1⟩ := rfl
theorem stepM_join (lv bes : List UInt8) (M : Mst) (k p : Nat) : stepM lv bes M (2, k, p) = ⟨M.st.take (M.st.length - 2) ++ [hashL (joinM k M.st)], M.tx ++ [joinM k M.st], M.a, M.b⟩ := rfl
theorem joinM_two (k : Nat) (st : List (List UInt8)) (x y : List UInt8) : joinM k (st ++ [x] ++ [y]) = joinT k x y ∧ (st ++ [x] ++ [y]).take ((st ++ [x] ++ [y]).length - 2) = st := by
  have e : (st ++ [x] ++ [y]).length - 2 = st.length := by simp
  unfold joinM
  rw [e]
  constructor
  · congr 1
    · rw [List.getD_eq_getElem?_getD, List.append_assoc, List.getElem?_append_right (Nat.le_refl _), Nat.sub_self]; rfl
    · rw [List.getD_eq_getElem?_getD, List.append_assoc, List.getElem?_append_right (by omega), Nat.add_sub_cancel_left]; rfl
  · rw [List.append_assoc, List.take_left']
    rfl
theorem rev_ind {α : Type} {P : List α → Prop} (h0 : P []) (h1 : ∀ l a, P l → P (l ++ [a])) (l : List α) : P l := by
  have : ∀ r : List α, P r.reverse := by
    intro r
    induction r with
    | nil => exact h0
    | cons a r ih => rw [List.reverse_cons]; exact h1 _ _ ih
  have := this l.reverse
  rwa [List.reverse_reverse] at this
/-- What a stack holds. -/
theorem runM_ab (lv bes : List UInt8) : ∀ E : List Evt, (∀ e ∈ E, e.1 = 0 ∨ e.1 = 1 ∨ e.1 = 2) → (runM lv bes E).a = (asides E).length ∧ (runM lv bes E).b = (leafs E).length := by
  refine rev_ind (fun _ => ⟨rfl, rfl⟩) fun E e ih h => ?_
  obtain ⟨h1, h2⟩ := ih fun x hx => h x (by simp [hx])
  obtain ⟨w, k, p⟩ := e
  rw [runM_snoc, asides_append, leafs_append, List.length_append, List.length_append]
  rcases h (w, k, p) (by simp) with h3 | h3 | h3
  · obtain rfl : w = 0 := h3
    rw [stepM_aside]; exact ⟨by rw [h1]; rfl, by rw [h2]; rfl⟩
  · obtain rfl : w = 1 := h3
    rw [stepM_leaf]; exact ⟨by rw [h1]; rfl, by rw [h2]; rfl⟩
  · obtain rfl : w = 2 := h3
    rw [stepM_join]; exact ⟨by rw [h1]; rfl, by rw [h2]; rfl⟩
/-- A walk's beginning is such that two hashes lie there where two are joined. -/
def okE (E : List Evt) : Prop := ∀ (pre : List Evt) (e : Evt) (post : List Evt), E = pre ++ e :: post → e.1 = 0 ∨ e.1 = 1 ∨ (e.1 = 2 ∧ 2 ≤ netE pre)
theorem okE_walk (k p : Nat) (l : List Nat) : okE (walkE k p l) := fun pre e post h => walk_join k p l pre e post h
theorem okE.left {E F : List Evt} (h : okE (E ++ F)) : okE E := fun pre e post he => h pre e (post ++ F) (by rw [he]; simp)
theorem okE.kinds {E : List Evt} (h : okE E) : ∀ e ∈ E, e.1 = 0 ∨ e.1 = 1 ∨ e.1 = 2 := fun e he => by
  obtain ⟨pre, post, hp⟩ := List.append_of_mem he
  rcases h pre e post hp with h1 | h1 | ⟨h1, -⟩
  · exact .inl h1
  · exact .inr (.inl h1)
  · exact .inr (.inr h1)
theorem runM_net (lv bes : List UInt8) : ∀ E : List Evt, okE E → ((runM lv bes E).st.length : Int) = netE E := by
  refine rev_ind (fun _ => rfl) fun E e ih h => ?_
  have h1 := ih h.left
  have h2 := h E e [] (by simp)
  obtain ⟨w, k, p⟩ := e
  rw [runM_snoc, netE_append]
  rcases h2 with h3 | h3 | ⟨h3, h4⟩
  · obtain rfl : w = 0 := h3
    rw [stepM_aside, List.length_append]
    simp only [List.length_cons, List.length_nil, netE]
    simp
    omega
  · obtain rfl : w = 1 := h3
    rw [stepM_leaf, List.length_append]
    simp only [List.length_cons, List.length_nil, netE]
    simp
    omega
  · obtain rfl : w = 2 := h3
    rw [stepM_join, List.length_append, List.length_take]
    simp only [List.length_cons, List.length_nil, netE]
    simp
    omega
/-- The spots of a proof: none has an index below it; each is below the node; no two are one. -/
theorem spotsS_below (l : List Nat) : ∀ k p, ∀ q ∈ spotsS l k p, belowB l q.1 q.2 = false
  | 0, p, q, hq => by
    cases h : belowB l 0 p with
    | true => rw [spotsS_leaf h] at hq; cases hq
    | false => rw [spotsS_out h] at hq; (obtain rfl : q = (0, p) := by simpa using hq); exact h
  | k + 1, p, q, hq => by
    cases h : belowB l (k + 1) p with
    | true =>
      rw [spotsS_step h] at hq
      rcases List.mem_append.1 hq with hq | hq
      · exact spotsS_below l k _ q hq
      · exact spotsS_below l k _ q hq
    | false => rw [spotsS_out h] at hq; (obtain rfl : q = (k + 1, p) := by simpa using hq); exact h
theorem half_room {k p : Nat} (hp : (p + 1) * 2 ^ (k + 1) ≤ 4294967296) : (2 * p + 1) * 2 ^ k ≤ 4294967296 ∧ (2 * p + 1 + 1) * 2 ^ k ≤ 4294967296 ∧ 2 * p + 1 + 1 ≤ 4294967296 := by
  have h1 : (2 * p + 1 + 1) * 2 ^ k ≤ 4294967296 := by rw [Nat.pow_succ] at hp; rw [show (2 * p + 1 + 1) * 2 ^ k = (p + 1) * (2 ^ k * 2) by rw [show 2 * p + 1 + 1 = 2 * (p + 1) by omega, Nat.mul_comm 2 (p + 1), Nat.mul_assoc, Nat.mul_comm 2]]; exact hp
  exact ⟨Nat.le_trans (Nat.mul_le_mul_right _ (by omega)) h1, h1, Nat.le_trans (Nat.le_mul_of_pos_right _ (Nat.two_pow_pos k)) h1⟩
theorem spotsS_half {l : List Nat} {k p : Nat} (hp : (p + 1) * 2 ^ (k + 1) ≤ 4294967296) (h : belowB l (k + 1) p = true) : spotsS l (k + 1) p = spotsS l k (2 * p) ++ spotsS l k (2 * p + 1) := by
  have := (half_room hp).2.2
  rw [spotsS_step h, mod64 (by omega), mod64 (by omega)]
theorem spotsS_under (l : List Nat) : ∀ k p, (p + 1) * 2 ^ k ≤ 4294967296 → ∀ q ∈ spotsS l k p, q.1 ≤ k ∧ q.2 >>> (k - q.1) = p
  | 0, p, _, q, hq => by
    cases h : belowB l 0 p with
    | true => rw [spotsS_leaf h] at hq; cases hq
    | false => rw [spotsS_out h] at hq; (obtain rfl : q = (0, p) := by simpa using hq); exact ⟨Nat.le_refl _, rfl⟩
  | k + 1, p, hp, q, hq => by
    cases h : belowB l (k + 1) p with
    | false => rw [spotsS_out h] at hq; (obtain rfl : q = (k + 1, p) := by simpa using hq); exact ⟨Nat.le_refl _, by simp⟩
    | true =>
      rw [spotsS_half hp h] at hq
      have hr := half_room hp
      have step : ∀ p', q.1 ≤ k → q.2 >>> (k - q.1) = p' → q.2 >>> (k + 1 - q.1) = p' / 2 := fun p' h1 h2 => by
        rw [show k + 1 - q.1 = (k - q.1) + 1 by omega, Nat.shiftRight_succ, h2]
      rcases List.mem_append.1 hq with hq | hq
      · obtain ⟨h1, h2⟩ := spotsS_under l k _ hr.1 q hq
        exact ⟨by omega, by rw [step _ h1 h2]; omega⟩
      · obtain ⟨h1, h2⟩ := spotsS_under l k _ hr.2.1 q hq
        exact ⟨by omega, by rw [step _ h1 h2]; omega⟩
theorem spotsS_nodup (l : List Nat) : ∀ k p, (p + 1) * 2 ^ k ≤ 4294967296 → (spotsS l k p).Nodup
  | 0, p, _ => by
    cases h : belowB l 0 p with
    | true => rw [spotsS_leaf h]; exact List.nodup_nil
    | false => rw [spotsS_out h]; simp
  | k + 1, p, hp => by
    cases h : belowB l (k + 1) p with
    | false => rw [spotsS_out h]; simp
    | true =>
      have hr := half_room hp
      rw [spotsS_half hp h]
      refine List.nodup_append.2 ⟨spotsS_nodup l k _ hr.1, spotsS_nodup l k _ hr.2.1, fun a ha b hb e => ?_⟩
      subst e
      have h1 := (spotsS_under l k _ hr.1 a ha).2
      have h2 := (spotsS_under l k _ hr.2.1 a hb).2
      omega
theorem idxOf_mid {α : Type} [BEq α] [LawfulBEq α] {A R : List α} {x : α} (h : x ∉ A) : (A ++ x :: R).idxOf x = A.length := by
  induction A with
  | nil => rw [List.nil_append, List.idxOf_cons_self]; rfl
  | cons a A ih =>
    have h1 : a ≠ x := fun e => h (by simp [e])
    have h2 : (a == x) = false := by simpa using h1
    rw [List.cons_append, List.idxOf_cons, h2, ih (fun hx => h (by simp [hx]))]
    rfl
theorem not_before {α : Type} {A R : List α} {x : α} (h : (A ++ x :: R).Nodup) : x ∉ A := fun hx => (List.nodup_append.1 h).2.2 x hx x (by simp) rfl
/-- The stack comes to what climb comes to. -/
theorem run_climb {l : List Nat} (hs : l.Pairwise (· < ·)) {S : List (Nat × Nat)} (hS : S.Nodup) (hB : ∀ q ∈ S, belowB l q.1 q.2 = false) (lv bes : List UInt8) : ∀ (k p : Nat) (M : Mst) (A R : List (Nat × Nat)) (A' R' : List Nat), (p + 1) * 2 ^ k ≤ 4294967296 →
    S = A ++ (spotsS l k p ++ R) → M.a = A.length → l = A' ++ (subI l k p ++ R') → M.b = A'.length →
    (walkE k p (subI l k p)).foldl (stepM lv bes) M = ⟨M.st ++ [(climbS l lv S bes k p).2], M.tx ++ (climbS l lv S bes k p).1, M.a + (spotsS l k p).length, M.b + (subI l k p).length⟩
  | 0, p, M, A, R, A', R', _, hA, ha, hA', hb => by
    by_cases h : subI l 0 p = []
    · have hbl := subI_nil.1 h
      rw [h, walkE_nil, spotsS_out hbl]
      rw [spotsS_out hbl] at hA
      have hm : (0, p) ∈ S := by rw [hA]; simp
      have hi : S.idxOf (0, p) = A.length := by
        rw [hA]
        exact idxOf_mid (not_before (R := R) (by rw [hA] at hS; exact hS))
      rw [climbS_spot hm, hi, List.foldl_cons, List.foldl_nil, stepM_aside, ha]
      simp
    · have hbl : belowB l 0 p = true := by simpa [subI_nil] using h
      rw [walkE_leaf h, subI_leaf hs h, spotsS_leaf hbl]
      rw [subI_leaf hs h] at hA'
      have hm : (0, p) ∉ S := fun hm => by have := hB _ hm; rw [hbl] at this; cases this
      have hi : l.idxOf p = A'.length := by
        have hn : l.Nodup := hs.imp (fun h => Nat.ne_of_lt h)
        rw [hA'] at hn ⊢
        exact idxOf_mid (not_before (R := R') hn)
      rw [climbS_leaf hm, hi, List.foldl_cons, List.foldl_nil, stepM_leaf, hb]
      simp
  | k + 1, p, M, A, R, A', R', hp, hA, ha, hA', hb => by
    by_cases h : subI l (k + 1) p = []
    · have hbl := subI_nil.1 h
      rw [h, walkE_nil, spotsS_out hbl]
      rw [spotsS_out hbl] at hA
      have hm : (k + 1, p) ∈ S := by rw [hA]; simp
      have hi : S.idxOf (k + 1, p) = A.length := by
        rw [hA]
        exact idxOf_mid (not_before (R := R) (by rw [hA] at hS; exact hS))
      rw [climbS_spot hm, hi, List.foldl_cons, List.foldl_nil, stepM_aside, ha]
      simp
    · have hbl : belowB l (k + 1) p = true := by simpa [subI_nil] using h
      have hr := half_room hp
      have hm : (k + 1, p) ∉ S := fun hm => by have := hB _ hm; rw [hbl] at this; cases this
      rw [spotsS_half hp hbl] at hA
      rw [subI_split hs] at hA'
      rw [climbS_step hm, mod64 (by omega), mod64 (by omega), walkE_step h, subI_left, subI_right, List.foldl_append, List.foldl_append,
        run_climb hs hS hB lv bes k (2 * p) M A (spotsS l k (2 * p + 1) ++ R) A' (subI l k (2 * p + 1) ++ R') hr.1 (by rw [hA]; simp) ha (by rw [← List.append_assoc (subI l k (2 * p))]; exact hA') hb,
        run_climb hs hS hB lv bes k (2 * p + 1) _ (A ++ spotsS l k (2 * p)) R (A' ++ subI l k (2 * p)) R' hr.2.1 (by rw [hA]; simp) (by simp [ha]) (by rw [List.append_assoc, ← List.append_assoc (subI l k (2 * p))]; exact hA') (by simp [hb])]
      obtain ⟨h1, h2⟩ := joinM_two (k + 1) M.st (climbS l lv S bes k (2 * p)).2 (climbS l lv S bes k (2 * p + 1)).2
      rw [List.foldl_cons, List.foldl_nil, stepM_join]
      dsimp only
      rw [h1, h2, spotsS_half hp hbl, subI_split hs]
      simp only [List.length_append, List.append_assoc, Nat.add_assoc]
/-- The whole walk, from the root. -/
theorem run_root {l : List Nat} (hs : l.Pairwise (· < ·)) {h : Nat} (hh : h ≤ 32) (hl : ∀ x ∈ l, x < 2 ^ h) (lv bes : List UInt8) :
    runM lv bes (walkE h 0 l) = ⟨[(climbS l lv (spotsS l h 0) bes h 0).2], (climbS l lv (spotsS l h 0) bes h 0).1, (spotsS l h 0).length, l.length⟩ := by
  have hp : (0 + 1) * 2 ^ h ≤ 4294967296 := by
    have : (2 : Nat) ^ h ≤ 2 ^ 32 := Nat.pow_le_pow_right (by omega) hh
    omega
  have := run_climb hs (spotsS_nodup l h 0 hp) (spotsS_below l h 0) lv bes h 0 ⟨[], [], 0, 0⟩ [] [] [] [] hp (by simp) rfl (by rw [subI_all hl]; simp) rfl
  rw [subI_all hl] at this
  unfold runM
  rw [this]
  simp
end Go.Proofs.YtdegmcfcbndelaaDoor
