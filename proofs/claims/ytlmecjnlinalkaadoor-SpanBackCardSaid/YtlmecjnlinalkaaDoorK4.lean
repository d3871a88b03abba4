/-
  Layer 10, the document's side: slices of texts of the call's own; the text that is joined lies in new memory.
  Layer 10, the document's side: spots as values; slices of spots that grow; Spots.
-/
import Derived.Test.YtlmecjnlinalkaaDoorN1
import Derived.Test.YtlmecjnlinalkaaDoorV0
import Derived.Maps.AppendAt
import Derived.Laws.OwnMore
import Derived.Great.BuildSlice
import Derived.Test.YtlmecjnlinalkaaDoorK1
import Derived.Deep.AppendLies
namespace Go.Proofs.YtlmecjnlinalkaaDoor
open Go.RowKit

/-- A slice of texts of the call's own: the texts lie from a block on, and none in the row of the slice. -/
def Apt (W : World) (base : Nat) (v : Value) (ps : List Part) : Prop :=
  W.ownsRow base 113 1 v ps.length (ps.map Part.v) ∧ ∀ p ∈ ps, Rb W W.heap.size p.A p.bs ∧ ∀ k, p.v.ownBlock = some k → base ≤ k ∧ k < W.heap.size ∧ v.ownBlock ≠ some k
section
variable {W W' : World} {base base' : Nat} {v : Value} {ps qs : List Part}
theorem Apt.nil (W : World) (base : Nat) : Apt W base (.slice none 0 0) [] := ⟨World.ownsRow_nil _ _ _ _, fun _ h => nomatch h⟩
theorem Apt.form (h : Apt W base v ps) : ∃ A c, v = .slice A ps.length c := by
  rcases h.1.2 with ⟨h1, h2⟩ | ⟨g, cap, cur, e, -⟩
  · rw [h1, h2]
    exact ⟨_, _, rfl⟩
  · exact ⟨_, _, e⟩
theorem Apt.lt (h : Apt W base v ps) : ∀ k, v.ownBlock = some k → base ≤ k ∧ k < W.heap.size := World.ownsRow.lt h.1
theorem Apt.kept (h : Apt W base v ps) (hb : Below W.heap.size W W') : Apt W' base v ps := by
  refine ⟨⟨h.1.1, ?_⟩, fun p hp => ⟨((h.2 p hp).1.below hb).mono hb.size, fun k hk => ?_⟩⟩
  · rcases h.1.2 with h2 | ⟨g, cap, cur, rfl, hb1, hh, r⟩
    · exact .inl h2
    · exact .inr ⟨g, cap, cur, rfl, hb1, (hb.block g (lt_of_block hh)).trans hh, r⟩
  · have := (h.2 p hp).2 k hk
    exact ⟨this.1, Nat.lt_of_lt_of_le this.2.1 hb.size, this.2.2⟩
theorem Apt.mono (h : Apt W base v ps) (hb : base' ≤ base) : Apt W base' v ps := by
  refine ⟨⟨h.1.1, ?_⟩, fun p hp => ⟨(h.2 p hp).1, fun k hk => ?_⟩⟩
  · rcases h.1.2 with h2 | ⟨g, cap, cur, rfl, hb1, r⟩
    · exact .inl h2
    · exact .inr ⟨g, cap, cur, rfl, Nat.le_trans hb hb1, r⟩
  · have := (h.2 p hp).2 k hk
    exact ⟨Nat.le_trans hb this.1, this.2⟩
/-- What it reads as. -/
theorem Apt.rd {c : Nat} {A : Option Addr} (h : Apt W base (.slice A ps.length c) ps) : Rd W W.heap.size A (ps.map Part.v) := fun hne => by
  rcases h.1.2 with ⟨h1, h2⟩ | ⟨g, cap, cur, e, hb, hh, -⟩
  · refine absurd ?_ hne
    obtain rfl : ps = [] := List.eq_nil_of_length_eq_zero h2
    rfl
  · obtain rfl : A = some ⟨g, 0, none⟩ := by cases e; rfl
    refine ⟨g, 0, rfl, lt_of_block hh, fun j u hu => ?_⟩
    have := World.ownsRow.cells h.1 (g := g) rfl j u hu
    rwa [add_plain] at this
/-- A slice of one text. -/
theorem Apt.lit {B : Nat} {p : Part} (h : Rb W W.heap.size p.A p.bs) (hk : ∀ k, p.v.ownBlock = some k → B ≤ k ∧ k < W.heap.size) (hB : B ≤ W.heap.size) : Apt (W.alloc (.cells #[p.v] 113)) B (.slice (some ⟨W.heap.size, 0, none⟩) 1 1) [p] := by
  refine ⟨World.ownsRow_lit (e := 113) (size := 1) W #[p.v] 1 hB (by unfold maxLen; decide) rfl, fun q hq => ?_⟩
  obtain rfl : q = p := by simpa using hq
  have hb : Below W.heap.size W (W.alloc (.cells #[q.v] 113)) := (Below.refl _ _).alloc (Nat.le_refl _) _
  refine ⟨(h.below hb).mono hb.size, fun k hk' => ?_⟩
  have h1 := hk k hk'
  refine ⟨h1.1, Nat.lt_of_lt_of_le h1.2 hb.size, fun e => ?_⟩
  have : W.heap.size = k := by simpa [Value.ownBlock] using e
  omega
end
end Go.Proofs.YtlmecjnlinalkaaDoor

namespace Go.Proofs.YtlmecjnlinalkaaDoor
open Go.RowKit

/-- A spot's cells; spots one behind the other. -/
def sptV (p : Nat × Nat) : List Value := [.int .i64 (p.1 : Int), .int .u64 (p.2 : Int)]
def sptR (L : List (Nat × Nat)) : List Value := L.flatMap sptV
theorem sptR_append (L M : List (Nat × Nat)) : sptR (L ++ M) = sptR L ++ sptR M := by simp [sptR]
theorem sptR_one (p : Nat × Nat) : sptR [p] = sptV p := by simp [sptR]
theorem sptR_length (L : List (Nat × Nat)) : (sptR L).length = L.length * 2 := by
  induction L with
  | nil => rfl
  | cons p L ih =>
    rw [show sptR (p :: L) = sptV p ++ sptR L from rfl, List.length_append, ih, List.length_cons, show (sptV p).length = 2 from rfl]
    omega
theorem sptR_cells (L : List (Nat × Nat)) : ∀ u ∈ sptR L, u.oneCell' = true := by
  intro u hu
  obtain ⟨p, -, h⟩ := List.mem_flatMap.1 hu
  rcases List.mem_cons.1 h with rfl | h
  · rfl
  · obtain rfl : u = _ := by simpa using h
    rfl
theorem sptR_at {L : List (Nat × Nat)} {k : Nat} (hk : k < L.length) : (sptR L)[2 * k]? = some (.int .i64 ((L[k].1 : Nat) : Int)) ∧ (sptR L)[2 * k + 1]? = some (.int .u64 ((L[k].2 : Nat) : Int)) := by
  have e : sptR L = sptR (L.take k) ++ (sptV L[k] ++ sptR (L.drop (k + 1))) := by
    rw [show sptV L[k] ++ sptR (L.drop (k + 1)) = sptR (L[k] :: L.drop (k + 1)) from rfl, ← sptR_append, List.getElem_cons_drop, List.take_append_drop]
  have hl : (sptR (L.take k)).length = 2 * k := by
    rw [sptR_length, List.length_take]
    omega
  rw [e]
  constructor
  · rw [List.getElem?_append_right (by omega), hl, Nat.sub_self]
    rfl
  · rw [List.getElem?_append_right (by omega), hl, show 2 * k + 1 - 2 * k = 1 by omega]
    rfl
/-- The only part of a literal of one spot. -/
theorem fillSp (p : Nat × Nat) : Instr.fill (fun i => some (i * 2, 2)) ((Array.range (1 * 2)).map ((Value.agg (sptV (0, 0)).toArray).cells[· % (Value.agg (sptV (0, 0)).toArray).cells.size]!)) [(0, .agg (sptV p).toArray)] = some (sptV p).toArray := by
  have h0 : (Array.range (1 * 2)).map ((Value.agg (sptV (0, 0)).toArray).cells[· % (Value.agg (sptV (0, 0)).toArray).cells.size]!) = (sptV (0, 0)).toArray := by kernel_rfl
  rw [h0, fill_step _ 0 0 2 (sptV (0, 0)) (sptV p) _ _ rfl (by simp) rfl (by decide)]
  have := spv_at [] (sptV (0, 0)) [] (sptV p) rfl
  rw [List.append_nil, List.append_nil, List.nil_append, List.nil_append] at this
  rw [show spv (sptV (0, 0)) 0 (sptV p) = sptV p from this]
  rfl
/-- A slice of spots of the call's own. -/
def Asp (W : World) (base : Nat) (v : Value) (L : List (Nat × Nat)) : Prop := W.ownsRow base 123 2 v L.length (sptR L)
theorem Asp.nil (W : World) (base : Nat) : Asp W base (.slice none 0 0) [] := World.ownsRow_nil _ _ _ _
theorem Asp.form {W : World} {base : Nat} {v : Value} {L : List (Nat × Nat)} (h : Asp W base v L) : ∃ A c, v = .slice A L.length c := by
  rcases h.2 with ⟨h1, h2⟩ | ⟨g, cap, cur, e, -⟩
  · rw [h1, h2]
    exact ⟨_, _, rfl⟩
  · exact ⟨_, _, e⟩
theorem Asp.kept {W W' : World} {base : Nat} {v : Value} {L : List (Nat × Nat)} (h : Asp W base v L) (hb : Below W.heap.size W W') : Asp W' base v L := by
  refine ⟨h.1, ?_⟩
  rcases h.2 with h2 | ⟨g, cap, cur, rfl, hb1, hh, r⟩
  · exact .inl h2
  · exact .inr ⟨g, cap, cur, rfl, hb1, (hb.block g (lt_of_block hh)).trans hh, r⟩
theorem Asp.lt {W : World} {base : Nat} {v : Value} {L : List (Nat × Nat)} (h : Asp W base v L) : ∀ k, v.ownBlock = some k → base ≤ k ∧ k < W.heap.size := World.ownsRow.lt h
theorem Asp.mono {W : World} {base base' : Nat} {v : Value} {L : List (Nat × Nat)} (h : Asp W base v L) (hb : base' ≤ base) : Asp W base' v L := by
  refine ⟨h.1, ?_⟩
  rcases h.2 with h2 | ⟨g, cap, cur, rfl, hb1, r⟩
  · exact .inl h2
  · exact .inr ⟨g, cap, cur, rfl, Nat.le_trans hb hb1, r⟩
/-- What it reads as. -/
theorem Asp.rd {W : World} {base c : Nat} {A : Option Addr} {L : List (Nat × Nat)} (h : Asp W base (.slice A L.length c) L) : Rd W W.heap.size A (sptR L) := fun hne => by
  rcases h.2 with ⟨h1, h2⟩ | ⟨g, cap, cur, e, hb, hh, -⟩
  · refine absurd ?_ hne
    obtain rfl : L = [] := List.eq_nil_of_length_eq_zero h2
    rfl
  · obtain rfl : A = some ⟨g, 0, none⟩ := by cases e; rfl
    refine ⟨g, 0, rfl, lt_of_block hh, fun j u hu => ?_⟩
    have := World.ownsRow.cells h (g := g) rfl j u hu
    rwa [add_plain] at this
theorem spotsS_length (l : List Nat) : ∀ k p, (spotsS l k p).length ≤ 2 ^ k
  | 0, p => by
    unfold spotsS
    split <;> simp
  | k + 1, p => by
    unfold spotsS
    split
    · rw [List.length_append, Nat.pow_succ]
      have := spotsS_length l k (2 * p % 18446744073709551616)
      have := spotsS_length l k ((2 * p + 1) % 18446744073709551616)
      omega
    · simp [Nat.one_le_two_pow]
end Go.Proofs.YtlmecjnlinalkaaDoor
