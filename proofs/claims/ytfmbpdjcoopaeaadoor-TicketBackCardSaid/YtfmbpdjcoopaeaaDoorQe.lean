/-
  Layer 10, the document's side: slices of indices of the call's own: appended to, cut.
-/
import Derived.Test.YtfmbpdjcoopaeaaDoorM4
import Derived.Maps.AppendAt
import Derived.Laws.OwnMore
import Derived.Deep.Upon
import Derived.Deep.AppendLies
import Derived.Great.BuildSlice
namespace Go.Proofs.YtfmbpdjcoopaeaaDoor
open Go.RowKit

theorem infoU : (Tryd.prog.info? 32).map (fun i => (i.zero, i.size, i.bytes)) = some (some (.int .u64 0), 1, 8) := by kernel_rfl
theorem infoU_parts : ∃ i, Tryd.prog.info? 32 = some i ∧ i.zero = some (.int .u64 0) ∧ i.size = 1 ∧ i.bytes = 8 := by
  have := infoU
  cases h : Tryd.prog.info? 32 with
  | none => rw [h] at this; cases this
  | some ie =>
    rw [h] at this
    simp only [Option.map_some, Option.some.injEq, Prod.mk.injEq] at this
    exact ⟨ie, rfl, this.1, this.2.1, this.2.2⟩
/-- A slice of indices of the call's own. -/
def Aun (W : World) (base : Nat) (v : Value) (L : List Nat) : Prop := W.ownsRow base 32 1 v L.length (nus L)
section
variable {W W' : World} {base : Nat} {v : Value} {L : List Nat}
theorem Aun.nil (W : World) (base : Nat) : Aun W base (.slice none 0 0) [] := World.ownsRow_nil _ _ _ _
theorem Aun.form (h : Aun W base v L) : ∃ A c, v = .slice A L.length c := by
  rcases h.2 with ⟨h1, h2⟩ | ⟨g, cap, cur, e, -⟩
  · rw [h1, h2]
    exact ⟨_, _, rfl⟩
  · exact ⟨_, _, e⟩
theorem Aun.kept (h : Aun W base v L) (hb : Below W.heap.size W W') : Aun W' base v L := by
  refine ⟨h.1, ?_⟩
  rcases h.2 with h2 | ⟨g, cap, cur, rfl, hb1, hh, r⟩
  · exact .inl h2
  · exact .inr ⟨g, cap, cur, rfl, hb1, (hb.block g (lt_of_block hh)).trans hh, r⟩
theorem Aun.lt (h : Aun W base v L) : ∀ k, v.ownBlock = some k → base ≤ k ∧ k < W.heap.size := World.ownsRow.lt h
/-- What it reads as. -/
theorem Aun.nu {c : Nat} {A : Option Addr} (h : Aun W base (.slice A L.length c) L) : Nu W W.heap.size A L := fun hne => by
  rcases h.2 with ⟨h1, h2⟩ | ⟨g, cap, cur, e, hb, hh, -⟩
  · refine absurd ?_ hne
    obtain rfl : L = [] := List.eq_nil_of_length_eq_zero h2
    rfl
  · obtain rfl : A = some ⟨g, 0, none⟩ := by cases e; rfl
    refine ⟨g, 0, rfl, lt_of_block hh, fun j u hu => ?_⟩
    have := World.ownsRow.cells h (g := g) rfl j u hu
    rwa [add_plain] at this
/-- Indices that are appended. -/
def SrcU (W : World) (v : Value) (M : List Nat) : Prop := (v = .slice none 0 0 ∧ M = []) ∨ ∃ g o c, v = .slice (some ⟨g, o, none⟩) M.length c ∧ Nu W W.heap.size (some ⟨g, o, none⟩) M
theorem SrcU.new {M : List Nat} (h : SrcU W v M) (hb : Below W.heap.size W W') : SrcU W' v M := by
  rcases h with h | ⟨g, o, c, e, r⟩
  · exact .inl h
  · exact .inr ⟨g, o, c, e, Nu.new r hb⟩
theorem SrcU.cells {g o : Nat} {M : List Nat} (h : Nu W W.heap.size (some ⟨g, o, none⟩) M) : ∀ j u, (nus M)[j]? = some u → W.cell? ((⟨g, o, none⟩ : Addr).add j) = some u := fun j u hu => by
  obtain ⟨g', o', e, -, r⟩ := h (by intro e; rw [e] at hu; cases hu)
  cases e
  have := r j u hu
  rw [add_plain]
  exact this
end
end Go.Proofs.YtfmbpdjcoopaeaaDoor
