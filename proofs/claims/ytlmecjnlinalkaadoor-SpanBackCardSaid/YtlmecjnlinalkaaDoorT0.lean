/-
  What layer 9's laws share: what the program's trees answer, said of one world and all later ones, whatever their memory looks like.
-/
import Derived.Test.YtlmecjnlinalkaaDoorTm
import Derived.Test.YtlmecjnlinalkaaDoorNl0
import Derived.Test.YtlmecjnlinalkaaDoorJ8
import Derived.RangeFuncNested
namespace Go.Proofs.YtlmecjnlinalkaaDoor
open Go.RowKit

/-- A tree's memory: which blocks are its own, in which world, where it lies, its height, its leaves. -/
abbrev PtT := (Nat → Prop) → World → Nat → Nat → List (Nat × List UInt8) → Prop
def ptr (b : Nat) : Value := .pointer (some ⟨b, 0, none⟩)
/-- Leaves that are right for a height. -/
structure Gd (h : Nat) (L : List (Nat × List UInt8)) : Prop where
  hh : h ≤ 32
  ok : okL L
  ord : srt L
  lt : ∀ p ∈ L, p.1 < 2 ^ h
  full : ∀ p ∈ L, p.2 ≠ emptyL 0
/-- Some blocks lie as they lay. -/
def KeepsS (S : Nat → Prop) (A B : World) : Prop := ∀ k, S k → B.heap[k]? = A.heap[k]?
def eB (g : Bool) : Value := errV (if g then 0 else 1)
/-- What the program's trees answer. -/
structure T9c (Pt : PtT) (w0 : World) : Prop where
  inn : ∀ {S W b h L}, Pt S W b h L → ∀ k, S k → w0.heap.size ≤ k ∧ k < W.heap.size
  good : ∀ {S W b h L}, Pt S W b h L → Gd h L
  keep : ∀ {S W W' b h L}, Pt S W b h L → W.heap.size ≤ W'.heap.size → KeepsS S W W' → Pt S W' b h L
  newOk : ∀ (W : World) (h : Nat), Below w0.heap.size w0 W → h ≤ 32 → Calls Tryd.prog 21 #[.int .i64 (h : Int)] W fun r W' => ∃ S b, r = .returned (.tuple #[ptr b, .nilIface]) ∧ Pt S W' b h [] ∧ (∀ k, S k → W.heap.size ≤ k) ∧ Below W.heap.size W W'
  newNo : ∀ (W : World) (h : Int), Below w0.heap.size w0 W → h < 0 ∨ 32 < h → Calls Tryd.prog 21 #[.int .i64 h] W fun r W' => r = .returned (.tuple #[.pointer none, errV 1]) ∧ Below W.heap.size W W'
  setOk : ∀ {S W b h L} (i : Nat) (hs : List UInt8), Below w0.heap.size w0 W → Pt S W b h L → L.length ≤ 1000 → i < 18446744073709551616 → hs.length = 32 →
    Calls Tryd.prog 22 #[ptr b, .int .u64 (i : Int), .agg (ubs hs).toArray] W fun r W' => r = .returned (eB (hasB h 0 i)) ∧ ∃ S', Pt S' W' b h (if hasB h 0 i then setT i hs L else L) ∧ (∀ k, S' k → S k ∨ W.heap.size ≤ k) ∧ Fr S W W'
  dropOk : ∀ {S W b h L} (i : Nat), Below w0.heap.size w0 W → Pt S W b h L → L.length ≤ 1000 → i < 18446744073709551616 →
    Calls Tryd.prog 52 #[ptr b, .int .u64 (i : Int)] W fun r W' => r = .returned (eB (hasB h 0 i)) ∧ ∃ S', Pt S' W' b h (if hasB h 0 i then setT i (emptyL 0) L else L) ∧ (∀ k, S' k → S k ∨ W.heap.size ≤ k) ∧ Fr S W W'
  leafOk : ∀ {S W b h L} (i : Nat), Below w0.heap.size w0 W → Pt S W b h L → L.length ≤ 1000 → i < 18446744073709551616 →
    Calls Tryd.prog 18 #[ptr b, .int .u64 (i : Int)] W fun r W' => r = .returned (.tuple #[.agg (ubs (if hasB h 0 i then nodeS 0 i L else n32)).toArray, eB (hasB h 0 i)]) ∧ Below W.heap.size W W'
  nodeOk : ∀ {S W b h L} (l : Int) (p : Nat), Below w0.heap.size w0 W → Pt S W b h L → L.length ≤ 1000 → p < 18446744073709551616 → -9223372036854775808 ≤ l → l < 9223372036854775808 →
    Calls Tryd.prog 13 #[ptr b, .int .i64 l, .int .u64 (p : Int)] W fun r W' => r = .returned (.tuple #[.agg (ubs (if hasB h l p then nodeS l.toNat p L else n32)).toArray, eB (hasB h l p)]) ∧ Below W.heap.size W W'
  rootOk : ∀ {S W b h L}, Below w0.heap.size w0 W → Pt S W b h L → L.length ≤ 1000 →
    Calls Tryd.prog 23 #[ptr b] W fun r W' => r = .returned (.agg (ubs (nodeS h 0 L)).toArray) ∧ Below W.heap.size W W'
  heightOk : ∀ {S W b h L}, Below w0.heap.size w0 W → Pt S W b h L →
    Calls Tryd.prog 57 #[ptr b] W fun r W' => r = .returned (.int .i64 (h : Int)) ∧ Below W.heap.size W W'
  pathOk : ∀ {S W b h L} (i : Nat), Below w0.heap.size w0 W → Pt S W b h L → L.length ≤ 1000 → i < 18446744073709551616 →
    Calls Tryd.prog 17 #[ptr b, .int .u64 (i : Int)] W fun r W' => ∃ A c, r = .returned (.tuple #[.slice A (if hasB h 0 i then h else 0) c, eB (hasB h 0 i)]) ∧ Rd W' W'.heap.size A (ubs (if hasB h 0 i then pathS L i h else [])) ∧ Below W.heap.size W W'
theorem KeepsS.refl (S : Nat → Prop) (W : World) : KeepsS S W W := fun _ _ => rfl
theorem KeepsS.trans {S : Nat → Prop} {A B C : World} (h : KeepsS S A B) (k : KeepsS S B C) : KeepsS S A C := fun j hj => (k j hj).trans (h j hj)
theorem KeepsS.of_fr {S S' : Nat → Prop} {A B : World} (h : Fr S' A B) (hl : ∀ k, S k → k < A.heap.size) (hn : ∀ k, S k → ¬ S' k) : KeepsS S A B := fun k hk => h.block k (hl k hk) (hn k hk)
theorem KeepsS.of_below {S : Nat → Prop} {A B : World} {m : Nat} (h : Below m A B) (hl : ∀ k, S k → k < m) : KeepsS S A B := fun k hk => h.block k (hl k hk)
section
variable {Pt : PtT} {w0 W W' : World} {S S' : Nat → Prop} {b h : Nat} {L : List (Nat × List UInt8)}
theorem T9c.fr (t : T9c Pt w0) (p : Pt S W b h L) (f : Fr S' W W') (hn : ∀ k, S k → ¬ S' k) : Pt S W' b h L := t.keep p f.size (KeepsS.of_fr f (fun k hk => (t.inn p k hk).2) hn)
theorem T9c.new (t : T9c Pt w0) (p : Pt S W b h L) (f : Below W.heap.size W W') : Pt S W' b h L := t.keep p f.size (KeepsS.of_below f fun k hk => (t.inn p k hk).2)
end
theorem Gd.nil {h : Nat} (hh : h ≤ 32) : Gd h [] := ⟨hh, okL.nil, srt.nil, (fun _ h => nomatch h), (fun _ h => nomatch h)⟩
theorem Gd.set {h : Nat} {L : List (Nat × List UInt8)} (g : Gd h L) {i : Nat} {hs : List UInt8} (hi : hasB h 0 i = true) (hl : hs.length = 32) : Gd h (setT i hs L) := by
  have hi' : i < 2 ^ h := by
    unfold hasB at hi
    simpa using hi
  have hp := pow_le32 g.hh
  refine ⟨g.hh, fun p hp' => ?_, g.ord.setT, fun p hp' => ?_, fun p hp' => ?_⟩
  · rcases mem_setT hp' with h1 | ⟨rfl, -⟩
    · exact g.ok p h1
    · exact ⟨by simp; omega, hl⟩
  · rcases mem_setT hp' with h1 | ⟨rfl, -⟩
    · exact g.lt p h1
    · exact hi'
  · rcases mem_setT hp' with h1 | ⟨rfl, h2⟩
    · exact g.full p h1
    · exact h2
end Go.Proofs.YtlmecjnlinalkaaDoor
