/-
  ProofRoots of layer 10.
-/
import Derived.Test.YthkbmpocfpbkoaaDoorK9
import Derived.Test.YthkbmpocfpbkoaaDoorJ2
import Derived.Test.YthkbmpocfpbkoaaDoorJ3
import Derived.Test.YthkbmpocfpbkoaaDoorY1
import Derived.Test.YthkbmpocfpbkoaaDoorNg
namespace Go.Proofs.YthkbmpocfpbkoaaDoor
open Go.RowKit

/-- A slice of texts that are read. -/
def Trd (V : World) (A : Option Addr) (ts : List (List UInt8)) : Prop := ∃ ps : List Part, ps.map (·.bs) = ts ∧ Rd V V.heap.size A (ps.map Part.v) ∧ ∀ p ∈ ps, Rb V V.heap.size p.A p.bs
theorem Trd.of {V : World} {base c : Nat} {A : Option Addr} {ps : List Part} {ts : List (List UInt8)} (h : Apt V base (.slice A ps.length c) ps) (e : ps.map (·.bs) = ts) : Trd V A ts := ⟨ps, e, h.rd, fun p hp => (h.2 p hp).1⟩
theorem Trd.new {V V' : World} {A : Option Addr} {ts : List (List UInt8)} (h : Trd V A ts) (hb : Below V.heap.size V V') : Trd V' A ts := by
  obtain ⟨ps, e, h1, h2⟩ := h
  exact ⟨ps, e, (Rd.below h1 hb).mono hb.size, fun p hp => (Rd.below (h2 p hp) hb).mono hb.size⟩
theorem Trd.at {V : World} {A : Option Addr} {ts : List (List UInt8)} (h : Trd V A ts) {i : Nat} (hi : i < ts.length) : ∃ g o Ai ci, A = some ⟨g, o, none⟩ ∧ V.cell? ⟨g, o + i, none⟩ = some (.slice Ai ts[i].length ci) ∧ Rb V V.heap.size Ai ts[i] := by
  obtain ⟨ps, rfl, h1, h2⟩ := h
  have hi' : i < ps.length := by simpa using hi
  obtain ⟨g, o, rfl, -, r⟩ := h1 (fun e => by have := congrArg List.length e; rw [List.length_map] at this; simp only [List.length_nil] at this; omega)
  refine ⟨g, o, ps[i].A, ps[i].c, rfl, ?_, ?_⟩
  · have := r i ps[i].v (by rw [List.getElem?_map, List.getElem?_eq_getElem hi']; rfl)
    rw [this, List.getElem_map]
    rfl
  · rw [List.getElem_map]
    exact h2 _ (List.getElem_mem _)
theorem textsS_length {h : Int} {l : List Nat} {nl nb : Nat} {lv bes : List UInt8} : (textsS h l nl nb lv bes).length ≤ 4294967296 := by
  unfold textsS
  split
  · rename_i e
    obtain ⟨hg, -, -⟩ := ccB_zero e
    obtain ⟨k, rfl⟩ := rgtB_nat hg
    obtain ⟨hh, -⟩ := rgtB_parts hg
    rw [Int.toNat_natCast]
    have h1 := climbS_texts (l := l) (lv := lv) (S := spotsS l k 0) (bes := bes) k 0
    have h2 : (2 : Nat) ^ k ≤ 2 ^ 32 := Nat.pow_le_pow_right (by omega) hh
    omega
  · simp
/-- What holds between the calls. -/
structure RrW (w : World) (two : Array Value) (A2 A3 : Option Addr) (tx : List (List UInt8)) (G H : Nat) (root : List UInt8) (V : World) : Prop where
  x : At V w.heap.size two 80
  t2 : Trd V A2 tx
  t3 : Trd V A3 tx
  g : At V G (ubs root).toArray 35
  h : At V H (ubs root).toArray 35
  below : Below w.heap.size w V
theorem RrW.new {w V V' : World} {two : Array Value} {A2 A3 : Option Addr} {tx : List (List UInt8)} {G H : Nat} {root : List UInt8} (x : RrW w two A2 A3 tx G H root V) (hb : Below V.heap.size V V') : RrW w two A2 A3 tx G H root V' :=
  ⟨x.x.new_ hb, x.t2.new hb, x.t3.new hb, x.g.new_ hb, x.h.new_ hb, x.below.trans (hb.mono x.below.size)⟩
end Go.Proofs.YthkbmpocfpbkoaaDoor
