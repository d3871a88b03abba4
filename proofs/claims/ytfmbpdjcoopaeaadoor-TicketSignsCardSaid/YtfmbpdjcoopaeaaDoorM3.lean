/-
  Layer 9, the document's side: part, walked.
  Layer 9, the document's side: Node, Root.
  Layer 9, the document's side: Root, Path.
-/
import Derived.Test.YtfmbpdjcoopaeaaDoorM2
namespace Go.Proofs.YtfmbpdjcoopaeaaDoor
open Go.RowKit

end Go.Proofs.YtfmbpdjcoopaeaaDoor

namespace Go.Proofs.YtfmbpdjcoopaeaaDoor
open Go.RowKit

end Go.Proofs.YtfmbpdjcoopaeaaDoor

namespace Go.Proofs.YtfmbpdjcoopaeaaDoor
open Go.RowKit

/-- A slice of hashes of the call's own, one behind the other. -/
def Ah (W : World) (base : Nat) (v : Value) (n : Nat) (bs : List UInt8) : Prop := W.ownsRow base 25 32 v n (ubs bs)
theorem Ah.nil (W : World) (base : Nat) : Ah W base (.slice none 0 0) 0 [] := World.ownsRow_nil _ _ _ _
theorem Ah.form {W : World} {base n : Nat} {v : Value} {bs : List UInt8} (h : Ah W base v n bs) : ∃ A c, v = .slice A n c := by
  rcases h.2 with ⟨h1, h2⟩ | ⟨g, cap, cur, e, -⟩
  · rw [h1, h2]
    exact ⟨_, _, rfl⟩
  · exact ⟨_, _, e⟩
theorem Ah.kept {W W' : World} {base n : Nat} {v : Value} {bs : List UInt8} (h : Ah W base v n bs) (hb : Below W.heap.size W W') : Ah W' base v n bs := by
  refine ⟨h.1, ?_⟩
  rcases h.2 with h2 | ⟨g, cap, cur, rfl, hb1, hh, r⟩
  · exact .inl h2
  · exact .inr ⟨g, cap, cur, rfl, hb1, (hb.block g (lt_of_block hh)).trans hh, r⟩
theorem Ah.lt {W : World} {base n : Nat} {v : Value} {bs : List UInt8} (h : Ah W base v n bs) : ∀ k, v.ownBlock = some k → base ≤ k ∧ k < W.heap.size := World.ownsRow.lt h
theorem Ah.rd {W : World} {base n c : Nat} {A : Option Addr} {bs : List UInt8} (h : Ah W base (.slice A n c) n bs) : Rd W W.heap.size A (ubs bs) := fun hne => by
  rcases h.2 with ⟨h1, h2⟩ | ⟨g, cap, cur, e, hb, hh, -⟩
  · refine absurd ?_ hne
    exact List.eq_nil_of_length_eq_zero (by have := h.1; rw [h2] at this; omega)
  · obtain rfl : A = some ⟨g, 0, none⟩ := by cases e; rfl
    refine ⟨g, 0, rfl, lt_of_block hh, fun j u hu => ?_⟩
    have := World.ownsRow.cells h (g := g) rfl j u hu
    rwa [add_plain] at this
/-- A hash is appended. -/
theorem wpList_append_h {ops : Array Oper} {rest : List Oper} {o : Oper} {a : Go.Act} {W : World} {Q : Exit → Go.Act → World → Prop} (hw : Region.wanted o (yielded ops a.tmps) = true) (s x : Operand)
    (ho : o.op = .call { callee := .builtin .append, args := #[s, x], argTypes := #[78, 78] })
    (base : Nat) (v : Value) (n : Nat) (bs : List UInt8) (hs : a.eval s = v) (hown : Ah W base v n bs) (q : Nat) (l : List UInt8) (hx : a.eval x = .slice (some ⟨q, 0, none⟩) 1 1) (hq : At W q (ubs l).toArray 25) (hp : l.length = 32) (hl : n ≤ 1000) (hbase : base ≤ W.heap.size)
    (h : ∀ A c w', Ah w' base (.slice A (n + 1) c) (n + 1) (bs ++ l) → W.grownBy w' v.ownBlock → wpList Tryd.prog ops Q rest (a.put o.dst (.slice A (n + 1) c)) w') :
    wpList Tryd.prog ops Q (o :: rest) a W :=
  BigFrame.wpList_want hw fun K hK => by
    obtain ⟨i, hi, hz, hsz, hby⟩ := info_parts infoH
    obtain ⟨v', w', hr, h2, h3, -, -⟩ := run_append_own_at (P := Tryd.prog) W base 78 o.type 25 i _ 32 32 Tryd.underlying78 hi hz hsz hby (by show (ubs n32).toArray.size = 32; rw [List.size_toArray, ubs_length]; exact n32_length) (by omega) v n (ubs bs) hown ⟨q, 0, none⟩ 1 1 (ubs l) (by rw [ubs_length, hp])
      (fun j u hu => by rw [add_plain, Nat.zero_add, hq.cell j, List.getElem?_toArray]; exact hu) (ubs_one l) (by unfold maxLen; omega) (by omega) hbase
    have h6 : Ah w' base v' (n + 1) (bs ++ l) := by
      unfold Ah
      rw [ubs_append]
      exact h2
    obtain ⟨A, c, rfl⟩ := h6.form
    unfold Oper.wp execOp
    simp only [ho, resolve, invoke, builtin, Sem.run_bind, Sem.run_pure, Result.andThen_ok, List.map_toArray, List.map_cons, List.map_nil, hs, hx, hr]
    exact hK _ _ (h A c w' h6 h3)
/-- What holds in Path. -/
structure PhW (w : World) (T : Array Value) (v : Value) (n : Nat) (bs : List UInt8) (W : World) : Prop where
  t : At W w.heap.size T 80
  a : Ah W (w.heap.size + 1) v n bs
  below : Below w.heap.size w W
section
variable {w W W' : World} {T : Array Value} {v v' : Value} {n : Nat} {bs l : List UInt8}
theorem PhW.new (h : PhW w T v n bs W) (hb : Below W.heap.size W W') : PhW w T v n bs W' := ⟨h.t.new_ hb, h.a.kept hb, h.below.trans (hb.mono h.below.size)⟩
theorem PhW.start (w : World) (T : Array Value) : PhW w T (.slice none 0 0) 0 [] (w.alloc (.cells T 80)) := ⟨At.new _ _ _, Ah.nil _ _, (Below.refl w.heap.size w).alloc (Nat.le_refl _) _⟩
theorem PhW.push {o : Obj} (h : PhW w T v n bs W) (ha : Ah W' (w.heap.size + 1) v' (n + 1) (bs ++ l)) (hg : (W.alloc o).grownBy W' v.ownBlock) : PhW w T v' (n + 1) (bs ++ l) W' := by
  have hn := h.new ((Below.refl W.heap.size W).alloc (Nat.le_refl _) o)
  refine ⟨hn.t.grown hg (fun e => ?_), ha, hn.below.grown hg hn.below.size (fun k hk => by have := (h.a.lt k hk).1; omega)⟩
  have := (h.a.lt _ e).1
  omega
end
end Go.Proofs.YtfmbpdjcoopaeaaDoor
