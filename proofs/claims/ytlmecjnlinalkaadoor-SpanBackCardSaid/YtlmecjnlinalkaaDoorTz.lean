/-
  Layer 9, the document's side: a tree that grows leaf by leaf; Resize.
-/
import Derived.Test.YtlmecjnlinalkaaDoorJ5
namespace Go.Proofs.YtlmecjnlinalkaaDoor
open Go.RowKit

/-- A leaf is appended. -/
theorem wp_append_lf {o : Oper} {a : Go.Act} {W : World} {K : Go.Act → World → Prop} {Q : Exit → Go.Act → World → Prop} (s x : Operand)
    (ho : o.op = .call { callee := .builtin .append, args := #[s, x], argTypes := #[30, 30] })
    (base : Nat) (v : Value) (L : List (Nat × List UInt8)) (hs : a.eval s = v) (hown : Al W base v L) (q : Nat) (p : Nat × List UInt8) (hx : a.eval x = .slice (some ⟨q, 0, none⟩) 1 1) (hq : At W q (lfV p).toArray 100) (hp : p.2.length = 32) (hl : L.length ≤ 1000) (hbase : base ≤ W.heap.size)
    (h : ∀ A c w', Al w' base (.slice A (L ++ [p]).length c) (L ++ [p]) → W.grownBy w' v.ownBlock → K (a.put o.dst (.slice A (L ++ [p]).length c)) w') :
    o.wp Tryd.prog a W K Q := by
  obtain ⟨i, hi, hz, hsz, hby⟩ := infoLf_parts
  obtain ⟨v', w', hr, h2, h3, -, h5⟩ := run_append_own_at (P := Tryd.prog) W base 30 o.type 100 i _ 33 40 Tryd.underlying30 hi hz hsz hby (by show (lfV (0, n32)).toArray.size = 33; rw [List.size_toArray]; exact lfV_length (p := (0, n32)) n32_length) (by omega) v L.length (lrow L) hown ⟨q, 0, none⟩ 1 1 (lfV p) (by rw [lfV_length hp])
    (fun j u hu => by rw [add_plain, Nat.zero_add, hq.cell j, List.getElem?_toArray]; exact hu) (lfV_one p) (by unfold maxLen; omega) (by omega) hbase
  have h6 : Al w' base v' (L ++ [p]) := by
    unfold Al
    rw [lrow_append, lrow_one, List.length_append]
    exact h2
  obtain ⟨A, c, rfl⟩ := h6.form
  unfold Oper.wp execOp
  simp only [ho, resolve, invoke, builtin, Sem.run_bind, Sem.run_pure, Result.andThen_ok, List.map_toArray, List.map_cons, List.map_nil, hs, hx, hr]
  exact h A c w' h6 h3
theorem Al.setCell {W : World} {base : Nat} {v u : Value} {L : List (Nat × List UInt8)} {p : Addr} (h : Al W base v L) (hp : p.block < base) : Al (W.setCell p u) base v L := by
  refine ⟨h.1, ?_⟩
  rcases h.2 with h2 | ⟨g, cap, cur, rfl, hb1, hh, r⟩
  · exact .inl h2
  · exact .inr ⟨g, cap, cur, rfl, hb1, (Below.heap_setCell W p u g (by omega)).trans hh, r⟩
/-- A tree whose leaves grow, in block X; blocks ahead of it. -/
structure OtW (w : World) (F : List (Nat × Array Value × TypeId)) (X : Nat) (h : Int) (E : Option Addr) (cE : Nat) (va : Value) (LA : List (Nat × List UInt8)) (W : World) : Prop where
  f : ∀ q ∈ F, At W q.1 q.2.1 q.2.2 ∧ q.1 < X
  o : At W X #[.int .i64 h, va, .slice E 33 cE] 33
  a : Al W (X + 1) va LA
  lo : w.heap.size ≤ X
  below : Below w.heap.size w W
section
variable {w W W' : World} {F : List (Nat × Array Value × TypeId)} {X cE : Nat} {h : Int} {E : Option Addr} {va v : Value} {LA : List (Nat × List UInt8)} {p : Nat × List UInt8}
theorem OtW.new (k : OtW w F X h E cE va LA W) (hb : Below W.heap.size W W') : OtW w F X h E cE va LA W' := ⟨fun q hq => ⟨(k.f q hq).1.new_ hb, (k.f q hq).2⟩, k.o.new_ hb, k.a.kept hb, k.lo, k.below.trans (hb.mono k.below.size)⟩
theorem OtW.drew (k : OtW w F X h E cE va LA W) : OtW w F X h E cE va LA W.drew := ⟨k.f, k.o, k.a, k.lo, k.below.drew⟩
theorem OtW.big (k : OtW w F X h E cE va LA W) : X + 1 ≤ W.heap.size := k.o.lt
theorem OtW.cell (k : OtW w F X h E cE va LA W) : W.cell? ⟨X, 1, none⟩ = some va := by rw [k.o.cell]; rfl
/-- A leaf went in. -/
theorem OtW.push (k : OtW w F X h E cE va LA W) (ha : Al W' (X + 1) v (LA ++ [p])) (hg : W.grownBy W' va.ownBlock) : OtW w F X h E cE v (LA ++ [p]) (W'.setCell ⟨X, 1, none⟩ v) := by
  have hne : ∀ g, g ≤ X → va.ownBlock ≠ some g := fun g hg' e => by
    have := (k.a.lt _ e).1
    omega
  have hX : At W' X #[.int .i64 h, va, .slice E 33 cE] 33 := k.o.grown hg (hne X (Nat.le_refl _))
  refine ⟨fun q hq => ?_, hX.put 1 v, ha.setCell (by show X < X + 1; omega), k.lo, (k.below.grown hg k.below.size (fun j hj => ?_)).setCell (p := ⟨X, 1, none⟩) k.lo v⟩
  · obtain ⟨h1, h2⟩ := k.f q hq
    exact ⟨(h1.grown hg (hne _ (by omega))).far (p := ⟨X, 1, none⟩) (by show q.1 ≠ X; omega) v, h2⟩
  · have := (k.a.lt _ hj).1
    have := k.lo
    omega
end
/-- What the growing region yields. -/
def rzF (w0 X g x j len c : Nat) (A : Option Addr) (va lf : Value) (p : Nat × List UInt8) (i : Nat) (v : Value) (W : World) : Prop :=
  match i with
  | 0 => v = .pointer (some ⟨X, 1, none⟩)
  | 1 => v = va
  | 2 => v = .pointer (some ⟨w0, 1, none⟩)
  | 3 => v = .slice A len c
  | 4 => v = .int .i64 (j : Int)
  | 5 => v = .pointer (some ⟨g, x, none⟩)
  | 6 => v = lf
  | _ => ∃ q, v = .slice (some ⟨q, 0, none⟩) 1 1 ∧ At W q (lfV p).toArray 100
theorem rzF_new {w0 X g x j len c : Nat} {A : Option Addr} {va lf : Value} {p : Nat × List UInt8} {i : Nat} {v : Value} {W W' : World} (h : rzF w0 X g x j len c A va lf p i v W) (hb : Below W.heap.size W W') : rzF w0 X g x j len c A va lf p i v W' := by
  rcases i with _ | _ | _ | _ | _ | _ | _ | i
  iterate 7 exact h
  obtain ⟨q, e, r⟩ := h
  exact ⟨q, e, r.new_ hb⟩
end Go.Proofs.YtlmecjnlinalkaaDoor
