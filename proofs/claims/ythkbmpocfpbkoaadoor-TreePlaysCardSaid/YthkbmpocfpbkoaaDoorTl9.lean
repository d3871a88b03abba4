/-
  Layer 9, the document's side: slices of leaves that grow.
-/
import Derived.Test.YthkbmpocfpbkoaaDoorTh
import Derived.Maps.AppendAt
import Derived.Deep.AppendLies
namespace Go.Proofs.YthkbmpocfpbkoaaDoor
open Go.RowKit

theorem infoLf : (Tryd.prog.info? 109).map (fun i => (i.zero, i.size, i.bytes)) = some (some (.agg (lfV (0, n32)).toArray), 33, 40) := by kernel_rfl
theorem infoLf_parts : ∃ i, Tryd.prog.info? 109 = some i ∧ i.zero = some (.agg (lfV (0, n32)).toArray) ∧ i.size = 33 ∧ i.bytes = 40 := by
  have := infoLf
  cases h : Tryd.prog.info? 109 with
  | none => rw [h] at this; cases this
  | some ie =>
    rw [h] at this
    simp only [Option.map_some, Option.some.injEq, Prod.mk.injEq] at this
    exact ⟨ie, rfl, this.1, this.2.1, this.2.2⟩
/-- The only part of a literal of one leaf. -/
theorem fillLf (p : Nat × List UInt8) (hl : p.2.length = 32) : Instr.fill (fun i => some (i * 33, 33)) ((Array.range (1 * 33)).map ((Value.agg (lfV (0, n32)).toArray).cells[· % (Value.agg (lfV (0, n32)).toArray).cells.size]!)) [(0, .agg (lfV p).toArray)] = some (lfV p).toArray := by
  have h0 : (Array.range (1 * 33)).map ((Value.agg (lfV (0, n32)).toArray).cells[· % (Value.agg (lfV (0, n32)).toArray).cells.size]!) = (lfV (0, n32)).toArray := by kernel_rfl
  rw [h0, fill_step _ 0 0 33 (lfV (0, n32)) (lfV p) _ _ rfl (by simp) (by rw [lfV_length hl]) (by rw [lfV_length n32_length]; omega)]
  have := spv_at [] (lfV (0, n32)) [] (lfV p) (by rw [lfV_length hl, lfV_length n32_length])
  rw [List.append_nil, List.append_nil, List.nil_append, List.nil_append] at this
  rw [show spv (lfV (0, n32)) 0 (lfV p) = lfV p from this]
  rfl
theorem run_buildLf {o : Oper} {a : Go.Act} {W : World} (x : Operand) (ho : o.op = .buildSlice 25 1 #[(0, x)]) (p : Nat × List UInt8) (hl : p.2.length = 32) (hx : a.eval x = .agg (lfV p).toArray) :
    (execOp a.eval o).run Tryd.prog W = .ok (.value (.slice (some ⟨W.heap.size, 0, none⟩) 1 1)) (W.alloc (.cells (lfV p).toArray 109)) := by
  obtain ⟨ie, hie, hz, hs, -⟩ := infoLf_parts
  unfold execOp
  simp only [ho, Sem.run_bind]
  rw [run_buildSlice W _ _ 1 _ (lfV p).toArray ie _ Tryd.underlying25 hie hz (by rw [hs]; decide) (by rw [hs]; decide) (by rw [hs]; simpa [hx] using fillLf p hl)]
  rfl
/-- A slice of leaves of the call's own. -/
def Al (W : World) (base : Nat) (v : Value) (L : List (Nat × List UInt8)) : Prop := W.ownsRow base 109 33 v L.length (lrow L)
theorem Al.nil (W : World) (base : Nat) : Al W base (.slice none 0 0) [] := by
  unfold Al
  rw [lrow_nil]
  exact World.ownsRow_nil _ _ _ _
theorem Al.form {W : World} {base : Nat} {v : Value} {L : List (Nat × List UInt8)} (h : Al W base v L) : ∃ A c, v = .slice A L.length c := by
  rcases h.2 with ⟨h1, h2⟩ | ⟨g, cap, cur, e, -⟩
  · rw [h1, h2]
    exact ⟨_, _, rfl⟩
  · exact ⟨_, _, e⟩
/-- What it reads as. -/
theorem Al.lv {W : World} {base c : Nat} {A : Option Addr} {L : List (Nat × List UInt8)} (h : Al W base (.slice A L.length c) L) : Lv W W.heap.size A L := fun hne => by
  rcases h.2 with ⟨h1, h2⟩ | ⟨g, cap, cur, e, hb, hh, -⟩
  · refine absurd ?_ hne
    obtain rfl : L = [] := List.eq_nil_of_length_eq_zero h2
    exact lrow_nil
  · obtain rfl : A = some ⟨g, 0, none⟩ := by cases e; rfl
    refine ⟨g, 0, rfl, lt_of_block hh, fun j u hu => ?_⟩
    have := World.ownsRow.cells h (g := g) rfl j u hu
    rwa [add_plain] at this
theorem Al.kept {W W' : World} {base : Nat} {v : Value} {L : List (Nat × List UInt8)} (h : Al W base v L) (hb : Below W.heap.size W W') : Al W' base v L := by
  refine ⟨h.1, ?_⟩
  rcases h.2 with h2 | ⟨g, cap, cur, rfl, hb1, hh, r⟩
  · exact .inl h2
  · exact .inr ⟨g, cap, cur, rfl, hb1, (hb.block g (lt_of_block hh)).trans hh, r⟩
/-- A leaf is appended. -/
theorem wpList_append_lf {ops : Array Oper} {rest : List Oper} {o : Oper} {a : Go.Act} {W : World} {Q : Exit → Go.Act → World → Prop} (hw : Region.wanted o (yielded ops a.tmps) = true) (s x : Operand)
    (ho : o.op = .call { callee := .builtin .append, args := #[s, x], argTypes := #[25, 25] })
    (base : Nat) (v : Value) (L : List (Nat × List UInt8)) (hs : a.eval s = v) (hown : Al W base v L) (q : Nat) (p : Nat × List UInt8) (hx : a.eval x = .slice (some ⟨q, 0, none⟩) 1 1) (hq : At W q (lfV p).toArray 109) (hp : p.2.length = 32) (hl : L.length ≤ 1000) (hbase : base ≤ W.heap.size)
    (h : ∀ A c w', Al w' base (.slice A (L ++ [p]).length c) (L ++ [p]) → W.grownBy w' v.ownBlock → ((Value.slice A (L ++ [p]).length c).ownBlock = v.ownBlock ∨ (Value.slice A (L ++ [p]).length c).ownBlock = some W.heap.size) → wpList Tryd.prog ops Q rest (a.put o.dst (.slice A (L ++ [p]).length c)) w') :
    wpList Tryd.prog ops Q (o :: rest) a W :=
  BigFrame.wpList_want hw fun K hK => by
    obtain ⟨i, hi, hz, hsz, hby⟩ := infoLf_parts
    obtain ⟨v', w', hr, h2, h3, -, h5⟩ := run_append_own_at (P := Tryd.prog) W base 25 o.type 109 i _ 33 40 Tryd.underlying25 hi hz hsz hby (by show (lfV (0, n32)).toArray.size = 33; rw [List.size_toArray]; exact lfV_length (p := (0, n32)) n32_length) (by omega) v L.length (lrow L) hown ⟨q, 0, none⟩ 1 1 (lfV p) (by rw [lfV_length hp])
      (fun j u hu => by rw [add_plain, Nat.zero_add, hq.cell j, List.getElem?_toArray]; exact hu) (lfV_one p) (by unfold maxLen; omega) (by omega) hbase
    have h6 : Al w' base v' (L ++ [p]) := by
      unfold Al
      rw [lrow_append, lrow_one, List.length_append]
      exact h2
    obtain ⟨A, c, rfl⟩ := h6.form
    unfold Oper.wp execOp
    simp only [ho, resolve, invoke, builtin, Sem.run_bind, Sem.run_pure, Result.andThen_ok, List.map_toArray, List.map_cons, List.map_nil, hs, hx, hr]
    exact hK _ _ (h A c w' h6 h3 h5)
end Go.Proofs.YthkbmpocfpbkoaaDoor
