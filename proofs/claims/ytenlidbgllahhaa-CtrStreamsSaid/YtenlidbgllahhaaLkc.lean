/-
  What laws over ciphers share: guarded operations, whole rows, the document's round keys.
-/
import Derived.Test.YtenlidbgllahhaaFk
import Derived.Test.YtenlidbgllahhaaEp
import Derived.BigQuiet
import Derived.Deep.Cut
namespace Go.Proofs.Ytenlidbgllahhaa
open Go.RowKit

section
variable {P : Program} {ops : Array Oper} {Q : Exit → Act → World → Prop} {md : Region.Mode} {S : World → Prop} {z : Nat}
/-- One alone can come up, behind a guard that lets it. -/
theorem wpUpto_oneG {i : Nat} {o : Oper} {fuel : Nat} {listed : Array Bool} {a : Act} {w : World} (ho : ops[i]? = some o) (hr : Region.ready md ops listed = [i]) (hg : Region.wanted o (yielded ops a.tmps) = true)
    (h : ∀ K : Act → World → Prop, RowKit.Hid (∀ a' w', (i ≠ z → S w') → wpUpto P md ops Q S z fuel (listed.setIfInBounds i true) a' w' → K a' w') → o.wp P a w K Q) : wpUpto P md ops Q S z (fuel + 1) listed a w := by
  refine ⟨fun h0 => (by rw [hr] at h0; cases h0), fun j hj => ?_⟩
  rw [hr] at hj
  obtain rfl : j = i := by simpa using hj
  unfold wpOp
  rw [ho]
  simp only [hg, if_true]
  exact .inl (h _ (fun _ _ h1 h2 => ⟨h1, h2⟩))
end
theorem stored16_at (w : World) (h : List UInt8) : At ((w.alloc (.cells (ubs n16).toArray 26)).setRow w.heap.size (ubs h).toArray) w.heap.size (ubs h).toArray 26 := setRow_heap _ _ (ubs n16).toArray _ _ _ (At.new _ _ _)
theorem stored16_below (w : World) (h : List UInt8) : Below w.heap.size w ((w.alloc (.cells (ubs n16).toArray 26)).setRow w.heap.size (ubs h).toArray) := below_setRow ((Below.refl _ _).alloc (Nat.le_refl _) _) (Nat.le_refl _) _
/-- An operation behind a guard that lets it, which yields a value. -/
theorem wpList_valW {P : Program} {ops : Array Oper} {rest : List Oper} {o : Oper} {a : Go.Act} {w w' : World} {Q : Exit → Go.Act → World → Prop} {v : Value} (hw : Region.wanted o (yielded ops a.tmps) = true) (hrun : (execOp a.eval o).run P w = .ok (.value v) w')
    (h : wpList P ops Q rest (a.put o.dst v) w') : wpList P ops Q (o :: rest) a w :=
  BigFrame.wpList_want hw fun K hK => by
    unfold Oper.wp
    rw [hrun]
    exact hK _ _ h
theorem run_load_16 {o : Oper} {a : Go.Act} {W : World} (x : Operand) (ho : o.op = .load 26 x) (g : Nat) (hx : a.eval x = .pointer (some ⟨g, 0, none⟩)) (l : List UInt8) (hl : l.length = 16) (h : At W g (ubs l).toArray 26) : (execOp a.eval o).run Try.prog W = .ok (.value (.agg (ubs l).toArray)) W :=
  run_load_part _ x ho g 0 hx (ubs l) _ (range_at (a := []) (m := l) (z := []) h (by simp)) Try.underlying26 rfl (by rw [size16, ubs_length, hl])
/-- The document's round keys as a row. -/
theorem keysR_row (key : List UInt8) (w : World) (hk : key.length = 16) :
    Calls Try.prog 20 #[.agg (ubs key).toArray] w fun e w' => ∃ g cap, e = .returned (.slice (some ⟨g, 0, none⟩) 176 cap) ∧ 176 ≤ cap ∧ Rb w' w'.heap.size (some ⟨g, 0, none⟩) (rks key 11) ∧ Below w.heap.size w w' := by
  refine (keysR_any key w hk).mono ?_
  rintro e w' ⟨v, rfl, ho, _, hb⟩
  rw [keys_rks key hk] at ho
  obtain ⟨A, c, rfl, h1, _, h3, _, h5⟩ := own_form ho
  rcases A with _ | ad
  · have := (h3 rfl).1
    omega
  · obtain ⟨e1, e2, _, _⟩ := h5 ad rfl
    obtain ⟨b, off, spot⟩ := ad
    simp only at e1 e2
    subst e1 e2
    exact ⟨b, c, rfl, h1, Rd.of_own ho, hb⟩
theorem rb_part {W : World} {B g : Nat} {key : List UInt8} (hk : key.length = 16) (h : Rb W B (some ⟨g, 0, none⟩) (rks key 11)) (n : Nat) (hn : n ≤ 10) : Rb W B (some ⟨g, 16 * n, none⟩) (rk key n) := by
  obtain ⟨z, hz⟩ := rks_part key 11 n (by omega)
  have hl := rks_length key hk n
  have hr := rk_length key hk n
  intro hne
  obtain ⟨b, o, e, hb, hc⟩ := h (by rw [hz]; intro e; have := congrArg List.length e; simp [ubs_length, hr] at this)
  cases e
  refine ⟨g, 16 * n, rfl, hb, fun j u hu => ?_⟩
  have := hc (16 * n + j) u (by
    rw [hz, ubs_append, ubs_append, List.getElem?_append_right (by rw [ubs_length]; omega), ubs_length, hl, Nat.add_sub_cancel_left, List.getElem?_append_left (by
      have := (List.getElem?_eq_some_iff.1 hu).1
      exact this)]
    exact hu)
  rwa [Nat.zero_add] at this
theorem rb_at16 {W : World} {g : Nat} {l : List UInt8} {t : TypeId} (h : At W g (ubs l).toArray t) : Rb W W.heap.size (some ⟨g, 0, none⟩) l :=
  Rd.of_at h 0 (fun j u hj => by rw [Nat.zero_add, List.getElem?_toArray]; exact hj) h.lt
theorem elemB : Try.prog.elem 37 = 5 := by kernel_rfl
theorem run_slice_part (g cap o o2 : Nat) (h2 : o2 = o + 16) (hc : o2 ≤ cap ∧ o < cap) (W : World) : (Instr.slice 37 (.slice (some ⟨g, 0, none⟩) 176 cap) (some (.int .i64 (o : Int))) (some (.int .i64 (o2 : Int))) none).run Try.prog W = .ok (.slice (some ⟨g, o, none⟩) 16 (cap - o)) W := by
  have h := run_slice_lh (P := Try.prog) (w := W) (t := 37) (a := some ⟨g, 0, none⟩) (len := 176) (cap := cap) (by kernel_rfl) .i64 .i64 (o : Int) (o2 : Int) (by omega) (by omega) (by omega)
  rw [h, elemB, run_size8]
  simp only [Result.andThen_ok, Int.toNat_natCast, sliced]
  rw [if_neg (by omega), show o2 - o = 16 by omega]
  simp only [Option.map_some, Addr.add_mid]
  rw [show 0 + o * 1 = o by omega]
theorem run_neq_op {o : Oper} {a : Go.Act} (T t2 : TypeId) (x y : Operand) (ho : o.op = .binOp .neq T x y t2) (u v : Array Value) (hx : a.eval x = .agg u) (hy : a.eval y = .agg v) (hgt : Try.prog.eqGuardType Try.prog.depth T = false) (b : Bool) (w : World) (h : (binOp .neq T (.agg u) (.agg v)).run Try.prog w = .ok (.bool b) w) :
    (execOp a.eval o).run Try.prog w = .ok (.value (.bool b)) w := by
  unfold execOp
  simp only [ho, hx, hy, Sem.run_bind]
  have hg : (eqGuard .neq T x y (.agg u) (.agg v)).run Try.prog w = .ok () w := run_eqGuard_agg w .neq T x y u v hgt
  rw [hg]
  simp only [Result.andThen_ok, h, Sem.run_pure]
theorem run_neq_blocks {o : Oper} {a : Go.Act} (t2 : TypeId) (x y : Operand) (ho : o.op = .binOp .neq 26 x y t2) (b : List UInt8) (hb : b.length = 16) (hx : a.eval x = .agg (ubs b).toArray) (hy : a.eval y = .agg (ubs b).toArray) (w : World) :
    (execOp a.eval o).run Try.prog w = .ok (.value (.bool false)) w :=
  run_neq_op _ _ x y ho _ _ hx hy guard16 false w (by rw [run_neq_struct, run_eq_block w b b hb hb 9998]; simp)
/-- Bytes that are the same, compared. -/
theorem bytes_same (S : List UInt8) (n : Nat) (hS : S.length = n) (A B : Option Addr) (c d : Nat) (W : World) (ha : Rb W W.heap.size A S) (hb : Rb W W.heap.size B S) :
    Calls Try.prog 19 #[.slice A n c, .slice B n d] W fun e w' => e = .returned (.bool true) ∧ W = w' := by
  have h := bytes_any S S A B c d W ha hb
  rw [hS, beq_self_eq_true] at h
  exact h
end Go.Proofs.Ytenlidbgllahhaa
