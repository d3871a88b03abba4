/-
  The tables of package level as they lie in memory, and what later worlds keep of them.
-/
import Derived.Test.YtjfpdbhjbleffaaDoorWs
namespace Go.Proofs.YtjfpdbhjbleffaaDoor
open Go.RowKit

/-- A table of words as it lies. -/
def Tab (w : World) (g : Nat) (xs : List (BitVec 32)) : Prop := ∀ (i : Nat) (v : Value), (us xs)[i]? = some v → w.cell? ⟨g, i, none⟩ = some v
theorem Tab.lt {w : World} {g : Nat} {x : BitVec 32} {xs : List (BitVec 32)} (h : Tab w g (x :: xs)) : g < w.heap.size := block_lt_of_cell (h 0 (uw x) rfl)
theorem Tab.at_ {w : World} {g : Nat} {xs : List (BitVec 32)} (h : Tab w g xs) {i : Nat} (hi : i < xs.length) : w.cell? ⟨g, i, none⟩ = some (uw (xs.getD i 0#32)) :=
  h i _ (by rw [us_get, List.getD_eq_getElem?_getD, List.getElem?_eq_getElem hi]; rfl)
theorem Tab.below {w w' : World} {g : Nat} {x : BitVec 32} {xs : List (BitVec 32)} (h : Tab w g (x :: xs)) (hb : Below w.heap.size w w') : Tab w' g (x :: xs) :=
  fun i v hv => (hb.cell (p := ⟨g, i, none⟩) h.lt).trans (h i v hv)
theorem run_loadVar_tab {P : Program} (w : World) (g : Nat) (ty : TypeId) (xs : List (BitVec 32)) (d : TypeDesc) (hg : Tab w g xs)
    (hu : P.underlying ty = some d) (hd : (match d with | .struct _ | .array _ _ => true | _ => false) = true) (hi : (P.info? ty).map (·.size) = some xs.length) :
    (loadVar ty ⟨g, 0, none⟩).run P w = .ok (.agg (us xs).toArray) w := by
  have hl : (loadCells ⟨g, 0, none⟩ (us xs).length).run P w = .ok (us xs).toArray w :=
    run_loadCells_list (P := P) w ⟨g, 0, none⟩ (us xs) (fun j v hv => by
      have hadd : (⟨g, 0, none⟩ : Addr).add j = ⟨g, j, none⟩ := by unfold Addr.add; split <;> simp_all
      rw [hadd]
      exact hg j v hv)
  rw [us_length] at hl
  cases hq : P.info? ty with
  | none => simp [hq] at hi
  | some i =>
    have hs : i.size = xs.length := by simpa [hq] using hi
    have hagg : (isAgg ty).run P w = .ok true w := by
      unfold isAgg
      rw [Sem.run_bind, run_underlying hu w]
      cases d <;> simp_all
    simp [loadVar, Sem.run_bind, hagg, sizeOf, typeInfo, hq, hs, hl]
theorem wp_load_tab {P : Program} {o : Oper} {a : Act} {w : World} {K : Act → World → Prop} {Q : Exit → Act → World → Prop} (ty : TypeId) (x : Operand) (ho : o.op = .load ty x)
    (g : Nat) (hx : a.eval x = .pointer (some ⟨g, 0, none⟩)) (xs : List (BitVec 32)) (d : TypeDesc) (hg : Tab w g xs)
    (hu : P.underlying ty = some d) (hd : (match d with | .struct _ | .array _ _ => true | _ => false) = true) (hi : (P.info? ty).map (·.size) = some xs.length)
    (h : K (a.put o.dst (.agg (us xs).toArray)) w) : o.wp P a w K Q := by
  unfold Oper.wp execOp
  simp only [ho, hx, Instr.loadAt, Instr.sureAddr, Sem.run_bind, Sem.run_pure, Result.andThen_ok, run_loadVar_tab w g ty xs d hg hu hd hi]
  exact h
theorem wpList_load_tab {P : Program} {ops : Array Oper} {rest : List Oper} {o : Oper} {a : Act} {w : World} {Q : Exit → Act → World → Prop} (hgd : o.guard = none) (ty : TypeId) (x : Operand) (ho : o.op = .load ty x)
    (g : Nat) (hx : a.eval x = .pointer (some ⟨g, 0, none⟩)) (xs : List (BitVec 32)) (d : TypeDesc) (hg : Tab w g xs)
    (hu : P.underlying ty = some d) (hd : (match d with | .struct _ | .array _ _ => true | _ => false) = true) (hi : (P.info? ty).map (·.size) = some xs.length)
    (h : wpList P ops Q rest (a.put o.dst (.agg (us xs).toArray)) w) : wpList P ops Q (o :: rest) a w :=
  wpList_plain hgd fun _ hK => wp_load_tab ty x ho g hx xs d hg hu hd hi (hK _ _ h)

/-- The tables that the text lays: the program's constants and initial values; the document's constants. (The document's initial values: 'Tab' by itself.) -/
structure Tabs (w : World) : Prop where
  k : Tab w 3 KT
  i : Tab w 2 IV.l
structure Tabr (w : World) : Prop where
  rk : Tab w 1 KT
theorem Tabs.below {w w' : World} (h : Tabs w) (hb : Below w.heap.size w w') : Tabs w' := ⟨h.k.below hb, h.i.below hb⟩
theorem Tabr.below {w w' : World} (h : Tabr w) (hb : Below w.heap.size w w') : Tabr w' := ⟨h.rk.below hb⟩

/-- Words added one by one, k of them. -/
def addk (xs ys : List (BitVec 32)) : Nat → List (BitVec 32)
  | 0 => xs
  | k + 1 => (addk xs ys k).set k (xs.getD k 0#32 + ys.getD k 0#32)
theorem addk_zero (xs ys : List (BitVec 32)) : addk xs ys 0 = xs := rfl
theorem addk_succ (xs ys : List (BitVec 32)) (k : Nat) : addk xs ys (k + 1) = (addk xs ys k).set k (xs.getD k 0#32 + ys.getD k 0#32) := rfl
theorem addk_length (xs ys : List (BitVec 32)) (k : Nat) : (addk xs ys k).length = xs.length := by
  induction k with
  | zero => rfl
  | succ k ih => rw [addk_succ, List.length_set, ih]
theorem addk_get (xs ys : List (BitVec 32)) (k j : Nat) (h : k ≤ j) : (addk xs ys k).getD j 0#32 = xs.getD j 0#32 := by
  induction k with
  | zero => rfl
  | succ k ih =>
    rw [addk_succ, List.getD_eq_getElem?_getD, List.getElem?_set_ne (by omega), ← List.getD_eq_getElem?_getD]
    exact ih (by omega)
theorem addk_all (s t : S8) : addk s.l t.l 8 = (s.add t).l := rfl
theorem l_length (s : S8) : s.l.length = 8 := rfl
attribute [irreducible] addk
def z8 : List (BitVec 32) := List.replicate 8 0#32
theorem zero8 : #[Value.int .u32 0, .int .u32 0, .int .u32 0, .int .u32 0, .int .u32 0, .int .u32 0, .int .u32 0, .int .u32 0] = (us z8).toArray := rfl
theorem z8_length : z8.length = 8 := by simp [z8]
theorem Tabs.drewN {w : World} (h : Tabs w) (n : Nat) : Tabs (w.drewN n) := ⟨h.k, h.i⟩
theorem KT_length : KT.length = 64 := rfl
end Go.Proofs.YtjfpdbhjbleffaaDoor
