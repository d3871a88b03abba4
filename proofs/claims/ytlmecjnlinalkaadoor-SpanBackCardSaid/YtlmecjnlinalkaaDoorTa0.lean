/-
  Scripts of leaves that are set and dropped, in memory; what leaves are there behind them; the document's tree and the program's side by side.
-/
import Derived.Test.YtlmecjnlinalkaaDoorT0
import Derived.Test.YtlmecjnlinalkaaDoorNg
namespace Go.Proofs.YtlmecjnlinalkaaDoor
open Go.RowKit

abbrev Act9 := Nat × List UInt8 × Bool
def actV (a : Act9) : List Value := .int .u64 (a.1 : Int) :: (ubs a.2.1 ++ [.bool a.2.2])
def arow : List Act9 → List Value
  | [] => []
  | a :: l => actV a ++ arow l
theorem arow_append (l m : List Act9) : arow (l ++ m) = arow l ++ arow m := by
  induction l with
  | nil => rfl
  | cons a l ih => rw [List.cons_append, arow, arow, ih, List.append_assoc]
def okA (l : List Act9) : Prop := ∀ a ∈ l, a.1 < 18446744073709551616 ∧ a.2.1.length = 32
theorem okA.take {l : List Act9} (h : okA l) (k : Nat) : okA (l.take k) := fun a ha => h a (List.mem_of_mem_take ha)
theorem okA.get {l : List Act9} (h : okA l) {k : Nat} (hk : k < l.length) : l[k].1 < 18446744073709551616 ∧ l[k].2.1.length = 32 := h _ (List.getElem_mem hk)
theorem actV_length {a : Act9} (h : a.2.1.length = 32) : (actV a).length = 34 := by simp [actV, ubs_length, h]
theorem arow_length {l : List Act9} (h : okA l) : (arow l).length = 34 * l.length := by
  induction l with
  | nil => rfl
  | cons a l ih =>
    rw [arow, List.length_append, actV_length (h a (by simp)).2, ih fun b hb => h b (by simp [hb])]
    simp only [List.length_cons]
    omega
theorem arow_at {l : List Act9} (k : Nat) (hk : k < l.length) : ∃ z, arow l = arow (l.take k) ++ (actV l[k] ++ z) := by
  refine ⟨arow (l.drop (k + 1)), ?_⟩
  rw [← arow, ← arow_append, List.getElem_cons_drop, List.take_append_drop]
theorem actV_one (a : Act9) : (actV a).toArray.all (·.oneCell') = true := by
  rw [Array.all_eq_true]
  intro i hi
  have hm : (actV a).toArray[i] ∈ actV a := by simp
  rcases List.mem_cons.1 hm with e | e
  · rw [e]; rfl
  · rcases List.mem_append.1 e with e | e
    · exact ubs_one _ _ e
    · have : (actV a).toArray[i] = .bool a.2.2 := by simpa using e
      rw [this]; rfl
/-- A script where it lies. -/
def Av (W : World) (B : Nat) (A : Option Addr) (l : List Act9) : Prop := Rd W B A (arow l)
section
variable {W W' : World} {B : Nat} {A : Option Addr} {l : List Act9}
theorem Av.below (h : Av W B A l) (hb : Below B W W') : Av W' B A l := Rd.below h hb
theorem Av.act (h : Av W B A l) (ho : okA l) {k : Nat} (hk : k < l.length) : ∃ g o, A = some ⟨g, o, none⟩ ∧ g < B ∧ W.rangeAt g (o + 34 * k) (actV l[k]) := by
  obtain ⟨z, hz⟩ := arow_at k hk
  have hne : arow l ≠ [] := by
    intro e
    have := arow_length ho
    rw [e] at this
    simp at this
    omega
  obtain ⟨g, o, rfl, hg, hc⟩ := h hne
  refine ⟨g, o, rfl, hg, fun j u hu => ?_⟩
  have hl : (arow (l.take k)).length = 34 * k := by rw [arow_length (ho.take k), List.length_take]; omega
  have := hc (34 * k + j) u (by
    rw [hz, List.getElem?_append_right (by omega), hl, Nat.add_sub_cancel_left, List.getElem?_append_left (List.getElem?_eq_some_iff.1 hu).1]
    exact hu)
  rwa [← Nat.add_assoc] at this
end
theorem act_index {W : World} {g o : Nat} {a : Act9} (h : W.rangeAt g o (actV a)) : W.cell? ⟨g, o, none⟩ = some (.int .u64 (a.1 : Int)) := h 0 _ rfl
theorem act_hash {W : World} {g o : Nat} {a : Act9} (h : W.rangeAt g o (actV a)) : W.rangeAt g (o + 1) (ubs a.2.1) := fun j u hu => by
  have := h (j + 1) u (by rw [actV, List.getElem?_cons_succ, List.getElem?_append_left (List.getElem?_eq_some_iff.1 hu).1]; exact hu)
  rwa [show o + (j + 1) = o + 1 + j by omega] at this
theorem act_drop {W : World} {g o : Nat} {a : Act9} (hl : a.2.1.length = 32) (h : W.rangeAt g o (actV a)) : W.cell? ⟨g, o + 33, none⟩ = some (.bool a.2.2) :=
  h 33 _ (by rw [actV, List.getElem?_cons_succ, List.getElem?_append_right (by rw [ubs_length, hl]; omega), ubs_length, hl]; rfl)
theorem sizeAc : (Tryd.prog.info? 27).map (·.size) = some 34 := by kernel_rfl
theorem zeroAc : (Tryd.prog.info? 27).bind (·.zero) = some (.agg (actV (0, n32, false)).toArray) := by kernel_rfl
theorem sizeAc_of {a : Act9} (h : a.2.1.length = 32) : (Tryd.prog.info? 27).map (·.size) = some (actV a).toArray.size := by rw [sizeAc]; simp [actV_length h]
theorem run_loadAc {o : Oper} {a : Go.Act} {W : World} (x : Operand) (ho : o.op = .load 27 x) (b off : Nat) (hx : a.eval x = .pointer (some ⟨b, off, none⟩)) (p : Act9) (hc : W.rangeAt b off (actV p)) (hl : p.2.1.length = 32) : (execOp a.eval o).run Tryd.prog W = .ok (.value (.agg (actV p).toArray)) W :=
  run_load_part _ x ho b off hx (actV p) _ hc Tryd.underlying27 rfl (by rw [sizeAc, actV_length hl])
theorem at_act0 {W : World} {P : Nat} {a : Act9} {T : TypeId} (h : At W P (actV a).toArray T) : W.cell? ⟨P, 0, none⟩ = some (.int .u64 (a.1 : Int)) := act_index (range_all h)
theorem at_act1 {W : World} {P : Nat} {a : Act9} {T : TypeId} (h : At W P (actV a).toArray T) : W.rangeAt P 1 (ubs a.2.1) := by
  have := act_hash (range_all h)
  rwa [Nat.zero_add] at this
theorem at_act33 {W : World} {P : Nat} {a : Act9} {T : TypeId} (hl : a.2.1.length = 32) (h : At W P (actV a).toArray T) : W.cell? ⟨P, 33, none⟩ = some (.bool a.2.2) := by
  have := act_drop hl (range_all h)
  rwa [Nat.zero_add] at this
theorem Ev.hash0 {W : World} {B g : Nat} (h : Ev W B (some ⟨g, 0, none⟩)) : W.rangeAt g 0 (ubs (emptyL 0)) := by
  obtain ⟨g', o', e, -, hr⟩ := h.hash (k := 0) (by omega)
  cases e
  simpa using hr
/-- One act, and some. -/
def act9 (h : Nat) (L : List (Nat × List UInt8)) (a : Act9) : List (Nat × List UInt8) := if hasB h 0 a.1 then setT a.1 (if a.2.2 then emptyL 0 else a.2.1) L else L
def acts9 (h : Nat) (l : List Act9) : List (Nat × List UInt8) := l.foldl (act9 h) []
theorem acts9_next (h : Nat) (l : List Act9) (k : Nat) (hk : k < l.length) : acts9 h (l.take (k + 1)) = act9 h (acts9 h (l.take k)) l[k] := by
  unfold acts9
  rw [List.take_succ_eq_append_getElem hk, List.foldl_append]
  rfl
theorem acts9_zero (h : Nat) (l : List Act9) : acts9 h (l.take 0) = [] := rfl
theorem act9_le (h : Nat) (L : List (Nat × List UInt8)) (a : Act9) : (act9 h L a).length ≤ L.length + 1 := by
  unfold act9
  split
  · exact setT_le _ _ _
  · omega
theorem acts9_le (h : Nat) (l : List Act9) : ∀ k, k ≤ l.length → (acts9 h (l.take k)).length ≤ k := by
  intro k
  induction k with
  | zero => intro _; rw [acts9_zero]; simp
  | succ k ih =>
    intro hk
    rw [acts9_next h l k (by omega)]
    have := act9_le h (acts9 h (l.take k)) l[k]
    have := ih (by omega)
    omega
theorem Gd.act {h : Nat} {L : List (Nat × List UInt8)} (g : Gd h L) {a : Act9} (ha : a.2.1.length = 32) : Gd h (act9 h L a) := by
  unfold act9
  cases e : hasB h 0 a.1 with
  | false => exact g
  | true =>
    rw [if_pos rfl]
    refine g.set e ?_
    cases a.2.2
    · exact ha
    · exact emptyL_length 0
theorem Gd.acts {h : Nat} (hh : h ≤ 32) {l : List Act9} (ho : okA l) : Gd h (acts9 h l) := by
  have : ∀ (l : List Act9) (L : List (Nat × List UInt8)), okA l → Gd h L → Gd h (l.foldl (act9 h) L) := by
    intro l
    induction l with
    | nil => exact fun L _ g => g
    | cons a l ih => exact fun L ho g => ih _ (fun b hb => ho b (by simp [hb])) (g.act (ho a (by simp)).2)
  exact this l [] ho (Gd.nil hh)
attribute [irreducible] act9 acts9 arow actV
/-- The program's tree and the document's, side by side, and other blocks of the call. -/
structure BtW (Pt : PtT) (w : World) (S : Nat → Prop) (b h : Nat) (Lt Lm : List (Nat × List UInt8)) (F : List (Nat × Array Value × TypeId)) (M : Nat) (A1 E : Option Addr) (c1 cE : Nat) (W : World) : Prop where
  t : Pt S W b h Lt
  m : At W M #[.int .i64 (h : Int), .slice A1 Lm.length c1, .slice E 33 cE] 33
  l : Lv W W.heap.size A1 Lm
  e : Ev W W.heap.size E
  f : ∀ q ∈ F, At W q.1 q.2.1 q.2.2 ∧ ¬ S q.1
  sM : ¬ S M
  sA : ∀ g o, A1 = some ⟨g, o, none⟩ → Lm ≠ [] → ¬ S g ∧ g ≠ M
  sE : ∀ g o, E = some ⟨g, o, none⟩ → ¬ S g ∧ g ≠ M
  far : ∀ k, S k → w.heap.size ≤ k
  fM : w.heap.size ≤ M ∧ ∀ q ∈ F, q.1 ≠ M
  below : Below w.heap.size w W
section
variable {Pt : PtT} {w0 w W W' : World} {S S' : Nat → Prop} {b h M c1 c2 cE : Nat} {Lt Lm Lt' Lm' : List (Nat × List UInt8)} {F : List (Nat × Array Value × TypeId)} {A1 A2 E : Option Addr}
theorem BtW.new (t : T9c Pt w0) (k : BtW Pt w S b h Lt Lm F M A1 E c1 cE W) (hb : Below W.heap.size W W') : BtW Pt w S b h Lt Lm F M A1 E c1 cE W' :=
  ⟨t.new k.t hb, k.m.new_ hb, k.l.new hb, k.e.new hb, fun q hq => ⟨(k.f q hq).1.new_ hb, (k.f q hq).2⟩, k.sM, k.sA, k.sE, k.far, k.fM, k.below.trans (hb.mono k.below.size)⟩
theorem BtW.push (k : BtW Pt w S b h Lt Lm F M A1 E c1 cE W) {g : Nat} {cs : Array Value} {T : TypeId} (ha : At W g cs T) (hs : ¬ S g) (hm : g ≠ M) : BtW Pt w S b h Lt Lm ((g, cs, T) :: F) M A1 E c1 cE W :=
  ⟨k.t, k.m, k.l, k.e, fun q hq => by
    rcases List.mem_cons.1 hq with rfl | hq
    · exact ⟨ha, hs⟩
    · exact k.f q hq, k.sM, k.sA, k.sE, k.far, ⟨k.fM.1, fun q hq => by
    rcases List.mem_cons.1 hq with rfl | hq
    · exact hm
    · exact k.fM.2 q hq⟩, k.below⟩
theorem BtW.pop {q : Nat × Array Value × TypeId} (k : BtW Pt w S b h Lt Lm (q :: F) M A1 E c1 cE W) : BtW Pt w S b h Lt Lm F M A1 E c1 cE W :=
  ⟨k.t, k.m, k.l, k.e, fun q hq => k.f q (List.mem_cons_of_mem _ hq), k.sM, k.sA, k.sE, k.far, ⟨k.fM.1, fun q hq => k.fM.2 q (List.mem_cons_of_mem _ hq)⟩, k.below⟩
theorem T9c.fresh (t : T9c Pt w0) (p : Pt S W b h Lt) : ¬ S W.heap.size := fun hs => Nat.lt_irrefl _ (t.inn p _ hs).2
theorem BtW.freshM (k : BtW Pt w S b h Lt Lm F M A1 E c1 cE W) : W.heap.size ≠ M := Nat.ne_of_gt k.m.lt
theorem BtW.away (t : T9c Pt w0) (k : BtW Pt w S b h Lt Lm F M A1 E c1 cE W) (hn : ∀ g o, A2 = some ⟨g, o, none⟩ → W.heap.size ≤ g) : ∀ g o, A2 = some ⟨g, o, none⟩ → ¬ S g ∧ g ≠ M := fun g o e =>
  ⟨fun hs => Nat.not_lt.2 (hn g o e) (t.inn k.t _ hs).2, Nat.ne_of_gt (Nat.lt_of_lt_of_le k.m.lt (hn g o e))⟩
/-- Behind a call of the program's tree. -/
theorem BtW.tree (k : BtW Pt w S b h Lt Lm F M A1 E c1 cE W) (p : Pt S' W' b h Lt') (hS : ∀ j, S' j → S j ∨ W.heap.size ≤ j) (hf : Fr S W W') : BtW Pt w S' b h Lt' Lm F M A1 E c1 cE W' := by
  have keep : ∀ j, ¬ S j → j < W.heap.size → ¬ S' j := fun j h1 h2 h3 => (hS j h3).elim h1 (by omega)
  obtain ⟨gE, oE, rfl, hgE, _⟩ := k.e.hash (k := 0) (by omega)
  refine ⟨p, k.m.fr hf k.sM, ?_, ?_, fun q hq => ⟨(k.f q hq).1.fr hf (k.f q hq).2, keep _ (k.f q hq).2 (k.f q hq).1.lt⟩, keep _ k.sM k.m.lt, fun g o e hne => ?_, fun g o e => ?_, fun j hj => ?_, k.fM, ?_⟩
  · by_cases hne : Lm = []
    · subst hne
      exact (show Rd W' W'.heap.size A1 (lrow []) by rw [lrow_nil]; exact Rd.nil _ _ _)
    · exact (Rd.fr k.l hf fun g o e => (k.sA g o e hne).1).mono hf.size
  · exact (Rd.fr k.e hf fun g o e => (k.sE g o e).1).mono hf.size
  · refine ⟨keep _ (k.sA g o e hne).1 ?_, (k.sA g o e hne).2⟩
    have hl : lrow Lm ≠ [] := by
      cases Lm with
      | nil => exact absurd rfl hne
      | cons q r => rw [lrow_cons, lfV]; simp
    obtain ⟨g', o', e', hg', _⟩ := k.l hl
    rw [e] at e'
    cases e'
    exact hg'
  · obtain ⟨rfl, rfl⟩ : gE = g ∧ oE = o := by simpa using e
    exact ⟨keep _ (k.sE _ _ rfl).1 hgE, (k.sE _ _ rfl).2⟩
  · rcases hS j hj with h1 | h1
    · exact k.far j h1
    · exact Nat.le_trans k.below.size h1
  · exact k.below.trans (hf.below k.far k.below.size)
/-- The document's tree anew. -/
theorem BtW.put (t : T9c Pt w0) (k : BtW Pt w S b h Lt Lm F M A1 E c1 cE W) (hl : Lv W W.heap.size A2 Lm') (hs : ∀ g o, A2 = some ⟨g, o, none⟩ → ¬ S g ∧ g ≠ M) :
    BtW Pt w S b h Lt Lm' F M A2 E c2 cE (W.setRow M #[.int .i64 (h : Int), .slice A2 Lm'.length c2, .slice E 33 cE]) := by
  have hsz : (W.setRow M #[.int .i64 (h : Int), .slice A2 Lm'.length c2, .slice E 33 cE]).heap.size = W.heap.size := by simp [World.setRow]
  refine ⟨t.keep k.t (by rw [hsz]; exact Nat.le_refl _) fun j hj => ?_, setRow_heap _ _ _ _ _ _ k.m, Rd.row hl (fun g o e => (hs g o e).2) _, Rd.row k.e (fun g o e => (k.sE g o e).2) _, fun q hq => ⟨(k.f q hq).1.setRow_far (k.fM.2 q hq), (k.f q hq).2⟩, k.sM, fun g o e _ => hs g o e, k.sE, k.far, k.fM, below_setRow k.below k.fM.1 _⟩
  exact setRow_other _ _ _ _ fun e => k.sM (by rw [← e]; exact hj)
end
end Go.Proofs.YtlmecjnlinalkaaDoor
