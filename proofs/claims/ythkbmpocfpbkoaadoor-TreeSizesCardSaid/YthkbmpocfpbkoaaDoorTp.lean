/-
  Layer 9, the document's side: a node by the leaves below it (part).
-/
import Derived.Test.YthkbmpocfpbkoaaDoorTl9
namespace Go.Proofs.YthkbmpocfpbkoaaDoor
open Go.RowKit

/-- The leaves on the left and on the right of a node of height n + 1. -/
def lS (n pl : Nat) (L : List (Nat × List UInt8)) : List (Nat × List UInt8) := L.filter fun p => p.1 >>> n == 2 * pl % 18446744073709551616
def rS (n pl : Nat) (L : List (Nat × List UInt8)) : List (Nat × List UInt8) := L.filter fun p => !(p.1 >>> n == 2 * pl % 18446744073709551616)
/-- A node by the leaves below it. -/
def partS : Nat → Nat → List (Nat × List UInt8) → List UInt8
  | 0, _, L => match L with
    | [] => emptyL 0
    | p :: _ => p.2
  | n + 1, pl, L => if L.isEmpty then emptyL (n + 1) else hashL (joinT (n + 1) (partS n (2 * pl % 18446744073709551616) (lS n pl L)) (partS n ((2 * pl + 1) % 18446744073709551616) (rS n pl L)))
theorem partS_nil (n pl : Nat) : partS n pl [] = emptyL n := by cases n <;> rfl
theorem partS_zero (pl : Nat) (p : Nat × List UInt8) (L : List (Nat × List UInt8)) : partS 0 pl (p :: L) = p.2 := rfl
theorem partS_succ (n pl : Nat) {L : List (Nat × List UInt8)} (h : L ≠ []) : partS (n + 1) pl L = hashL (joinT (n + 1) (partS n (2 * pl % 18446744073709551616) (lS n pl L)) (partS n ((2 * pl + 1) % 18446744073709551616) (rS n pl L))) := by
  cases L with
  | nil => exact absurd rfl h
  | cons p L => rfl
theorem okL.lS {L : List (Nat × List UInt8)} (h : okL L) (n pl : Nat) : okL (lS n pl L) := fun p hp => h p (List.mem_filter.1 hp).1
theorem okL.rS {L : List (Nat × List UInt8)} (h : okL L) (n pl : Nat) : okL (rS n pl L) := fun p hp => h p (List.mem_filter.1 hp).1
theorem lS_le (n pl : Nat) (L : List (Nat × List UInt8)) : (lS n pl L).length ≤ L.length := List.length_filter_le _ _
theorem rS_le (n pl : Nat) (L : List (Nat × List UInt8)) : (rS n pl L).length ≤ L.length := List.length_filter_le _ _
theorem partS_length (n pl : Nat) (L : List (Nat × List UInt8)) (h : okL L) : (partS n pl L).length = 32 := by
  cases L with
  | nil => rw [partS_nil]; exact emptyL_length n
  | cons p L =>
    cases n with
    | zero => exact (h p (by simp)).2
    | succ n => rw [partS_succ n pl (by simp)]; exact hashL_length _
theorem take_next {α : Type} (L : List α) (j : Nat) (hj : j < L.length) : L.take (j + 1) = L.take j ++ [L[j]] := List.take_succ_eq_append_getElem hj
theorem lS_next (n pl : Nat) (L : List (Nat × List UInt8)) (j : Nat) (hj : j < L.length) : lS n pl (L.take (j + 1)) = if (L[j].1 >>> n == 2 * pl % 18446744073709551616) then lS n pl (L.take j) ++ [L[j]] else lS n pl (L.take j) := by
  rw [take_next L j hj]
  unfold lS
  rw [List.filter_append]
  cases h : (L[j].1 >>> n == 2 * pl % 18446744073709551616) <;> simp [h]
theorem rS_next (n pl : Nat) (L : List (Nat × List UInt8)) (j : Nat) (hj : j < L.length) : rS n pl (L.take (j + 1)) = if (L[j].1 >>> n == 2 * pl % 18446744073709551616) then rS n pl (L.take j) else rS n pl (L.take j) ++ [L[j]] := by
  rw [take_next L j hj]
  unfold rS
  rw [List.filter_append]
  cases h : (L[j].1 >>> n == 2 * pl % 18446744073709551616) <;> simp [h]
theorem lS_zero (n pl : Nat) (L : List (Nat × List UInt8)) : lS n pl (L.take 0) = [] := rfl
theorem rS_zero (n pl : Nat) (L : List (Nat × List UInt8)) : rS n pl (L.take 0) = [] := rfl
attribute [irreducible] partS lS rS
theorem At.grown {W W' : World} {g : Nat} {cs : Array Value} {T : TypeId} {row : Option Nat} (h : At W g cs T) (hg : W.grownBy W' row) (hn : row ≠ some g) : At W' g cs T := (hg.block g h.lt (Ne.symm hn)).trans h
theorem Al.lt {W : World} {base : Nat} {v : Value} {L : List (Nat × List UInt8)} (h : Al W base v L) : ∀ k, v.ownBlock = some k → base ≤ k ∧ k < W.heap.size := World.ownsRow.lt h
theorem Al.grown {W W' : World} {base : Nat} {v : Value} {L : List (Nat × List UInt8)} {row : Option Nat} (h : Al W base v L) (hg : W.grownBy W' row) (hn : ∀ g, v.ownBlock = some g → row ≠ some g) : Al W' base v L :=
  World.ownsRow.kept h hg (by
    cases e : v.ownBlock with
    | none => exact Or.inl rfl
    | some g => exact Or.inr (fun q => hn g e q.symm))
/-- What holds in part: the tree, the result, the leaves on both sides. -/
structure PtW (w : World) (T : Array Value) (va vb : Value) (LA LB : List (Nat × List UInt8)) (W : World) : Prop where
  t : At W w.heap.size T 28
  r : At W (w.heap.size + 1) (ubs n32).toArray 35
  a : Al W (w.heap.size + 2) va LA
  b : Al W (w.heap.size + 2) vb LB
  apart : ∀ g, va.ownBlock = some g → vb.ownBlock ≠ some g
  below : Below w.heap.size w W
section
variable {w W W' : World} {T : Array Value} {va vb v : Value} {LA LB : List (Nat × List UInt8)} {p : Nat × List UInt8}
theorem PtW.new (h : PtW w T va vb LA LB W) (hb : Below W.heap.size W W') : PtW w T va vb LA LB W' := ⟨h.t.new_ hb, h.r.new_ hb, h.a.kept hb, h.b.kept hb, h.apart, h.below.trans (hb.mono h.below.size)⟩
theorem PtW.drew (h : PtW w T va vb LA LB W) : PtW w T va vb LA LB W.drew := ⟨h.t, h.r, h.a, h.b, h.apart, h.below.drew⟩
theorem PtW.start (w : World) (T : Array Value) : PtW w T (.slice none 0 0) (.slice none 0 0) [] [] ((w.alloc (.cells T 28)).alloc (.cells (ubs n32).toArray 35)) :=
  ⟨(At.new _ _ _).alloc _, At.new_at (by simp), Al.nil _ _, Al.nil _ _, fun g h => by simp [Value.ownBlock] at h, ((Below.refl w.heap.size w).alloc (Nat.le_refl _) _).alloc (by simp) _⟩
theorem PtW.big (h : PtW w T va vb LA LB W) : w.heap.size + 2 ≤ W.heap.size := by have := h.r.lt; omega
theorem PtW.pushA {o : Obj} (h : PtW w T va vb LA LB W) (ha : Al W' (w.heap.size + 2) v (LA ++ [p])) (hg : (W.alloc o).grownBy W' va.ownBlock) (hv : v.ownBlock = va.ownBlock ∨ v.ownBlock = some (W.alloc o).heap.size) : PtW w T v vb (LA ++ [p]) LB W' := by
  have hn := h.new ((Below.refl W.heap.size W).alloc (Nat.le_refl _) o)
  refine ⟨hn.t.grown hg (fun e => ?_), hn.r.grown hg (fun e => ?_), ha, hn.b.grown hg (fun g e q => h.apart g q e), fun g e q => ?_, hn.below.grown hg hn.below.size (fun k hk => by have := (h.a.lt k hk).1; omega)⟩
  · have := (h.a.lt _ e).1
    omega
  · have := (h.a.lt _ e).1
    omega
  · rcases hv with hv | hv
    · exact h.apart g (hv ▸ e) q
    · have h1 := (h.b.lt g q).2
      rw [hv] at e
      simp at e
      omega
theorem PtW.pushB {o : Obj} (h : PtW w T va vb LA LB W) (ha : Al W' (w.heap.size + 2) v (LB ++ [p])) (hg : (W.alloc o).grownBy W' vb.ownBlock) (hv : v.ownBlock = vb.ownBlock ∨ v.ownBlock = some (W.alloc o).heap.size) : PtW w T va v LA (LB ++ [p]) W' := by
  have hn := h.new ((Below.refl W.heap.size W).alloc (Nat.le_refl _) o)
  refine ⟨hn.t.grown hg (fun e => ?_), hn.r.grown hg (fun e => ?_), hn.a.grown hg (fun g e q => h.apart g e q), ha, fun g e q => ?_, hn.below.grown hg hn.below.size (fun k hk => by have := (h.b.lt k hk).1; omega)⟩
  · have := (h.b.lt _ e).1
    omega
  · have := (h.b.lt _ e).1
    omega
  · rcases hv with hv | hv
    · exact h.apart g e (hv ▸ q)
    · have h1 := (h.a.lt g e).2
      rw [hv] at q
      simp at q
      omega
end
theorem run_loadTr {o : Oper} {a : Go.Act} {W : World} (x : Operand) (ho : o.op = .load 28 x) (b : Nat) (hx : a.eval x = .pointer (some ⟨b, 0, none⟩)) (T : Array Value) (hc : At W b T 28) (hl : (Tryd.prog.info? 28).map (·.size) = some T.size) : (execOp a.eval o).run Tryd.prog W = .ok (.value (.agg T)) W := by
  have := run_load_part (W := W) _ x ho b 0 hx T.toList _ (range_all (show At W b T.toList.toArray _ from by simpa using hc)) Tryd.underlying28 rfl (by rw [hl]; simp)
  simpa using this
/-- An empty hash of a height, where it stands. -/
theorem Ev.hash {W : World} {B : Nat} {E : Option Addr} (h : Ev W B E) {k : Nat} (hk : k < 33) : ∃ g o, E = some ⟨g, o, none⟩ ∧ g < B ∧ W.rangeAt g (o + 32 * k) (ubs (emptyL k)) := by
  have hl : (ubs (eRow 33)).length = 1056 := by rw [ubs_length, eRow_length]
  obtain ⟨g, o, rfl, hg, hc⟩ := h (by intro e; rw [e] at hl; simp at hl)
  obtain ⟨z, hz⟩ := eRow_at 33 k hk
  refine ⟨g, o, rfl, hg, fun j u hu => ?_⟩
  have := hc (32 * k + j) u (by
    rw [hz, ubs_append, ubs_append, List.getElem?_append_right (by rw [ubs_length, eRow_length]; omega), ubs_length, eRow_length, Nat.add_sub_cancel_left, List.getElem?_append_left (by
      have := (List.getElem?_eq_some_iff.1 hu).1
      exact this)]
    exact hu)
  rwa [← Nat.add_assoc] at this
set_option maxRecDepth 100000 in
set_option maxHeartbeats 1000000 in
/-- No leaves: an empty hash. -/
theorem part_nil (n : Nat) (hn : n ≤ 32) (pl : Nat) (h : Int) (A' E A : Option Addr) (n' c' cE c : Nat) (w : World) (he : Ev w w.heap.size E) :
    Calls Tryd.prog 63 #[.agg #[.int .i64 h, .slice A' n' c', .slice E 33 cE], .slice A 0 c, .int .i64 (n : Int), .int .u64 (pl : Int)] w fun r w' => r = .returned (.agg (ubs (emptyL n)).toArray) ∧ Below w.heap.size w w' := by
  obtain ⟨T, hT⟩ : ∃ T : Array Value, T = #[.int .i64 h, .slice A' n' c', .slice E 33 cE] := ⟨_, rfl⟩
  have H0 := hid (PtW.start w T)
  rw [hT] at H0
  have q2 : ((w.alloc (.cells #[.int .i64 h, .slice A' n' c', .slice E 33 cE] 28)).alloc (.cells (ubs n32).toArray 35)).cell? ⟨w.heap.size, 2, none⟩ = some (.slice E 33 cE) := by rw [H0.out.t.cell]; rfl
  obtain ⟨g, o, rfl, hg, hr⟩ := Ev.hash (show Ev _ w.heap.size E from Rd.below he H0.out.below) (k := n) (by omega)
  have HR := hid hr
  have HL := hid (emptyL_length n)
  have HH := hid n32_length
  have hn3 : (n : Int) < 33 := by omega
  generalize emptyL n = e at HR HL ⊢
  obtain ⟨x, hx⟩ : ∃ x, x = o + 32 * n := ⟨_, rfl⟩
  rw [← hx] at HR
  have hx2 : o + n * 32 = x := by omega
  have hz := noughts32
  clear hT hg hr he hx hn
  go_enter Tryd.func63, Tryd.ntmps63
  go_wp2_with (first
    | (refine wpList_valW (by rfl) (run_loadH (.tmp 18) rfl g x rfl e HR.out HL.out) ?_)
    | (refine wpList_store_row rfl _ (.tmp 8) (.tmp 19) rfl (w.heap.size + 1) (ubs e).toArray rfl rfl 35 (ubs n32).toArray H0.out.r (sizeH_of HL.out) ?e5 (ubs_all _) ?e6; rotate_right))
  case e5 => simp [ubs_length, n32_length, HL.out]
  refine bodyPost_ret (results_cell_row rfl _ _ (w.heap.size + 1) 35 (ubs e).toArray (0, 0) _ rfl (setRow_heap _ _ (ubs n32).toArray _ _ _ H0.out.r) Tryd.underlying35 rfl (sizeH_of HL.out)) rfl ?_
  exact ⟨rfl, below_setRow H0.out.below (by omega) _⟩
end Go.Proofs.YthkbmpocfpbkoaaDoor
