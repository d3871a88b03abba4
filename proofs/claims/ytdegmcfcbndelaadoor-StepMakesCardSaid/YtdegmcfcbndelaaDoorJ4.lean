/-
  Layer 9, the document's side: leaves as values; the heights of trees (Has, High).
  Layer 9, the document's side: High, New.
  Layer 9, the document's side: slices of leaves that grow.
  Layer 9, the document's side: a node by the leaves below it (part).
-/
import Derived.Test.YtdegmcfcbndelaaDoorL1
import Derived.Maps.AppendAt
import Derived.Deep.AppendLies
namespace Go.Proofs.YtdegmcfcbndelaaDoor
open Go.RowKit

/-- A leaf's cells; leaves one behind the other. -/
def lfV (p : Nat × List UInt8) : List Value := .int .u64 (p.1 : Int) :: ubs p.2
def lrow : List (Nat × List UInt8) → List Value
  | [] => []
  | p :: L => lfV p ++ lrow L
theorem lrow_nil : lrow [] = [] := rfl
theorem lrow_cons (p : Nat × List UInt8) (L : List (Nat × List UInt8)) : lrow (p :: L) = lfV p ++ lrow L := rfl
theorem lrow_append (L M : List (Nat × List UInt8)) : lrow (L ++ M) = lrow L ++ lrow M := by
  induction L with
  | nil => rfl
  | cons p L ih => rw [List.cons_append, lrow_cons, ih, lrow_cons, List.append_assoc]
theorem lrow_one (p : Nat × List UInt8) : lrow [p] = lfV p := by rw [lrow_cons, lrow_nil, List.append_nil]
/-- Leaves that are right: indices of 64 bits, hashes of 32 bytes. -/
def okL (L : List (Nat × List UInt8)) : Prop := ∀ p ∈ L, p.1 < 18446744073709551616 ∧ p.2.length = 32
theorem okL.nil : okL [] := fun _ h => nomatch h
theorem okL.append {L M : List (Nat × List UInt8)} (h : okL L) (k : okL M) : okL (L ++ M) := fun p hp => (List.mem_append.1 hp).elim (h p) (k p)
theorem okL.one {i : Nat} {h : List UInt8} (hi : i < 18446744073709551616) (hh : h.length = 32) : okL [(i, h)] := fun p hp => by
  obtain rfl : p = (i, h) := by simpa using hp
  exact ⟨hi, hh⟩
theorem okL.take {L : List (Nat × List UInt8)} (h : okL L) (k : Nat) : okL (L.take k) := fun p hp => h p (List.mem_of_mem_take hp)
theorem okL.get {L : List (Nat × List UInt8)} (h : okL L) {k : Nat} (hk : k < L.length) : L[k].1 < 18446744073709551616 ∧ L[k].2.length = 32 := h _ (List.getElem_mem hk)
theorem lfV_length {p : Nat × List UInt8} (h : p.2.length = 32) : (lfV p).length = 33 := by simp [lfV, ubs_length, h]
theorem lrow_length {L : List (Nat × List UInt8)} (h : okL L) : (lrow L).length = 33 * L.length := by
  induction L with
  | nil => rfl
  | cons p L ih =>
    rw [lrow_cons, List.length_append, lfV_length (h p (by simp)).2, ih (fun q hq => h q (by simp [hq])), List.length_cons]
    omega
theorem lrow_at {L : List (Nat × List UInt8)} (k : Nat) (hk : k < L.length) : ∃ z, lrow L = lrow (L.take k) ++ (lfV L[k] ++ z) := by
  refine ⟨lrow (L.drop (k + 1)), ?_⟩
  rw [← lrow_cons, ← lrow_append, List.getElem_cons_drop, List.take_append_drop]
theorem lfV_one (p : Nat × List UInt8) : ∀ u ∈ lfV p, u.oneCell' = true := by
  intro u hu
  rcases List.mem_cons.1 hu with rfl | hu
  · rfl
  · exact ubs_one _ u hu
attribute [irreducible] lrow
/-- What a slice of leaves reads as. -/
def Lv (W : World) (B : Nat) (A : Option Addr) (L : List (Nat × List UInt8)) : Prop := Rd W B A (lrow L)
section
variable {W W' : World} {B B' : Nat} {A : Option Addr} {L : List (Nat × List UInt8)}
theorem Lv.below (h : Lv W B A L) (hb : Below B W W') : Lv W' B A L := Rd.below h hb
theorem Lv.mono (h : Lv W B A L) (hB : B ≤ B') : Lv W B' A L := Rd.mono h hB
theorem Lv.new (h : Lv W W.heap.size A L) (hb : Below W.heap.size W W') : Lv W' W'.heap.size A L := (h.below hb).mono hb.size
theorem Lv.drew (h : Lv W B A L) : Lv W.drew B A L := h
/-- The leaf of a number: where it stands. -/
theorem Lv.leaf (h : Lv W B A L) (ho : okL L) {k : Nat} (hk : k < L.length) : ∃ g o, A = some ⟨g, o, none⟩ ∧ g < B ∧ W.rangeAt g (o + 33 * k) (lfV L[k]) := by
  obtain ⟨z, hz⟩ := lrow_at k hk
  have hne : lrow L ≠ [] := by
    intro e
    rw [e] at hz
    have := congrArg List.length hz
    rw [List.length_append, List.length_append, lfV_length (ho.get hk).2] at this
    simp at this
    omega
  obtain ⟨g, o, rfl, hg, hc⟩ := h hne
  refine ⟨g, o, rfl, hg, fun j u hu => ?_⟩
  have hl : (lrow (L.take k)).length = 33 * k := by rw [lrow_length (ho.take k), List.length_take]; congr 1; omega
  have := hc (33 * k + j) u (by
    rw [hz, List.getElem?_append_right (by omega), hl, Nat.add_sub_cancel_left, List.getElem?_append_left (by
      have := (List.getElem?_eq_some_iff.1 hu).1
      exact this)]
    exact hu)
  rw [Nat.add_assoc]
  exact this
end
theorem leaf_index {W : World} {g o : Nat} {p : Nat × List UInt8} (h : W.rangeAt g o (lfV p)) : W.cell? ⟨g, o, none⟩ = some (.int .u64 (p.1 : Int)) := h 0 _ rfl
theorem leaf_hash {W : World} {g o : Nat} {p : Nat × List UInt8} (h : W.rangeAt g o (lfV p)) : W.rangeAt g (o + 1) (ubs p.2) := fun j u hu => by
  have := h (j + 1) u (by rw [lfV, List.getElem?_cons_succ]; exact hu)
  rwa [show o + (j + 1) = o + 1 + j by omega] at this
theorem sizeLf : (Tryd.prog.info? 107).map (·.size) = some 33 := by kernel_rfl
theorem run_loadLf {o : Oper} {a : Go.Act} {W : World} (x : Operand) (ho : o.op = .load 107 x) (b off : Nat) (hx : a.eval x = .pointer (some ⟨b, off, none⟩)) (p : Nat × List UInt8) (hc : W.rangeAt b off (lfV p)) (hl : p.2.length = 32) : (execOp a.eval o).run Tryd.prog W = .ok (.value (.agg (lfV p).toArray)) W :=
  run_load_part _ x ho b off hx (lfV p) _ hc Tryd.underlying107 rfl (by rw [sizeLf, lfV_length hl])
/-- Whether there is such a node. -/
def hasB (h : Nat) (level : Int) (place : Nat) : Bool := decide (0 ≤ level) && decide (level ≤ h) && decide (place < 2 ^ (h - level.toNat))
theorem pow_le32 {k : Nat} (h : k ≤ 32) : 2 ^ k ≤ 4294967296 := by
  have := Nat.pow_le_pow_right (n := 2) (by omega) h
  simpa using this
set_option maxRecDepth 100000 in
set_option maxHeartbeats 1000000 in
theorem hasR_any (h : Nat) (level : Int) (place : Nat) (A E : Option Addr) (n c n' c' : Nat) (w : World) (hh : h ≤ 32) :
    Calls Tryd.prog 15 #[.agg #[.int .i64 (h : Int), .slice A n c, .slice E n' c'], .int .i64 level, .int .u64 (place : Int)] w fun r w' => r = .returned (.bool (hasB h level place)) ∧ Below w.heap.size w w' := by
  have H0 := hid (At.new w #[.int .i64 (h : Int), .slice A n c, .slice E n' c'] 33)
  have B0 := hid ((Below.refl w.heap.size w).alloc (Nat.le_refl _) (.cells #[.int .i64 (h : Int), .slice A n c, .slice E n' c'] 33))
  have HQ := hid (fun (W : World) (hA : At W w.heap.size #[.int .i64 (h : Int), .slice A n c, .slice E n' c'] 33) => show W.cell? ⟨w.heap.size, 0, none⟩ = some (.int .i64 (h : Int)) by rw [hA.cell]; rfl)
  have q0 := HQ.out _ H0.out
  by_cases h1 : level < 0
  · have c0 : decide (level < 0) = true := by simp; omega
    have e0 : hasB h level place = false := by unfold hasB; simp; omega
    rw [e0]
    clear e0 h1 hh
    go_enter Tryd.func15, Tryd.ntmps15
    go_wp2
    go_ret
    exact ⟨rfl, B0.out⟩
  have c0 : decide (level < 0) = false := by simp; omega
  obtain ⟨l, rfl⟩ : ∃ l : Nat, level = (l : Int) := ⟨level.toNat, by omega⟩
  by_cases h2 : h < l
  · have c1 : decide ((h : Int) < (l : Int)) = true := by simp; omega
    have c1' : decide (h < l) = true := by simp; omega
    have e0 : hasB h (l : Int) place = false := by unfold hasB; simp; omega
    rw [e0]
    clear e0 h1 h2 hh
    go_enter Tryd.func15, Tryd.ntmps15
    go_wp2
    go_ret
    exact ⟨rfl, B0.out⟩
  have c1 : decide ((h : Int) < (l : Int)) = false := by simp; omega
  have c1' : decide (h < l) = false := by simp; omega
  obtain ⟨r, hr⟩ : ∃ r, hasB h (l : Int) place = r := ⟨_, rfl⟩
  have HR := hid (show decide (place < 2 ^ (h - l)) = r by rw [← hr]; unfold hasB; simp; omega)
  rw [hr]
  have HL := hid (show l ≤ h by omega)
  have HH := hid hh
  clear hr h1 h2 hh
  go_enter Tryd.func15, Tryd.ntmps15
  go_wp2
  clear q0
  go_loopw [7, 8] (fun v7 v8 wr => ∃ k m : Nat, k + l ≤ h ∧ v8 = .int .i64 ((k + l : Nat) : Int) ∧ v7 = .int .u64 (m : Int) ∧ Hid (m = 2 ^ k) ∧ At wr w.heap.size #[.int .i64 (h : Int), .slice A n c, .slice E n' c'] 33 ∧ Below w.heap.size w wr) (fun _ v8 _ => h - (intOf v8).toNat)
  case atStart => exact ⟨0, 1, by have := HL.out; omega, by rw [Nat.zero_add], rfl, hid rfl, H0.out, B0.out⟩
  case round =>
    clear H0 B0
    obtain ⟨k, m, hk, rfl, rfl, hm, hA, hB⟩ := hrel
    have HA := hid hA
    have HB := hid hB
    have q0 := HQ.out _ hA
    clear hA hB
    obtain ⟨i, hi⟩ : ∃ i, i = k + l := ⟨_, rfl⟩
    rw [← hi]
    have HI := hid hi
    by_cases hlt : i < h
    · have c2 : decide ((i : Int) < (h : Int)) = true := by simp; omega
      have c2' : decide (i < h) = true := by simp; omega
      have hm2 : m ≤ 4294967296 := by rw [hm.out]; exact pow_le32 (by have := HH.out; omega)
      have wm : IntKind.u64.wrap ((m : Int) * 2) = ((m * 2 : Nat) : Int) := by simp [IntKind.wrap, IntKind.signed, IntKind.bits]; omega
      have wi : IntKind.i64.wrap ((i : Int) + 1) = ((i + 1 : Nat) : Int) := by have := HH.out; simp [IntKind.wrap, IntKind.signed, IntKind.bits]; omega
      have HM := hid (show m * 2 = 2 ^ (k + 1) by rw [hm.out, Nat.pow_succ])
      obtain ⟨m', hm'⟩ : ∃ m', m' = m * 2 := ⟨_, rfl⟩
      rw [← hm'] at wm HM
      obtain ⟨i', hi'⟩ : ∃ i', i' = i + 1 := ⟨_, rfl⟩
      rw [← hi'] at wi
      have HI' := hid hi'
      clear hm hm2 hi hm' hi' hk hlt
      go_wp2
      exact ⟨⟨k + 1, m', by have := HI.out; have := HI'.out; have := of_decide_eq_true c2; omega, by rw [HI'.out, HI.out, show k + 1 + l = k + l + 1 by omega], rfl, HM, HA.out, HB.out⟩, by have := of_decide_eq_true c2; have := HI'.out; simp [intOf]; omega⟩
    · have e1 : i = h := by omega
      have c2 : decide ((i : Int) < (h : Int)) = false := by simp; omega
      have c2' : decide (i < h) = false := by simp; omega
      have c3' : decide (place < m) = r := by rw [← HR.out, show h - l = k by omega, ← hm.out]
      have c3 : decide ((place : Int) < (m : Int)) = r := by
        rw [← HR.out, show h - l = k by omega, ← hm.out]
        exact decide_eq_decide.2 (by omega)
      clear e1 hm hi hk hlt
      go_wp2
      go_ret
      exact ⟨rfl, HB.out⟩
end Go.Proofs.YtdegmcfcbndelaaDoor

namespace Go.Proofs.YtdegmcfcbndelaaDoor
open Go.RowKit

/-- The least height from h on whose power is enough. -/
def hgF (b : Nat) : Nat → Nat → Nat
  | 0, h => h
  | f + 1, h => if b ≤ 2 ^ h then h else hgF b f (h + 1)
def highN (b : Nat) : Nat := hgF b 33 0
def highOk (b : Nat) : Bool := b != 0 && decide (b ≤ 4294967296)
theorem hgF_stop {b f h : Nat} (hb : b ≤ 2 ^ h) : hgF b (f + 1) h = h := by rw [hgF, if_pos hb]
theorem hgF_go {b f h : Nat} (hb : 2 ^ h < b) : hgF b (f + 1) h = hgF b f (h + 1) := by rw [hgF, if_neg (by omega)]
theorem hgF_spec (b : Nat) : ∀ f h, b ≤ 2 ^ (h + f) → (∀ k, k < h → 2 ^ k < b) → b ≤ 2 ^ hgF b f h ∧ hgF b f h ≤ h + f ∧ ∀ k, k < hgF b f h → 2 ^ k < b := by
  intro f
  induction f with
  | zero => exact fun h h1 h2 => ⟨h1, Nat.le_refl _, h2⟩
  | succ f ih =>
    intro h h1 h2
    by_cases e : b ≤ 2 ^ h
    · rw [hgF_stop e]
      exact ⟨e, by omega, h2⟩
    · rw [hgF_go (by omega)]
      obtain ⟨a, c, d⟩ := ih (h + 1) (by rwa [show h + 1 + f = h + (f + 1) by omega]) (fun k hk => by
        by_cases q : k = h
        · subst q; omega
        · exact h2 k (by omega))
      exact ⟨a, by omega, d⟩
theorem highN_spec {b : Nat} (hb : b ≤ 4294967296) : b ≤ 2 ^ highN b ∧ highN b ≤ 32 ∧ ∀ k, k < highN b → 2 ^ k < b := by
  obtain ⟨h1, -, h3⟩ := hgF_spec b 33 0 (by simp; omega) (fun k hk => by omega)
  refine ⟨h1, ?_, h3⟩
  refine Nat.le_of_not_lt fun h => ?_
  have := h3 32 h
  have e : (2 : Nat) ^ 32 = 4294967296 := by decide
  omega
theorem sizeTr : (Tryd.prog.info? 33).map (·.size) = some 3 := by kernel_rfl
theorem zeroTr : (Tryd.prog.info? 33).bind (·.zero) = some (.agg #[.int .i64 0, .slice none 0 0, .slice none 0 0]) := by kernel_rfl
theorem built_tr (h : Int) (E : Option Addr) (n c : Nat) : Tryd.prog.built 33 [(0, .int .i64 h), (2, .slice E n c)] = some #[.int .i64 h, .slice none 0 0, .slice E n c] := by kernel_rfl
theorem run_build_tr {o : Oper} {a : Go.Act} {W : World} (x y : Operand) (ho : o.op = .build 33 #[(0, x), (2, y)]) (h : Int) (E : Option Addr) (n c : Nat) (hx : a.eval x = .int .i64 h) (hy : a.eval y = .slice E n c) : (execOp a.eval o).run Tryd.prog W = .ok (.value (.agg #[.int .i64 h, .slice none 0 0, .slice E n c])) W :=
  run_build_of _ _ ho _ (by
    rw [← built_tr h E n c]
    simp [hx, hy])
/-- All empty hashes as a slice reads them. -/
def Ev (W : World) (B : Nat) (E : Option Addr) : Prop := Rd W B E (ubs (eRow 33))
theorem Ev.new {W W' : World} {E : Option Addr} (h : Ev W W.heap.size E) (hb : Below W.heap.size W W') : Ev W' W'.heap.size E := (Rd.below h hb).mono hb.size
theorem Ev.drew {W : World} {B : Nat} {E : Option Addr} (h : Ev W B E) : Ev W.drew B E := h
theorem Ev.of_row {W : World} {base g c : Nat} (h : Hw W base (.slice (some ⟨g, 0, none⟩) 33 c) 33 (eRow 33)) : Ev W W.heap.size (some ⟨g, 0, none⟩) := fun _ => by
  refine ⟨g, 0, rfl, ?_, fun j u hu => ?_⟩
  · rcases h.2 with ⟨_, h2⟩ | ⟨g', cap, cur, e, hb1, hh, r⟩
    · have := h.1
      omega
    · obtain rfl : g = g' := by cases e; rfl
      exact lt_of_block hh
  · have := h.cells (g := g) rfl j u hu
    rwa [add_plain] at this
/-- A slice that reads as before where another block is filled. -/
theorem Rd.row {W : World} {A : Option Addr} {xs : List Value} {g : Nat} (h : Rd W W.heap.size A xs) (hn : ∀ b o, A = some ⟨b, o, none⟩ → b ≠ g) (cs : Array Value) : Rd (W.setRow g cs) (W.setRow g cs).heap.size A xs := by
  have e : (W.setRow g cs).heap.size = W.heap.size := by simp [World.setRow]
  rw [e]
  exact Rd.fr h ((Fr.refl (fun k => k = g) W).setRow (.inr rfl) cs) (fun b o q hS => hn b o q hS)
theorem tr_cell {W : World} {g : Nat} {cs : List Value} {T : TypeId} (h : At W g cs.toArray T) (k : Nat) : W.cell? ⟨g, k, none⟩ = cs[k]? := by rw [h.cell k, List.getElem?_toArray]
theorem Hw.above {W w : World} {g c : Nat} {o : Obj} (h : Hw W (w.alloc o).heap.size (.slice (some ⟨g, 0, none⟩) 33 c) 33 (eRow 33)) : w.heap.size < g := by
  obtain ⟨g', c', e, hb⟩ := Hw.block h (by omega)
  obtain rfl : g = g' := by cases e; rfl
  simp at hb
  omega
set_option maxRecDepth 100000 in
set_option maxHeartbeats 1000000 in
theorem newR9_any (h : Int) (w : World) (hT : Tabr w) (hI : Tab w 1 IV.l) :
    Calls Tryd.prog 56 #[.int .i64 h] w fun r w' => ∃ g c, r = .returned (.agg #[.int .i64 h, .slice none 0 0, .slice (some ⟨g, 0, none⟩) 33 c]) ∧ Ev w' w'.heap.size (some ⟨g, 0, none⟩) ∧ Below w.heap.size w w' ∧ w.heap.size ≤ g := by
  have HAT := hid (fun (o : Oper) (a : Go.Act) (W : World) (h : o.op = .alloc 33) => run_alloc_of (o := o) (a := a) (W := W) _ h _ zeroTr)
  have A0 := hid (At.new w #[.int .i64 0, .slice none 0 0, .slice none 0 0] 33)
  have B0 := hid ((Below.refl w.heap.size w).alloc (Nat.le_refl _) (.cells #[.int .i64 0, .slice none 0 0, .slice none 0 0] 33))
  have HRE := hid (emptiesR_any (w.alloc (.cells #[.int .i64 0, .slice none 0 0, .slice none 0 0] 33)) (hT.below B0.out) (Tab.below (x := IV.a) (xs := [IV.b, IV.c, IV.d, IV.e, IV.f, IV.g, IV.h]) hI B0.out))
  have HSZ := hid (fun (cs : Array Value) (h : cs.size = 3) => show (Tryd.prog.info? 33).map (·.size) = some cs.size by rw [sizeTr, h])
  clear hT hI
  go_enter Tryd.func56, Tryd.ntmps56
  go_wp2_with (first
    | (refine Great.wpList_allocTo rfl _ rfl _ _ (HAT.out _ _ _ rfl) ?_)
    | (go_at_call 87; refine HRE.out.mono ?_; rintro r1 w1 ⟨g, c, rfl, he1, hb1⟩; have A1 := hid (A0.out.new_ hb1); have B1 := hid (B0.out.trans (hb1.mono B0.out.size)); have E1 := hid (Ev.of_row he1); have G1 := hid (Hw.above he1); have c0 := tr_cell A1.out 0; have c1 := tr_cell A1.out 1; have c2 := tr_cell A1.out 2; have f0 := A1.out.frozen 0; have f1 := A1.out.frozen 1; have f2 := A1.out.frozen 2; simp only [List.getElem?_cons_zero, List.getElem?_cons_succ] at c0 c1 c2; clear he1 hb1)
    | (refine wpList_valW (by rfl) (run_build_tr (.tmp 3) (.tmp 4) rfl h (some ⟨g, 0, none⟩) 33 c rfl rfl) ?_))
  have A2 := (show At (((w1.setCell ⟨w.heap.size, 0, none⟩ (.int .i64 h)).setCell ⟨w.heap.size, 1, none⟩ (.slice none 0 0)).setCell ⟨w.heap.size, 2, none⟩ (.slice (some ⟨g, 0, none⟩) 33 c)) w.heap.size #[.int .i64 h, .slice none 0 0, .slice (some ⟨g, 0, none⟩) 33 c] 33 from ((A1.out.put 0 _).put 1 _).put 2 _)
  refine bodyPost_ret (results_cell_row rfl _ _ w.heap.size 33 #[.int .i64 h, .slice none 0 0, .slice (some ⟨g, 0, none⟩) 33 c] (0, 0) _ rfl A2 Tryd.underlying33 rfl (HSZ.out _ rfl)) rfl ?_
  have hg : ∀ (b o : Nat), (some ⟨g, 0, none⟩ : Option Addr) = some ⟨b, o, none⟩ → b ≠ w.heap.size := fun b o e => by
    obtain ⟨rfl, rfl⟩ : g = b ∧ 0 = o := by simpa using e
    have := G1.out
    omega
  refine ⟨g, c, rfl, ?_, ((B1.out.setCell (p := ⟨w.heap.size, 0, none⟩) (Nat.le_refl _) _).setCell (p := ⟨w.heap.size, 1, none⟩) (Nat.le_refl _) _).setCell (p := ⟨w.heap.size, 2, none⟩) (Nat.le_refl _) _, by have := G1.out; omega⟩
  have := ((Rd.setCell E1.out (p := ⟨w.heap.size, 0, none⟩) hg (.int .i64 h)).setCell (p := ⟨w.heap.size, 1, none⟩) hg (.slice none 0 0)).setCell (p := ⟨w.heap.size, 2, none⟩) hg (.slice (some ⟨g, 0, none⟩) 33 c)
  exact Rd.mono this (by simp [World.setCell])
end Go.Proofs.YtdegmcfcbndelaaDoor

namespace Go.Proofs.YtdegmcfcbndelaaDoor
open Go.RowKit

theorem infoLf : (Tryd.prog.info? 107).map (fun i => (i.zero, i.size, i.bytes)) = some (some (.agg (lfV (0, n32)).toArray), 33, 40) := by kernel_rfl
theorem infoLf_parts : ∃ i, Tryd.prog.info? 107 = some i ∧ i.zero = some (.agg (lfV (0, n32)).toArray) ∧ i.size = 33 ∧ i.bytes = 40 := by
  have := infoLf
  cases h : Tryd.prog.info? 107 with
  | none => rw [h] at this; cases this
  | some ie =>
    rw [h] at this
    simp only [Option.map_some, Option.some.injEq, Prod.mk.injEq] at this
    exact ⟨ie, rfl, this.1, this.2.1, this.2.2⟩
/-- The only part of a literal of one leaf. -/
theorem fillLf (p : Nat × List UInt8) (hl : p.2.length = 32) : Instr.fill (fun i => some (i * 33, 33)) ((Array.range (1 * 33)).map ((Value.agg (lfV (0, n32)).toArray).cells[· % (Value.agg (lfV (0, n32)).toArray).cells.size]!)) [(0, .agg (lfV p).toArray)] = some (lfV p).toArray := by
  have h0 : (Array.range (1 * 33)).map ((Value.agg (lfV (0, n32)).toArray).cells[· % (Value.agg (lfV (0, n32)).toArray).cells.size]!) = (lfV (0, n32)).toArray := by kernel_rfl
  rw [h0, fill_step _ 0 0 33 (lfV (0, n32)) (lfV p) _ _ rfl (by simp) (by rw [lfV_length hl]) (by rw [lfV_length n32_length]; omega)]
  have := spv_at [] (lfV (0, n32)) [] (lfV p) (by rw [lfV_length hl, lfV_length n32_length])
  rw [List.append_nil, List.append_nil, List.nil_append, List.nil_append] at this
  rw [show spv (lfV (0, n32)) 0 (lfV p) = lfV p from this]
  rfl
theorem run_buildLf {o : Oper} {a : Go.Act} {W : World} (x : Operand) (ho : o.op = .buildSlice 30 1 #[(0, x)]) (p : Nat × List UInt8) (hl : p.2.length = 32) (hx : a.eval x = .agg (lfV p).toArray) :
    (execOp a.eval o).run Tryd.prog W = .ok (.value (.slice (some ⟨W.heap.size, 0, none⟩) 1 1)) (W.alloc (.cells (lfV p).toArray 107)) := by
  obtain ⟨ie, hie, hz, hs, -⟩ := infoLf_parts
  unfold execOp
  simp only [ho, Sem.run_bind]
  rw [run_buildSlice W _ _ 1 _ (lfV p).toArray ie _ Tryd.underlying30 hie hz (by rw [hs]; decide) (by rw [hs]; decide) (by rw [hs]; simpa [hx] using fillLf p hl)]
  rfl
/-- A slice of leaves of the call's own. -/
def Al (W : World) (base : Nat) (v : Value) (L : List (Nat × List UInt8)) : Prop := W.ownsRow base 107 33 v L.length (lrow L)
theorem Al.nil (W : World) (base : Nat) : Al W base (.slice none 0 0) [] := by
  unfold Al
  rw [lrow_nil]
  exact World.ownsRow_nil _ _ _ _
theorem Al.form {W : World} {base : Nat} {v : Value} {L : List (Nat × List UInt8)} (h : Al W base v L) : ∃ A c, v = .slice A L.length c := by
  rcases h.2 with ⟨h1, h2⟩ | ⟨g, cap, cur, e, -⟩
  · rw [h1, h2]
    exact ⟨_, _, rfl⟩
  · exact ⟨_, _, e⟩
/-- What it reads as. -/
theorem Al.lv {W : World} {base c : Nat} {A : Option Addr} {L : List (Nat × List UInt8)} (h : Al W base (.slice A L.length c) L) : Lv W W.heap.size A L := fun hne => by
  rcases h.2 with ⟨h1, h2⟩ | ⟨g, cap, cur, e, hb, hh, -⟩
  · refine absurd ?_ hne
    obtain rfl : L = [] := List.eq_nil_of_length_eq_zero h2
    exact lrow_nil
  · obtain rfl : A = some ⟨g, 0, none⟩ := by cases e; rfl
    refine ⟨g, 0, rfl, lt_of_block hh, fun j u hu => ?_⟩
    have := World.ownsRow.cells h (g := g) rfl j u hu
    rwa [add_plain] at this
theorem Al.kept {W W' : World} {base : Nat} {v : Value} {L : List (Nat × List UInt8)} (h : Al W base v L) (hb : Below W.heap.size W W') : Al W' base v L := by
  refine ⟨h.1, ?_⟩
  rcases h.2 with h2 | ⟨g, cap, cur, rfl, hb1, hh, r⟩
  · exact .inl h2
  · exact .inr ⟨g, cap, cur, rfl, hb1, (hb.block g (lt_of_block hh)).trans hh, r⟩
/-- A leaf is appended. -/
theorem wpList_append_lf {ops : Array Oper} {rest : List Oper} {o : Oper} {a : Go.Act} {W : World} {Q : Exit → Go.Act → World → Prop} (hw : Region.wanted o (yielded ops a.tmps) = true) (s x : Operand)
    (ho : o.op = .call { callee := .builtin .append, args := #[s, x], argTypes := #[30, 30] })
    (base : Nat) (v : Value) (L : List (Nat × List UInt8)) (hs : a.eval s = v) (hown : Al W base v L) (q : Nat) (p : Nat × List UInt8) (hx : a.eval x = .slice (some ⟨q, 0, none⟩) 1 1) (hq : At W q (lfV p).toArray 107) (hp : p.2.length = 32) (hl : L.length ≤ 1000) (hbase : base ≤ W.heap.size)
    (h : ∀ A c w', Al w' base (.slice A (L ++ [p]).length c) (L ++ [p]) → W.grownBy w' v.ownBlock → ((Value.slice A (L ++ [p]).length c).ownBlock = v.ownBlock ∨ (Value.slice A (L ++ [p]).length c).ownBlock = some W.heap.size) → wpList Tryd.prog ops Q rest (a.put o.dst (.slice A (L ++ [p]).length c)) w') :
    wpList Tryd.prog ops Q (o :: rest) a W :=
  BigFrame.wpList_want hw fun K hK => by
    obtain ⟨i, hi, hz, hsz, hby⟩ := infoLf_parts
    obtain ⟨v', w', hr, h2, h3, -, h5⟩ := run_append_own_at (P := Tryd.prog) W base 30 o.type 107 i _ 33 40 Tryd.underlying30 hi hz hsz hby (by show (lfV (0, n32)).toArray.size = 33; rw [List.size_toArray]; exact lfV_length (p := (0, n32)) n32_length) (by omega) v L.length (lrow L) hown ⟨q, 0, none⟩ 1 1 (lfV p) (by rw [lfV_length hp])
      (fun j u hu => by rw [add_plain, Nat.zero_add, hq.cell j, List.getElem?_toArray]; exact hu) (lfV_one p) (by unfold maxLen; omega) (by omega) hbase
    have h6 : Al w' base v' (L ++ [p]) := by
      unfold Al
      rw [lrow_append, lrow_one, List.length_append]
      exact h2
    obtain ⟨A, c, rfl⟩ := h6.form
    unfold Oper.wp execOp
    simp only [ho, resolve, invoke, builtin, Sem.run_bind, Sem.run_pure, Result.andThen_ok, List.map_toArray, List.map_cons, List.map_nil, hs, hx, hr]
    exact hK _ _ (h A c w' h6 h3 h5)
end Go.Proofs.YtdegmcfcbndelaaDoor

namespace Go.Proofs.YtdegmcfcbndelaaDoor
open Go.RowKit

/-- The leaves on the left and on the right of a node of height n + 1. -/
def lS (n pl : Nat) (L : List (Nat × List UInt8)) : List (Nat × List UInt8) := L.filter fun p => p.1 >>> n == 2 * pl % 18446744073709551616
def rS (n pl : Nat) (L : List (Nat × List UInt8)) : List (Nat × List UInt8) := L.filter fun p => !(p.1 >>> n == 2 * pl % 18446744073709551616)
/-- A node by the leaves below it. -/
def partS : Nat → Nat → List (Nat × List UInt8) → List UInt8
  | 0, _, L => match L with
    | [] => emptyL 0
    | p :: _ => p.2
  | n + 1, pl, L => if L.isEmpty then emptyL (n + 1) else hashL (joinT (n + 1) (partS n (2 * pl % 18446744073709551616) (lS n pl L)) (partS n ((2 * pl + 1) % 18446744073709551616) (rS n pl L)))
theorem partS_nil (n pl : Nat) : partS n pl [] = emptyL n := by cases n <;> rfl
theorem partS_zero (pl : Nat) (p : Nat × List UInt8) (L : List (Nat × List UInt8)) : partS 0 pl (p :: L) = p.2 := rfl
theorem partS_succ (n pl : Nat) {L : List (Nat × List UInt8)} (h : L ≠ []) : partS (n + 1) pl L = hashL (joinT (n + 1) (partS n (2 * pl % 18446744073709551616) (lS n pl L)) (partS n ((2 * pl + 1) % 18446744073709551616) (rS n pl L))) := by
  cases L with
  | nil => exact absurd rfl h
  | cons p L => rfl
theorem okL.lS {L : List (Nat × List UInt8)} (h : okL L) (n pl : Nat) : okL (lS n pl L) := fun p hp => h p (List.mem_filter.1 hp).1
theorem okL.rS {L : List (Nat × List UInt8)} (h : okL L) (n pl : Nat) : okL (rS n pl L) := fun p hp => h p (List.mem_filter.1 hp).1
theorem lS_le (n pl : Nat) (L : List (Nat × List UInt8)) : (lS n pl L).length ≤ L.length := List.length_filter_le _ _
theorem rS_le (n pl : Nat) (L : List (Nat × List UInt8)) : (rS n pl L).length ≤ L.length := List.length_filter_le _ _
theorem partS_length (n pl : Nat) (L : List (Nat × List UInt8)) (h : okL L) : (partS n pl L).length = 32 := by
  cases L with
  | nil => rw [partS_nil]; exact emptyL_length n
  | cons p L =>
    cases n with
    | zero => exact (h p (by simp)).2
    | succ n => rw [partS_succ n pl (by simp)]; exact hashL_length _
theorem take_next {α : Type} (L : List α) (j : Nat) (hj : j < L.length) : L.take (j + 1) = L.take j ++ [L[j]] := List.take_succ_eq_append_getElem hj
theorem lS_next (n pl : Nat) (L : List (Nat × List UInt8)) (j : Nat) (hj : j < L.length) : lS n pl (L.take (j + 1)) = if (L[j].1 >>> n == 2 * pl % 18446744073709551616) then lS n pl (L.take j) ++ [L[j]] else lS n pl (L.take j) := by
  rw [take_next L j hj]
  unfold lS
  rw [List.filter_append]
  cases h : (L[j].1 >>> n == 2 * pl % 18446744073709551616) <;> simp [h]
theorem rS_next (n pl : Nat) (L : List (Nat × List UInt8)) (j : Nat) (hj : j < L.length) : rS n pl (L.take (j + 1)) = if (L[j].1 >>> n == 2 * pl % 18446744073709551616) then rS n pl (L.take j) else rS n pl (L.take j) ++ [L[j]] := by
  rw [take_next L j hj]
  unfold rS
  rw [List.filter_append]
  cases h : (L[j].1 >>> n == 2 * pl % 18446744073709551616) <;> simp [h]
theorem lS_zero (n pl : Nat) (L : List (Nat × List UInt8)) : lS n pl (L.take 0) = [] := rfl
theorem rS_zero (n pl : Nat) (L : List (Nat × List UInt8)) : rS n pl (L.take 0) = [] := rfl
attribute [irreducible] partS lS rS
theorem At.grown {W W' : World} {g : Nat} {cs : Array Value} {T : TypeId} {row : Option Nat} (h : At W g cs T) (hg : W.grownBy W' row) (hn : row ≠ some g) : At W' g cs T := (hg.block g h.lt (Ne.symm hn)).trans h
theorem Al.lt {W : World} {base : Nat} {v : Value} {L : List (Nat × List UInt8)} (h : Al W base v L) : ∀ k, v.ownBlock = some k → base ≤ k ∧ k < W.heap.size := World.ownsRow.lt h
theorem Al.grown {W W' : World} {base : Nat} {v : Value} {L : List (Nat × List UInt8)} {row : Option Nat} (h : Al W base v L) (hg : W.grownBy W' row) (hn : ∀ g, v.ownBlock = some g → row ≠ some g) : Al W' base v L :=
  World.ownsRow.kept h hg (by
    cases e : v.ownBlock with
    | none => exact Or.inl rfl
    | some g => exact Or.inr (fun q => hn g e q.symm))
/-- What holds in part: the tree, the result, the leaves on both sides. -/
structure PtW (w : World) (T : Array Value) (va vb : Value) (LA LB : List (Nat × List UInt8)) (W : World) : Prop where
  t : At W w.heap.size T 33
  r : At W (w.heap.size + 1) (ubs n32).toArray 25
  a : Al W (w.heap.size + 2) va LA
  b : Al W (w.heap.size + 2) vb LB
  apart : ∀ g, va.ownBlock = some g → vb.ownBlock ≠ some g
  below : Below w.heap.size w W
section
variable {w W W' : World} {T : Array Value} {va vb v : Value} {LA LB : List (Nat × List UInt8)} {p : Nat × List UInt8}
theorem PtW.new (h : PtW w T va vb LA LB W) (hb : Below W.heap.size W W') : PtW w T va vb LA LB W' := ⟨h.t.new_ hb, h.r.new_ hb, h.a.kept hb, h.b.kept hb, h.apart, h.below.trans (hb.mono h.below.size)⟩
theorem PtW.drew (h : PtW w T va vb LA LB W) : PtW w T va vb LA LB W.drew := ⟨h.t, h.r, h.a, h.b, h.apart, h.below.drew⟩
theorem PtW.start (w : World) (T : Array Value) : PtW w T (.slice none 0 0) (.slice none 0 0) [] [] ((w.alloc (.cells T 33)).alloc (.cells (ubs n32).toArray 25)) :=
  ⟨(At.new _ _ _).alloc _, At.new_at (by simp), Al.nil _ _, Al.nil _ _, fun g h => by simp [Value.ownBlock] at h, ((Below.refl w.heap.size w).alloc (Nat.le_refl _) _).alloc (by simp) _⟩
theorem PtW.big (h : PtW w T va vb LA LB W) : w.heap.size + 2 ≤ W.heap.size := by have := h.r.lt; omega
theorem PtW.pushA {o : Obj} (h : PtW w T va vb LA LB W) (ha : Al W' (w.heap.size + 2) v (LA ++ [p])) (hg : (W.alloc o).grownBy W' va.ownBlock) (hv : v.ownBlock = va.ownBlock ∨ v.ownBlock = some (W.alloc o).heap.size) : PtW w T v vb (LA ++ [p]) LB W' := by
  have hn := h.new ((Below.refl W.heap.size W).alloc (Nat.le_refl _) o)
  refine ⟨hn.t.grown hg (fun e => ?_), hn.r.grown hg (fun e => ?_), ha, hn.b.grown hg (fun g e q => h.apart g q e), fun g e q => ?_, hn.below.grown hg hn.below.size (fun k hk => by have := (h.a.lt k hk).1; omega)⟩
  · have := (h.a.lt _ e).1
    omega
  · have := (h.a.lt _ e).1
    omega
  · rcases hv with hv | hv
    · exact h.apart g (hv ▸ e) q
    · have h1 := (h.b.lt g q).2
      rw [hv] at e
      simp at e
      omega
theorem PtW.pushB {o : Obj} (h : PtW w T va vb LA LB W) (ha : Al W' (w.heap.size + 2) v (LB ++ [p])) (hg : (W.alloc o).grownBy W' vb.ownBlock) (hv : v.ownBlock = vb.ownBlock ∨ v.ownBlock = some (W.alloc o).heap.size) : PtW w T va v LA (LB ++ [p]) W' := by
  have hn := h.new ((Below.refl W.heap.size W).alloc (Nat.le_refl _) o)
  refine ⟨hn.t.grown hg (fun e => ?_), hn.r.grown hg (fun e => ?_), hn.a.grown hg (fun g e q => h.apart g e q), ha, fun g e q => ?_, hn.below.grown hg hn.below.size (fun k hk => by have := (h.b.lt k hk).1; omega)⟩
  · have := (h.b.lt _ e).1
    omega
  · have := (h.b.lt _ e).1
    omega
  · rcases hv with hv | hv
    · exact h.apart g e (hv ▸ q)
    · have h1 := (h.a.lt g e).2
      rw [hv] at q
      simp at q
      omega
end
theorem run_loadTr {o : Oper} {a : Go.Act} {W : World} (x : Operand) (ho : o.op = .load 33 x) (b : Nat) (hx : a.eval x = .pointer (some ⟨b, 0, none⟩)) (T : Array Value) (hc : At W b T 33) (hl : (Tryd.prog.info? 33).map (·.size) = some T.size) : (execOp a.eval o).run Tryd.prog W = .ok (.value (.agg T)) W := by
  have := run_load_part (W := W) _ x ho b 0 hx T.toList _ (range_all (show At W b T.toList.toArray _ from by simpa using hc)) Tryd.underlying33 rfl (by rw [hl]; simp)
  simpa using this
/-- An empty hash of a height, where it stands. -/
theorem Ev.hash {W : World} {B : Nat} {E : Option Addr} (h : Ev W B E) {k : Nat} (hk : k < 33) : ∃ g o, E = some ⟨g, o, none⟩ ∧ g < B ∧ W.rangeAt g (o + 32 * k) (ubs (emptyL k)) := by
  have hl : (ubs (eRow 33)).length = 1056 := by rw [ubs_length, eRow_length]
  obtain ⟨g, o, rfl, hg, hc⟩ := h (by intro e; rw [e] at hl; simp at hl)
  obtain ⟨z, hz⟩ := eRow_at 33 k hk
  refine ⟨g, o, rfl, hg, fun j u hu => ?_⟩
  have := hc (32 * k + j) u (by
    rw [hz, ubs_append, ubs_append, List.getElem?_append_right (by rw [ubs_length, eRow_length]; omega), ubs_length, eRow_length, Nat.add_sub_cancel_left, List.getElem?_append_left (by
      have := (List.getElem?_eq_some_iff.1 hu).1
      exact this)]
    exact hu)
  rwa [← Nat.add_assoc] at this
set_option maxRecDepth 100000 in
set_option maxHeartbeats 1000000 in
/-- No leaves: an empty hash. -/
theorem part_nil (n : Nat) (hn : n ≤ 32) (pl : Nat) (h : Int) (A' E A : Option Addr) (n' c' cE c : Nat) (w : World) (he : Ev w w.heap.size E) :
    Calls Tryd.prog 61 #[.agg #[.int .i64 h, .slice A' n' c', .slice E 33 cE], .slice A 0 c, .int .i64 (n : Int), .int .u64 (pl : Int)] w fun r w' => r = .returned (.agg (ubs (emptyL n)).toArray) ∧ Below w.heap.size w w' := by
  obtain ⟨T, hT⟩ : ∃ T : Array Value, T = #[.int .i64 h, .slice A' n' c', .slice E 33 cE] := ⟨_, rfl⟩
  have H0 := hid (PtW.start w T)
  rw [hT] at H0
  have q2 : ((w.alloc (.cells #[.int .i64 h, .slice A' n' c', .slice E 33 cE] 33)).alloc (.cells (ubs n32).toArray 25)).cell? ⟨w.heap.size, 2, none⟩ = some (.slice E 33 cE) := by rw [H0.out.t.cell]; rfl
  obtain ⟨g, o, rfl, hg, hr⟩ := Ev.hash (show Ev _ w.heap.size E from Rd.below he H0.out.below) (k := n) (by omega)
  have HR := hid hr
  have HL := hid (emptyL_length n)
  have HH := hid n32_length
  have hn3 : (n : Int) < 33 := by omega
  generalize emptyL n = e at HR HL ⊢
  obtain ⟨x, hx⟩ : ∃ x, x = o + 32 * n := ⟨_, rfl⟩
  rw [← hx] at HR
  have hx2 : o + n * 32 = x := by omega
  have hz := noughts32
  clear hT hg hr he hx hn
  go_enter Tryd.func61, Tryd.ntmps61
  go_wp2_with (first
    | (refine wpList_valW (by rfl) (run_loadH (.tmp 18) rfl g x rfl e HR.out HL.out) ?_)
    | (refine wpList_store_row rfl _ (.tmp 8) (.tmp 19) rfl (w.heap.size + 1) (ubs e).toArray rfl rfl 25 (ubs n32).toArray H0.out.r (sizeH_of HL.out) ?e5 (ubs_all _) ?e6; rotate_right))
  case e5 => simp [ubs_length, n32_length, HL.out]
  refine bodyPost_ret (results_cell_row rfl _ _ (w.heap.size + 1) 25 (ubs e).toArray (0, 0) _ rfl (setRow_heap _ _ (ubs n32).toArray _ _ _ H0.out.r) Tryd.underlying25 rfl (sizeH_of HL.out)) rfl ?_
  exact ⟨rfl, below_setRow H0.out.below (by omega) _⟩
end Go.Proofs.YtdegmcfcbndelaaDoor
