/-
  Layer 9, the document's side: leaves as values; the heights of trees (Has, High).
-/
import Derived.Test.YthkbmpocfpbkoaaDoorNl0
namespace Go.Proofs.YthkbmpocfpbkoaaDoor
open Go.RowKit

/-- A leaf's cells; leaves one behind the other. -/
def lfV (p : Nat × List UInt8) : List Value := .int .u64 (p.1 : Int) :: ubs p.2
def lrow : List (Nat × List UInt8) → List Value
  | [] => []
  | p :: L => lfV p ++ lrow L
theorem lrow_nil : lrow [] = [] := rfl
theorem lrow_cons (p : Nat × List UInt8) (L : List (Nat × List UInt8)) : lrow (p :: L) = lfV p ++ lrow L := rfl
theorem lrow_append (L M : List (Nat × List UInt8)) : lrow (L ++ M) = lrow L ++ lrow M := by
  induction L with
  | nil => rfl
  | cons p L ih => rw [List.cons_append, lrow_cons, ih, lrow_cons, List.append_assoc]
theorem lrow_one (p : Nat × List UInt8) : lrow [p] = lfV p := by rw [lrow_cons, lrow_nil, List.append_nil]
/-- Leaves that are right: indices of 64 bits, hashes of 32 bytes. -/
def okL (L : List (Nat × List UInt8)) : Prop := ∀ p ∈ L, p.1 < 18446744073709551616 ∧ p.2.length = 32
theorem okL.nil : okL [] := fun _ h => nomatch h
theorem okL.append {L M : List (Nat × List UInt8)} (h : okL L) (k : okL M) : okL (L ++ M) := fun p hp => (List.mem_append.1 hp).elim (h p) (k p)
theorem okL.one {i : Nat} {h : List UInt8} (hi : i < 18446744073709551616) (hh : h.length = 32) : okL [(i, h)] := fun p hp => by
  obtain rfl : p = (i, h) := by simpa using hp
  exact ⟨hi, hh⟩
theorem okL.take {L : List (Nat × List UInt8)} (h : okL L) (k : Nat) : okL (L.take k) := fun p hp => h p (List.mem_of_mem_take hp)
theorem okL.get {L : List (Nat × List UInt8)} (h : okL L) {k : Nat} (hk : k < L.length) : L[k].1 < 18446744073709551616 ∧ L[k].2.length = 32 := h _ (List.getElem_mem hk)
theorem lfV_length {p : Nat × List UInt8} (h : p.2.length = 32) : (lfV p).length = 33 := by simp [lfV, ubs_length, h]
theorem lrow_length {L : List (Nat × List UInt8)} (h : okL L) : (lrow L).length = 33 * L.length := by
  induction L with
  | nil => rfl
  | cons p L ih =>
    rw [lrow_cons, List.length_append, lfV_length (h p (by simp)).2, ih (fun q hq => h q (by simp [hq])), List.length_cons]
    omega
theorem lrow_at {L : List (Nat × List UInt8)} (k : Nat) (hk : k < L.length) : ∃ z, lrow L = lrow (L.take k) ++ (lfV L[k] ++ z) := by
  refine ⟨lrow (L.drop (k + 1)), ?_⟩
  rw [← lrow_cons, ← lrow_append, List.getElem_cons_drop, List.take_append_drop]
theorem lfV_one (p : Nat × List UInt8) : ∀ u ∈ lfV p, u.oneCell' = true := by
  intro u hu
  rcases List.mem_cons.1 hu with rfl | hu
  · rfl
  · exact ubs_one _ u hu
attribute [irreducible] lrow
/-- What a slice of leaves reads as. -/
def Lv (W : World) (B : Nat) (A : Option Addr) (L : List (Nat × List UInt8)) : Prop := Rd W B A (lrow L)
section
variable {W W' : World} {B B' : Nat} {A : Option Addr} {L : List (Nat × List UInt8)}
theorem Lv.below (h : Lv W B A L) (hb : Below B W W') : Lv W' B A L := Rd.below h hb
theorem Lv.mono (h : Lv W B A L) (hB : B ≤ B') : Lv W B' A L := Rd.mono h hB
theorem Lv.new (h : Lv W W.heap.size A L) (hb : Below W.heap.size W W') : Lv W' W'.heap.size A L := (h.below hb).mono hb.size
theorem Lv.drew (h : Lv W B A L) : Lv W.drew B A L := h
/-- The leaf of a number: where it stands. -/
theorem Lv.leaf (h : Lv W B A L) (ho : okL L) {k : Nat} (hk : k < L.length) : ∃ g o, A = some ⟨g, o, none⟩ ∧ g < B ∧ W.rangeAt g (o + 33 * k) (lfV L[k]) := by
  obtain ⟨z, hz⟩ := lrow_at k hk
  have hne : lrow L ≠ [] := by
    intro e
    rw [e] at hz
    have := congrArg List.length hz
    rw [List.length_append, List.length_append, lfV_length (ho.get hk).2] at this
    simp at this
    omega
  obtain ⟨g, o, rfl, hg, hc⟩ := h hne
  refine ⟨g, o, rfl, hg, fun j u hu => ?_⟩
  have hl : (lrow (L.take k)).length = 33 * k := by rw [lrow_length (ho.take k), List.length_take]; congr 1; omega
  have := hc (33 * k + j) u (by
    rw [hz, List.getElem?_append_right (by omega), hl, Nat.add_sub_cancel_left, List.getElem?_append_left (by
      have := (List.getElem?_eq_some_iff.1 hu).1
      exact this)]
    exact hu)
  rw [Nat.add_assoc]
  exact this
end
theorem leaf_index {W : World} {g o : Nat} {p : Nat × List UInt8} (h : W.rangeAt g o (lfV p)) : W.cell? ⟨g, o, none⟩ = some (.int .u64 (p.1 : Int)) := h 0 _ rfl
theorem leaf_hash {W : World} {g o : Nat} {p : Nat × List UInt8} (h : W.rangeAt g o (lfV p)) : W.rangeAt g (o + 1) (ubs p.2) := fun j u hu => by
  have := h (j + 1) u (by rw [lfV, List.getElem?_cons_succ]; exact hu)
  rwa [show o + (j + 1) = o + 1 + j by omega] at this
theorem sizeLf : (Tryd.prog.info? 109).map (·.size) = some 33 := by kernel_rfl
theorem run_loadLf {o : Oper} {a : Go.Act} {W : World} (x : Operand) (ho : o.op = .load 109 x) (b off : Nat) (hx : a.eval x = .pointer (some ⟨b, off, none⟩)) (p : Nat × List UInt8) (hc : W.rangeAt b off (lfV p)) (hl : p.2.length = 32) : (execOp a.eval o).run Tryd.prog W = .ok (.value (.agg (lfV p).toArray)) W :=
  run_load_part _ x ho b off hx (lfV p) _ hc Tryd.underlying109 rfl (by rw [sizeLf, lfV_length hl])
/-- A tree's cells. -/
def trV (h : Nat) (vL vE : Value) : List Value := [.int .i64 (h : Int), vL, vE]
/-- Whether there is such a node. -/
def hasB (h : Nat) (level : Int) (place : Nat) : Bool := decide (0 ≤ level) && decide (level ≤ h) && decide (place < 2 ^ (h - level.toNat))
theorem pow_le32 {k : Nat} (h : k ≤ 32) : 2 ^ k ≤ 4294967296 := by
  have := Nat.pow_le_pow_right (n := 2) (by omega) h
  simpa using this
set_option maxRecDepth 100000 in
set_option maxHeartbeats 1000000 in
theorem hasR_any (h : Nat) (level : Int) (place : Nat) (A E : Option Addr) (n c n' c' : Nat) (w : World) (hh : h ≤ 32) :
    Calls Tryd.prog 19 #[.agg #[.int .i64 (h : Int), .slice A n c, .slice E n' c'], .int .i64 level, .int .u64 (place : Int)] w fun r w' => r = .returned (.bool (hasB h level place)) ∧ Below w.heap.size w w' := by
  have H0 := hid (At.new w #[.int .i64 (h : Int), .slice A n c, .slice E n' c'] 28)
  have B0 := hid ((Below.refl w.heap.size w).alloc (Nat.le_refl _) (.cells #[.int .i64 (h : Int), .slice A n c, .slice E n' c'] 28))
  have HQ := hid (fun (W : World) (hA : At W w.heap.size #[.int .i64 (h : Int), .slice A n c, .slice E n' c'] 28) => show W.cell? ⟨w.heap.size, 0, none⟩ = some (.int .i64 (h : Int)) by rw [hA.cell]; rfl)
  have q0 := HQ.out _ H0.out
  by_cases h1 : level < 0
  · have c0 : decide (level < 0) = true := by simp; omega
    have e0 : hasB h level place = false := by unfold hasB; simp; omega
    rw [e0]
    clear e0 h1 hh
    go_enter Tryd.func19, Tryd.ntmps19
    go_wp2
    go_ret
    exact ⟨rfl, B0.out⟩
  have c0 : decide (level < 0) = false := by simp; omega
  obtain ⟨l, rfl⟩ : ∃ l : Nat, level = (l : Int) := ⟨level.toNat, by omega⟩
  by_cases h2 : h < l
  · have c1 : decide ((h : Int) < (l : Int)) = true := by simp; omega
    have c1' : decide (h < l) = true := by simp; omega
    have e0 : hasB h (l : Int) place = false := by unfold hasB; simp; omega
    rw [e0]
    clear e0 h1 h2 hh
    go_enter Tryd.func19, Tryd.ntmps19
    go_wp2
    go_ret
    exact ⟨rfl, B0.out⟩
  have c1 : decide ((h : Int) < (l : Int)) = false := by simp; omega
  have c1' : decide (h < l) = false := by simp; omega
  obtain ⟨r, hr⟩ : ∃ r, hasB h (l : Int) place = r := ⟨_, rfl⟩
  have HR := hid (show decide (place < 2 ^ (h - l)) = r by rw [← hr]; unfold hasB; simp; omega)
  rw [hr]
  have HL := hid (show l ≤ h by omega)
  have HH := hid hh
  clear hr h1 h2 hh
  go_enter Tryd.func19, Tryd.ntmps19
  go_wp2
  clear q0
  go_loopw [7, 8] (fun v7 v8 wr => ∃ k m : Nat, k + l ≤ h ∧ v8 = .int .i64 ((k + l : Nat) : Int) ∧ v7 = .int .u64 (m : Int) ∧ Hid (m = 2 ^ k) ∧ At wr w.heap.size #[.int .i64 (h : Int), .slice A n c, .slice E n' c'] 28 ∧ Below w.heap.size w wr) (fun _ v8 _ => h - (intOf v8).toNat)
  case atStart => exact ⟨0, 1, by have := HL.out; omega, by rw [Nat.zero_add], rfl, hid rfl, H0.out, B0.out⟩
  case round =>
    clear H0 B0
    obtain ⟨k, m, hk, rfl, rfl, hm, hA, hB⟩ := hrel
    have HA := hid hA
    have HB := hid hB
    have q0 := HQ.out _ hA
    clear hA hB
    obtain ⟨i, hi⟩ : ∃ i, i = k + l := ⟨_, rfl⟩
    rw [← hi]
    have HI := hid hi
    by_cases hlt : i < h
    · have c2 : decide ((i : Int) < (h : Int)) = true := by simp; omega
      have c2' : decide (i < h) = true := by simp; omega
      have hm2 : m ≤ 4294967296 := by rw [hm.out]; exact pow_le32 (by have := HH.out; omega)
      have wm : IntKind.u64.wrap ((m : Int) * 2) = ((m * 2 : Nat) : Int) := by simp [IntKind.wrap, IntKind.signed, IntKind.bits]; omega
      have wi : IntKind.i64.wrap ((i : Int) + 1) = ((i + 1 : Nat) : Int) := by have := HH.out; simp [IntKind.wrap, IntKind.signed, IntKind.bits]; omega
      have HM := hid (show m * 2 = 2 ^ (k + 1) by rw [hm.out, Nat.pow_succ])
      obtain ⟨m', hm'⟩ : ∃ m', m' = m * 2 := ⟨_, rfl⟩
      rw [← hm'] at wm HM
      obtain ⟨i', hi'⟩ : ∃ i', i' = i + 1 := ⟨_, rfl⟩
      rw [← hi'] at wi
      have HI' := hid hi'
      clear hm hm2 hi hm' hi' hk hlt
      go_wp2
      exact ⟨⟨k + 1, m', by have := HI.out; have := HI'.out; have := of_decide_eq_true c2; omega, by rw [HI'.out, HI.out, show k + 1 + l = k + l + 1 by omega], rfl, HM, HA.out, HB.out⟩, by have := of_decide_eq_true c2; have := HI'.out; simp [intOf]; omega⟩
    · have e1 : i = h := by omega
      have c2 : decide ((i : Int) < (h : Int)) = false := by simp; omega
      have c2' : decide (i < h) = false := by simp; omega
      have c3' : decide (place < m) = r := by rw [← HR.out, show h - l = k by omega, ← hm.out]
      have c3 : decide ((place : Int) < (m : Int)) = r := by
        rw [← HR.out, show h - l = k by omega, ← hm.out]
        exact decide_eq_decide.2 (by omega)
      clear e1 hm hi hk hlt
      go_wp2
      go_ret
      exact ⟨rfl, HB.out⟩
end Go.Proofs.YthkbmpocfpbkoaaDoor
