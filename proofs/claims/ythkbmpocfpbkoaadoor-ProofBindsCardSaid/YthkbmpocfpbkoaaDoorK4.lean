/-
  Layer 10, the document's side: slices of texts of the call's own; the text that is joined lies in new memory.
  Layer 10, the document's side: spots as values; slices of spots that grow; Spots.
-/
import Derived.Test.YthkbmpocfpbkoaaDoorN1
import Derived.Test.YthkbmpocfpbkoaaDoorV0
import Derived.Maps.AppendAt
import Derived.Laws.OwnMore
import Derived.Great.BuildSlice
import Derived.Test.YthkbmpocfpbkoaaDoorK1
import Derived.Deep.AppendLies
namespace Go.Proofs.YthkbmpocfpbkoaaDoor
open Go.RowKit

theorem infoTx : (Tryd.prog.info? 89).map (fun i => (i.zero, i.size, i.bytes)) = some (some (.slice none 0 0), 1, 24) := by kernel_rfl
theorem infoTx_parts : ∃ i, Tryd.prog.info? 89 = some i ∧ i.zero = some (.slice none 0 0) ∧ i.size = 1 ∧ i.bytes = 24 := by
  have := infoTx
  cases h : Tryd.prog.info? 89 with
  | none => rw [h] at this; cases this
  | some ie =>
    rw [h] at this
    simp only [Option.map_some, Option.some.injEq, Prod.mk.injEq] at this
    exact ⟨ie, rfl, this.1, this.2.1, this.2.2⟩
/-- A slice of texts of the call's own: the texts lie from a block on, and none in the row of the slice. -/
def Apt (W : World) (base : Nat) (v : Value) (ps : List Part) : Prop :=
  W.ownsRow base 89 1 v ps.length (ps.map Part.v) ∧ ∀ p ∈ ps, Rb W W.heap.size p.A p.bs ∧ ∀ k, p.v.ownBlock = some k → base ≤ k ∧ k < W.heap.size ∧ v.ownBlock ≠ some k
section
variable {W W' : World} {base base' : Nat} {v : Value} {ps qs : List Part}
theorem Apt.nil (W : World) (base : Nat) : Apt W base (.slice none 0 0) [] := ⟨World.ownsRow_nil _ _ _ _, fun _ h => nomatch h⟩
theorem Apt.form (h : Apt W base v ps) : ∃ A c, v = .slice A ps.length c := by
  rcases h.1.2 with ⟨h1, h2⟩ | ⟨g, cap, cur, e, -⟩
  · rw [h1, h2]
    exact ⟨_, _, rfl⟩
  · exact ⟨_, _, e⟩
theorem Apt.lt (h : Apt W base v ps) : ∀ k, v.ownBlock = some k → base ≤ k ∧ k < W.heap.size := World.ownsRow.lt h.1
theorem Apt.kept (h : Apt W base v ps) (hb : Below W.heap.size W W') : Apt W' base v ps := by
  refine ⟨⟨h.1.1, ?_⟩, fun p hp => ⟨((h.2 p hp).1.below hb).mono hb.size, fun k hk => ?_⟩⟩
  · rcases h.1.2 with h2 | ⟨g, cap, cur, rfl, hb1, hh, r⟩
    · exact .inl h2
    · exact .inr ⟨g, cap, cur, rfl, hb1, (hb.block g (lt_of_block hh)).trans hh, r⟩
  · have := (h.2 p hp).2 k hk
    exact ⟨this.1, Nat.lt_of_lt_of_le this.2.1 hb.size, this.2.2⟩
theorem Apt.mono (h : Apt W base v ps) (hb : base' ≤ base) : Apt W base' v ps := by
  refine ⟨⟨h.1.1, ?_⟩, fun p hp => ⟨(h.2 p hp).1, fun k hk => ?_⟩⟩
  · rcases h.1.2 with h2 | ⟨g, cap, cur, rfl, hb1, r⟩
    · exact .inl h2
    · exact .inr ⟨g, cap, cur, rfl, Nat.le_trans hb hb1, r⟩
  · have := (h.2 p hp).2 k hk
    exact ⟨Nat.le_trans hb this.1, this.2⟩
/-- What it reads as. -/
theorem Apt.rd {c : Nat} {A : Option Addr} (h : Apt W base (.slice A ps.length c) ps) : Rd W W.heap.size A (ps.map Part.v) := fun hne => by
  rcases h.1.2 with ⟨h1, h2⟩ | ⟨g, cap, cur, e, hb, hh, -⟩
  · refine absurd ?_ hne
    obtain rfl : ps = [] := List.eq_nil_of_length_eq_zero h2
    rfl
  · obtain rfl : A = some ⟨g, 0, none⟩ := by cases e; rfl
    refine ⟨g, 0, rfl, lt_of_block hh, fun j u hu => ?_⟩
    have := World.ownsRow.cells h.1 (g := g) rfl j u hu
    rwa [add_plain] at this
theorem partv_one (ps : List Part) : ∀ u ∈ ps.map Part.v, u.oneCell' = true := by
  intro u hu
  obtain ⟨p, -, rfl⟩ := List.mem_map.1 hu
  rfl
/-- Texts of the call's own appended to older ones of its own. -/
theorem run_append_pt (ty : TypeId) (hown : Apt W base v ps) {v2 : Value} {base2 : Nat} (h2 : Apt W base2 v2 qs) (hle : base ≤ base2) (hne : ∀ q ∈ qs, ∀ k, q.v.ownBlock = some k → v.ownBlock ≠ some k) (hl : ps.length + qs.length ≤ 8589934592) (hbase : base ≤ W.heap.size) :
    ∃ v' w', (Builtin.append_ #[82, 82] ty #[v, v2]).run Tryd.prog W = .ok v' w' ∧ Apt w' base v' (ps ++ qs) ∧ W.grownBy w' v.ownBlock ∧ (v'.ownBlock = v.ownBlock ∨ v'.ownBlock = some W.heap.size) := by
  obtain ⟨i, hi, hz, hsz, hby⟩ := infoTx_parts
  obtain ⟨v', w', hr, h3, h4, h5⟩ : ∃ v' w', (Builtin.append_ #[82, 82] ty #[v, v2]).run Tryd.prog W = .ok v' w' ∧ w'.ownsRow base 89 1 v' (ps.length + qs.length) (ps.map Part.v ++ qs.map Part.v) ∧ W.grownBy w' v.ownBlock ∧ (v'.ownBlock = v.ownBlock ∨ v'.ownBlock = some W.heap.size) := by
    rcases h2.1.2 with ⟨rfl, h0⟩ | ⟨g, cap, cur, rfl, hb1, hh, -⟩
    · obtain rfl : qs = [] := List.eq_nil_of_length_eq_zero h0
      exact ⟨v, W, run_append_owned_none (P := Tryd.prog) W base 82 ty 89 i 1 Tryd.underlying82 hi v ps.length _ hown.1, by rw [List.map_nil, List.append_nil]; exact hown.1, ⟨rfl, rfl, rfl, Nat.le_refl _, fun _ _ _ => rfl⟩, .inl rfl⟩
    · obtain ⟨v', w', hr, h2', h3, -, h5⟩ := run_append_own_at (P := Tryd.prog) W base 82 ty 89 i _ 1 24 Tryd.underlying82 hi hz hsz hby rfl (by omega) v ps.length (ps.map Part.v) hown.1 ⟨g, 0, none⟩ qs.length cap (qs.map Part.v) (by rw [List.length_map, Nat.mul_one])
        (fun j u hu => World.ownsRow.cells h2.1 (g := g) rfl j u hu) (partv_one qs) (by unfold maxLen; omega) (by omega) hbase
      exact ⟨v', w', hr, h2', h3, h5⟩
  have hfr : Fr (fun k => v.ownBlock = some k) W w' := (Fr.refl _ W).grown h4 (fun k hk => .inr hk)
  have hsize : W.heap.size ≤ w'.heap.size := hfr.size
  refine ⟨v', w', hr, ⟨?_, fun p hp => ?_⟩, h4, h5⟩
  · rw [List.length_append, List.map_append]
    exact h3
  · have key : Rb W W.heap.size p.A p.bs ∧ ∀ k, p.v.ownBlock = some k → base ≤ k ∧ k < W.heap.size ∧ v.ownBlock ≠ some k := by
      rcases List.mem_append.1 hp with hp | hp
      · exact hown.2 p hp
      · refine ⟨(h2.2 p hp).1, fun k hk => ?_⟩
        have h6 := (h2.2 p hp).2 k hk
        exact ⟨Nat.le_trans hle h6.1, h6.2.1, hne p hp k hk⟩
    refine ⟨(Rd.fr key.1 hfr (fun b o e hS => (key.2 b (by unfold Part.v; rw [e]; rfl)).2.2 hS)).mono hsize, fun k hk => ?_⟩
    have h6 := key.2 k hk
    refine ⟨h6.1, Nat.lt_of_lt_of_le h6.2.1 hsize, fun e => ?_⟩
    rcases h5 with h5 | h5
    · exact h6.2.2 (by rw [← h5]; exact e)
    · rw [h5] at e
      have : W.heap.size = k := by simpa using e
      omega
/-- A slice of one text. -/
theorem Apt.lit {B : Nat} {p : Part} (h : Rb W W.heap.size p.A p.bs) (hk : ∀ k, p.v.ownBlock = some k → B ≤ k ∧ k < W.heap.size) (hB : B ≤ W.heap.size) : Apt (W.alloc (.cells #[p.v] 89)) B (.slice (some ⟨W.heap.size, 0, none⟩) 1 1) [p] := by
  refine ⟨World.ownsRow_lit (e := 89) (size := 1) W #[p.v] 1 hB (by unfold maxLen; decide) rfl, fun q hq => ?_⟩
  obtain rfl : q = p := by simpa using hq
  have hb : Below W.heap.size W (W.alloc (.cells #[q.v] 89)) := (Below.refl _ _).alloc (Nat.le_refl _) _
  refine ⟨(h.below hb).mono hb.size, fun k hk' => ?_⟩
  have h1 := hk k hk'
  refine ⟨h1.1, Nat.lt_of_lt_of_le h1.2 hb.size, fun e => ?_⟩
  have : W.heap.size = k := by simpa [Value.ownBlock] using e
  omega
theorem run_buildTx {o : Oper} {a : Go.Act} (x : Operand) (ho : o.op = .buildSlice 82 1 #[(0, x)]) (p : Part) (hx : a.eval x = p.v) :
    (execOp a.eval o).run Tryd.prog W = .ok (.value (.slice (some ⟨W.heap.size, 0, none⟩) 1 1)) (W.alloc (.cells #[p.v] 89)) := by
  obtain ⟨ie, hie, hz, hs, -⟩ := infoTx_parts
  unfold execOp
  simp only [ho, Sem.run_bind]
  rw [run_buildSlice W _ _ 1 _ #[p.v] ie _ Tryd.underlying82 hie hz (by rw [hs]; decide) (by rw [hs]; decide) (by rw [hs]; simp [hx]; kernel_rfl)]
  rfl
/-- The operation. -/
theorem wpList_append_pt {ops : Array Oper} {rest : List Oper} {o : Oper} {a : Go.Act} {Q : Exit → Go.Act → World → Prop} (hw : Region.wanted o (yielded ops a.tmps) = true) (s x : Operand)
    (ho : o.op = .call { callee := .builtin .append, args := #[s, x], argTypes := #[82, 82] }) (v v2 : Value) (hs : a.eval s = v) (hx : a.eval x = v2) (hown : Apt W base v ps) {base2 : Nat} (h2 : Apt W base2 v2 qs) (hle : base ≤ base2) (hne : ∀ q ∈ qs, ∀ k, q.v.ownBlock = some k → v.ownBlock ≠ some k) (hl : ps.length + qs.length ≤ 8589934592) (hbase : base ≤ W.heap.size)
    (h : ∀ A c w', Apt w' base (.slice A (ps ++ qs).length c) (ps ++ qs) → W.grownBy w' v.ownBlock → ((Value.slice A (ps ++ qs).length c).ownBlock = v.ownBlock ∨ (Value.slice A (ps ++ qs).length c).ownBlock = some W.heap.size) → wpList Tryd.prog ops Q rest (a.put o.dst (.slice A (ps ++ qs).length c)) w') :
    wpList Tryd.prog ops Q (o :: rest) a W :=
  BigFrame.wpList_want hw fun K hK => by
    obtain ⟨v', w', hr, h6, h3, h5⟩ := run_append_pt o.type hown h2 hle hne hl hbase
    obtain ⟨A, c, rfl⟩ := h6.form
    unfold Oper.wp execOp
    simp only [ho, resolve, invoke, builtin, Sem.run_bind, Sem.run_pure, Result.andThen_ok, List.map_toArray, List.map_cons, List.map_nil, hs, hx, hr]
    exact hK _ _ (h A c w' h6 h3 h5)
end
end Go.Proofs.YthkbmpocfpbkoaaDoor

namespace Go.Proofs.YthkbmpocfpbkoaaDoor
open Go.RowKit

/-- A spot's cells; spots one behind the other. -/
def sptV (p : Nat × Nat) : List Value := [.int .i64 (p.1 : Int), .int .u64 (p.2 : Int)]
def sptR (L : List (Nat × Nat)) : List Value := L.flatMap sptV
/-- A slice of spots of the call's own. -/
def Asp (W : World) (base : Nat) (v : Value) (L : List (Nat × Nat)) : Prop := W.ownsRow base 129 2 v L.length (sptR L)
theorem Asp.nil (W : World) (base : Nat) : Asp W base (.slice none 0 0) [] := World.ownsRow_nil _ _ _ _
theorem Asp.form {W : World} {base : Nat} {v : Value} {L : List (Nat × Nat)} (h : Asp W base v L) : ∃ A c, v = .slice A L.length c := by
  rcases h.2 with ⟨h1, h2⟩ | ⟨g, cap, cur, e, -⟩
  · rw [h1, h2]
    exact ⟨_, _, rfl⟩
  · exact ⟨_, _, e⟩
theorem Asp.kept {W W' : World} {base : Nat} {v : Value} {L : List (Nat × Nat)} (h : Asp W base v L) (hb : Below W.heap.size W W') : Asp W' base v L := by
  refine ⟨h.1, ?_⟩
  rcases h.2 with h2 | ⟨g, cap, cur, rfl, hb1, hh, r⟩
  · exact .inl h2
  · exact .inr ⟨g, cap, cur, rfl, hb1, (hb.block g (lt_of_block hh)).trans hh, r⟩
theorem Asp.lt {W : World} {base : Nat} {v : Value} {L : List (Nat × Nat)} (h : Asp W base v L) : ∀ k, v.ownBlock = some k → base ≤ k ∧ k < W.heap.size := World.ownsRow.lt h
theorem Asp.mono {W : World} {base base' : Nat} {v : Value} {L : List (Nat × Nat)} (h : Asp W base v L) (hb : base' ≤ base) : Asp W base' v L := by
  refine ⟨h.1, ?_⟩
  rcases h.2 with h2 | ⟨g, cap, cur, rfl, hb1, r⟩
  · exact .inl h2
  · exact .inr ⟨g, cap, cur, rfl, Nat.le_trans hb hb1, r⟩
/-- What it reads as. -/
theorem Asp.rd {W : World} {base c : Nat} {A : Option Addr} {L : List (Nat × Nat)} (h : Asp W base (.slice A L.length c) L) : Rd W W.heap.size A (sptR L) := fun hne => by
  rcases h.2 with ⟨h1, h2⟩ | ⟨g, cap, cur, e, hb, hh, -⟩
  · refine absurd ?_ hne
    obtain rfl : L = [] := List.eq_nil_of_length_eq_zero h2
    rfl
  · obtain rfl : A = some ⟨g, 0, none⟩ := by cases e; rfl
    refine ⟨g, 0, rfl, lt_of_block hh, fun j u hu => ?_⟩
    have := World.ownsRow.cells h (g := g) rfl j u hu
    rwa [add_plain] at this
theorem spotsS_length (l : List Nat) : ∀ k p, (spotsS l k p).length ≤ 2 ^ k
  | 0, p => by
    unfold spotsS
    split <;> simp
  | k + 1, p => by
    unfold spotsS
    split
    · rw [List.length_append, Nat.pow_succ]
      have := spotsS_length l k (2 * p % 18446744073709551616)
      have := spotsS_length l k ((2 * p + 1) % 18446744073709551616)
      omega
    · simp [Nat.one_le_two_pow]
end Go.Proofs.YthkbmpocfpbkoaaDoor
