/-
  Layer 10, the document's side: slices of texts of the call's own; the text that is joined lies in new memory.
  Layer 10, the document's side: spots as values; slices of spots that grow; Spots.
  Layer 10, the document's side: climb: a node that is one of the proof's; a leaf.
  Layer 10, the document's side: climb: a leaf.
  Layer 10: the texts and the root that leaves and a proof come to, by definition; slices of texts kept where older memory is written.
  Layer 10: what a walk down to some indices reaches, and what is made of it: nodes beside, leaves, nodes joined; a stack of hashes. Nothing here walks.
  Layer 10: a stack of hashes, fed by what a walk reaches, comes to what the document's climb comes to. Nothing here walks.
-/
import Derived.Test.YtdegmcfcbndelaaDoorN1
import Derived.Test.YtdegmcfcbndelaaDoorV0
import Derived.Maps.AppendAt
import Derived.Laws.OwnMore
import Derived.Great.BuildSlice
import Derived.Test.YtdegmcfcbndelaaDoorK1
import Derived.Deep.AppendLies
import Derived.Test.YtdegmcfcbndelaaDoorL2
namespace Go.Proofs.YtdegmcfcbndelaaDoor
open Go.RowKit

/-- A slice of texts of the call's own: the texts lie from a block on, and none in the row of the slice. -/
def Apt (W : World) (base : Nat) (v : Value) (ps : List Part) : Prop :=
  W.ownsRow base 120 1 v ps.length (ps.map Part.v) ∧ ∀ p ∈ ps, Rb W W.heap.size p.A p.bs ∧ ∀ k, p.v.ownBlock = some k → base ≤ k ∧ k < W.heap.size ∧ v.ownBlock ≠ some k
section
variable {W W' : World} {base base' : Nat} {v : Value} {ps qs : List Part}
theorem Apt.nil (W : World) (base : Nat) : Apt W base (.slice none 0 0) [] := ⟨World.ownsRow_nil _ _ _ _, fun _ h => nomatch h⟩
theorem Apt.form (h : Apt W base v ps) : ∃ A c, v = .slice A ps.length c := by
  rcases h.1.2 with ⟨h1, h2⟩ | ⟨g, cap, cur, e, -⟩
  · rw [h1, h2]
    exact ⟨_, _, rfl⟩
  · exact ⟨_, _, e⟩
theorem Apt.lt (h : Apt W base v ps) : ∀ k, v.ownBlock = some k → base ≤ k ∧ k < W.heap.size := World.ownsRow.lt h.1
theorem Apt.kept (h : Apt W base v ps) (hb : Below W.heap.size W W') : Apt W' base v ps := by
  refine ⟨⟨h.1.1, ?_⟩, fun p hp => ⟨((h.2 p hp).1.below hb).mono hb.size, fun k hk => ?_⟩⟩
  · rcases h.1.2 with h2 | ⟨g, cap, cur, rfl, hb1, hh, r⟩
    · exact .inl h2
    · exact .inr ⟨g, cap, cur, rfl, hb1, (hb.block g (lt_of_block hh)).trans hh, r⟩
  · have := (h.2 p hp).2 k hk
    exact ⟨this.1, Nat.lt_of_lt_of_le this.2.1 hb.size, this.2.2⟩
theorem Apt.mono (h : Apt W base v ps) (hb : base' ≤ base) : Apt W base' v ps := by
  refine ⟨⟨h.1.1, ?_⟩, fun p hp => ⟨(h.2 p hp).1, fun k hk => ?_⟩⟩
  · rcases h.1.2 with h2 | ⟨g, cap, cur, rfl, hb1, r⟩
    · exact .inl h2
    · exact .inr ⟨g, cap, cur, rfl, Nat.le_trans hb hb1, r⟩
  · have := (h.2 p hp).2 k hk
    exact ⟨Nat.le_trans hb this.1, this.2⟩
/-- What it reads as. -/
theorem Apt.rd {c : Nat} {A : Option Addr} (h : Apt W base (.slice A ps.length c) ps) : Rd W W.heap.size A (ps.map Part.v) := fun hne => by
  rcases h.1.2 with ⟨h1, h2⟩ | ⟨g, cap, cur, e, hb, hh, -⟩
  · refine absurd ?_ hne
    obtain rfl : ps = [] := List.eq_nil_of_length_eq_zero h2
    rfl
  · obtain rfl : A = some ⟨g, 0, none⟩ := by cases e; rfl
    refine ⟨g, 0, rfl, lt_of_block hh, fun j u hu => ?_⟩
    have := World.ownsRow.cells h.1 (g := g) rfl j u hu
    rwa [add_plain] at this
/-- A slice of one text. -/
theorem Apt.lit {B : Nat} {p : Part} (h : Rb W W.heap.size p.A p.bs) (hk : ∀ k, p.v.ownBlock = some k → B ≤ k ∧ k < W.heap.size) (hB : B ≤ W.heap.size) : Apt (W.alloc (.cells #[p.v] 120)) B (.slice (some ⟨W.heap.size, 0, none⟩) 1 1) [p] := by
  refine ⟨World.ownsRow_lit (e := 120) (size := 1) W #[p.v] 1 hB (by unfold maxLen; decide) rfl, fun q hq => ?_⟩
  obtain rfl : q = p := by simpa using hq
  have hb : Below W.heap.size W (W.alloc (.cells #[q.v] 120)) := (Below.refl _ _).alloc (Nat.le_refl _) _
  refine ⟨(h.below hb).mono hb.size, fun k hk' => ?_⟩
  have h1 := hk k hk'
  refine ⟨h1.1, Nat.lt_of_lt_of_le h1.2 hb.size, fun e => ?_⟩
  have : W.heap.size = k := by simpa [Value.ownBlock] using e
  omega
end
end Go.Proofs.YtdegmcfcbndelaaDoor

namespace Go.Proofs.YtdegmcfcbndelaaDoor
open Go.RowKit

/-- A spot's cells; spots one behind the other. -/
def sptV (p : Nat × Nat) : List Value := [.int .i64 (p.1 : Int), .int .u64 (p.2 : Int)]
def sptR (L : List (Nat × Nat)) : List Value := L.flatMap sptV
theorem sptR_append (L M : List (Nat × Nat)) : sptR (L ++ M) = sptR L ++ sptR M := by simp [sptR]
theorem sptR_one (p : Nat × Nat) : sptR [p] = sptV p := by simp [sptR]
theorem sptR_length (L : List (Nat × Nat)) : (sptR L).length = L.length * 2 := by
  induction L with
  | nil => rfl
  | cons p L ih =>
    rw [show sptR (p :: L) = sptV p ++ sptR L from rfl, List.length_append, ih, List.length_cons, show (sptV p).length = 2 from rfl]
    omega
theorem sptR_cells (L : List (Nat × Nat)) : ∀ u ∈ sptR L, u.oneCell' = true := by
  intro u hu
  obtain ⟨p, -, h⟩ := List.mem_flatMap.1 hu
  rcases List.mem_cons.1 h with rfl | h
  · rfl
  · obtain rfl : u = _ := by simpa using h
    rfl
theorem sptR_at {L : List (Nat × Nat)} {k : Nat} (hk : k < L.length) : (sptR L)[2 * k]? = some (.int .i64 ((L[k].1 : Nat) : Int)) ∧ (sptR L)[2 * k + 1]? = some (.int .u64 ((L[k].2 : Nat) : Int)) := by
  have e : sptR L = sptR (L.take k) ++ (sptV L[k] ++ sptR (L.drop (k + 1))) := by
    rw [show sptV L[k] ++ sptR (L.drop (k + 1)) = sptR (L[k] :: L.drop (k + 1)) from rfl, ← sptR_append, List.getElem_cons_drop, List.take_append_drop]
  have hl : (sptR (L.take k)).length = 2 * k := by
    rw [sptR_length, List.length_take]
    omega
  rw [e]
  constructor
  · rw [List.getElem?_append_right (by omega), hl, Nat.sub_self]
    rfl
  · rw [List.getElem?_append_right (by omega), hl, show 2 * k + 1 - 2 * k = 1 by omega]
    rfl
theorem infoSp : (Tryd.prog.info? 130).map (fun i => (i.zero, i.size, i.bytes)) = some (some (.agg (sptV (0, 0)).toArray), 2, 16) := by kernel_rfl
theorem infoSp_parts : ∃ i, Tryd.prog.info? 130 = some i ∧ i.zero = some (.agg (sptV (0, 0)).toArray) ∧ i.size = 2 ∧ i.bytes = 16 := by
  have := infoSp
  cases h : Tryd.prog.info? 130 with
  | none => rw [h] at this; cases this
  | some ie =>
    rw [h] at this
    simp only [Option.map_some, Option.some.injEq, Prod.mk.injEq] at this
    exact ⟨ie, rfl, this.1, this.2.1, this.2.2⟩
/-- The only part of a literal of one spot. -/
theorem fillSp (p : Nat × Nat) : Instr.fill (fun i => some (i * 2, 2)) ((Array.range (1 * 2)).map ((Value.agg (sptV (0, 0)).toArray).cells[· % (Value.agg (sptV (0, 0)).toArray).cells.size]!)) [(0, .agg (sptV p).toArray)] = some (sptV p).toArray := by
  have h0 : (Array.range (1 * 2)).map ((Value.agg (sptV (0, 0)).toArray).cells[· % (Value.agg (sptV (0, 0)).toArray).cells.size]!) = (sptV (0, 0)).toArray := by kernel_rfl
  rw [h0, fill_step _ 0 0 2 (sptV (0, 0)) (sptV p) _ _ rfl (by simp) rfl (by decide)]
  have := spv_at [] (sptV (0, 0)) [] (sptV p) rfl
  rw [List.append_nil, List.append_nil, List.nil_append, List.nil_append] at this
  rw [show spv (sptV (0, 0)) 0 (sptV p) = sptV p from this]
  rfl
theorem run_buildSp {o : Oper} {a : Go.Act} {W : World} (x : Operand) (ho : o.op = .buildSlice 127 1 #[(0, x)]) (p : Nat × Nat) (hx : a.eval x = .agg (sptV p).toArray) :
    (execOp a.eval o).run Tryd.prog W = .ok (.value (.slice (some ⟨W.heap.size, 0, none⟩) 1 1)) (W.alloc (.cells (sptV p).toArray 130)) := by
  obtain ⟨ie, hie, hz, hs, -⟩ := infoSp_parts
  unfold execOp
  simp only [ho, Sem.run_bind]
  rw [run_buildSlice W _ _ 1 _ (sptV p).toArray ie _ Tryd.underlying127 hie hz (by rw [hs]; decide) (by rw [hs]; decide) (by rw [hs]; simpa [hx] using fillSp p)]
  rfl
/-- A slice of spots of the call's own. -/
def Asp (W : World) (base : Nat) (v : Value) (L : List (Nat × Nat)) : Prop := W.ownsRow base 130 2 v L.length (sptR L)
theorem Asp.nil (W : World) (base : Nat) : Asp W base (.slice none 0 0) [] := World.ownsRow_nil _ _ _ _
theorem Asp.one (W : World) {base : Nat} (p : Nat × Nat) (hb : base ≤ W.heap.size) : Asp (W.alloc (.cells (sptV p).toArray 130)) base (.slice (some ⟨W.heap.size, 0, none⟩) 1 1) [p] := by
  have := World.ownsRow_lit (e := 130) (size := 2) W (sptV p).toArray 1 hb (by unfold maxLen; decide) rfl
  unfold Asp
  rw [sptR_one]
  exact this
theorem Asp.form {W : World} {base : Nat} {v : Value} {L : List (Nat × Nat)} (h : Asp W base v L) : ∃ A c, v = .slice A L.length c := by
  rcases h.2 with ⟨h1, h2⟩ | ⟨g, cap, cur, e, -⟩
  · rw [h1, h2]
    exact ⟨_, _, rfl⟩
  · exact ⟨_, _, e⟩
theorem Asp.kept {W W' : World} {base : Nat} {v : Value} {L : List (Nat × Nat)} (h : Asp W base v L) (hb : Below W.heap.size W W') : Asp W' base v L := by
  refine ⟨h.1, ?_⟩
  rcases h.2 with h2 | ⟨g, cap, cur, rfl, hb1, hh, r⟩
  · exact .inl h2
  · exact .inr ⟨g, cap, cur, rfl, hb1, (hb.block g (lt_of_block hh)).trans hh, r⟩
theorem Asp.lt {W : World} {base : Nat} {v : Value} {L : List (Nat × Nat)} (h : Asp W base v L) : ∀ k, v.ownBlock = some k → base ≤ k ∧ k < W.heap.size := World.ownsRow.lt h
theorem Asp.mono {W : World} {base base' : Nat} {v : Value} {L : List (Nat × Nat)} (h : Asp W base v L) (hb : base' ≤ base) : Asp W base' v L := by
  refine ⟨h.1, ?_⟩
  rcases h.2 with h2 | ⟨g, cap, cur, rfl, hb1, r⟩
  · exact .inl h2
  · exact .inr ⟨g, cap, cur, rfl, Nat.le_trans hb hb1, r⟩
/-- What it reads as. -/
theorem Asp.rd {W : World} {base c : Nat} {A : Option Addr} {L : List (Nat × Nat)} (h : Asp W base (.slice A L.length c) L) : Rd W W.heap.size A (sptR L) := fun hne => by
  rcases h.2 with ⟨h1, h2⟩ | ⟨g, cap, cur, e, hb, hh, -⟩
  · refine absurd ?_ hne
    obtain rfl : L = [] := List.eq_nil_of_length_eq_zero h2
    rfl
  · obtain rfl : A = some ⟨g, 0, none⟩ := by cases e; rfl
    refine ⟨g, 0, rfl, lt_of_block hh, fun j u hu => ?_⟩
    have := World.ownsRow.cells h (g := g) rfl j u hu
    rwa [add_plain] at this
/-- Spots are appended to spots, both of the call's own. -/
theorem wpList_append_sp {ops : Array Oper} {rest : List Oper} {o : Oper} {a : Go.Act} {W : World} {Q : Exit → Go.Act → World → Prop} (hw : Region.wanted o (yielded ops a.tmps) = true) (s x : Operand)
    (ho : o.op = .call { callee := .builtin .append, args := #[s, x], argTypes := #[127, 127] })
    (base base2 : Nat) (v v2 : Value) (L M : List (Nat × Nat)) (hs : a.eval s = v) (hx : a.eval x = v2) (hown : Asp W base v L) (h2 : Asp W base2 v2 M) (hl : L.length + M.length ≤ 4294967296) (hbase : base ≤ W.heap.size)
    (h : ∀ A c w', Asp w' base (.slice A (L ++ M).length c) (L ++ M) → W.grownBy w' v.ownBlock → wpList Tryd.prog ops Q rest (a.put o.dst (.slice A (L ++ M).length c)) w') :
    wpList Tryd.prog ops Q (o :: rest) a W :=
  BigFrame.wpList_want hw fun K hK => by
    obtain ⟨i, hi, hz, hsz, hby⟩ := infoSp_parts
    obtain ⟨v', w', hr, h3, h4⟩ : ∃ v' w', (Builtin.append_ #[127, 127] o.type #[v, v2]).run Tryd.prog W = .ok v' w' ∧ w'.ownsRow base 130 2 v' (L.length + M.length) (sptR L ++ sptR M) ∧ W.grownBy w' v.ownBlock := by
      rcases h2.2 with ⟨rfl, h0⟩ | ⟨g, cap, cur, rfl, hb1, hh, -⟩
      · obtain rfl : M = [] := List.eq_nil_of_length_eq_zero h0
        exact ⟨v, W, run_append_owned_none (P := Tryd.prog) W base 127 o.type 130 i 2 Tryd.underlying127 hi v L.length (sptR L) hown, by rw [show sptR [] = [] from rfl, List.append_nil]; exact hown, ⟨rfl, rfl, rfl, Nat.le_refl _, fun _ _ _ => rfl⟩⟩
      · obtain ⟨v', w', hr, h2', h3, -, -⟩ := run_append_own_at (P := Tryd.prog) W base 127 o.type 130 i _ 2 16 Tryd.underlying127 hi hz hsz hby rfl (by omega) v L.length (sptR L) hown ⟨g, 0, none⟩ M.length cap (sptR M) (sptR_length M)
          (fun j u hu => World.ownsRow.cells h2 (g := g) rfl j u hu) (sptR_cells M) (by unfold maxLen; omega) (by omega) hbase
        exact ⟨v', w', hr, h2', h3⟩
    have h6 : Asp w' base v' (L ++ M) := by
      unfold Asp
      rw [sptR_append, List.length_append]
      exact h3
    obtain ⟨A, c, rfl⟩ := h6.form
    unfold Oper.wp execOp
    simp only [ho, resolve, invoke, builtin, Sem.run_bind, Sem.run_pure, Result.andThen_ok, List.map_toArray, List.map_cons, List.map_nil, hs, hx, hr]
    exact hK _ _ (h A c w' h6 h4)
theorem spotsS_length (l : List Nat) : ∀ k p, (spotsS l k p).length ≤ 2 ^ k
  | 0, p => by
    unfold spotsS
    split <;> simp
  | k + 1, p => by
    unfold spotsS
    split
    · rw [List.length_append, Nat.pow_succ]
      have := spotsS_length l k (2 * p % 18446744073709551616)
      have := spotsS_length l k ((2 * p + 1) % 18446744073709551616)
      omega
    · simp [Nat.one_le_two_pow]
/-- What Spots answers for a height. -/
def SpotC (l : List Nat) (k : Nat) : Prop := ∀ (p : Nat) (A : Option Addr) (c : Nat) (W : World), Nu W W.heap.size A l → p < 18446744073709551616 →
  Calls Tryd.prog 74 #[.slice A l.length c, .int .i64 (k : Int), .int .u64 (p : Int)] W fun r W' => ∃ A1 c1, r = .returned (.slice A1 (spotsS l k p).length c1) ∧ Asp W' W.heap.size (.slice A1 (spotsS l k p).length c1) (spotsS l k p) ∧ Below W.heap.size W W'
set_option maxRecDepth 100000 in
set_option maxHeartbeats 400000 in
theorem spots_out (l : List Nat) (k p : Nat) (A : Option Addr) (c : Nat) (W : World) (hr : Nu W W.heap.size A l) (hk : k ≤ 64) (hl : l.length ≤ 1000000) (hb : belowB l k p = false) :
    Calls Tryd.prog 74 #[.slice A l.length c, .int .i64 (k : Int), .int .u64 (p : Int)] W fun r W' => ∃ A1 c1, r = .returned (.slice A1 1 c1) ∧ Asp W' W.heap.size (.slice A1 1 c1) [(k, p)] ∧ Below W.heap.size W W' := by
  have HB := hid (belowR_any l k p A c W hr hk hl)
  rw [hb] at HB
  generalize l.length = n at HB ⊢
  clear hr hk hl hb
  go_enter Tryd.func74, Tryd.ntmps74
  go_wp2_with (first
    | (go_at_call 98; refine HB.out.mono ?_; rintro r5 w5 ⟨rfl, e5⟩; obtain rfl := e5.symm)
    | (refine wpList_valW (by rfl) (run_buildSp (.tmp 14) rfl (k, p) rfl) ?_))
  go_ret
  exact ⟨_, _, rfl, Asp.one _ _ (Nat.le_refl _), (Below.refl _ _).alloc (Nat.le_refl _) _⟩
set_option maxRecDepth 100000 in
set_option maxHeartbeats 400000 in
theorem spots_leaf (l : List Nat) (p : Nat) (A : Option Addr) (c : Nat) (W : World) (hr : Nu W W.heap.size A l) (hl : l.length ≤ 1000000) (hb : belowB l 0 p = true) :
    Calls Tryd.prog 74 #[.slice A l.length c, .int .i64 ((0 : Nat) : Int), .int .u64 (p : Int)] W fun r W' => r = .returned (.slice none 0 0) ∧ W' = W := by
  have HB := hid (belowR_any l 0 p A c W hr (by omega) hl)
  rw [hb] at HB
  generalize l.length = n at HB ⊢
  clear hr hl hb
  go_enter Tryd.func74, Tryd.ntmps74
  go_wp2_with (first
    | (go_at_call 98; refine HB.out.mono ?_; rintro r5 w5 ⟨rfl, e5⟩; obtain rfl := e5.symm))
  go_ret
  exact ⟨rfl, rfl⟩
set_option maxRecDepth 100000 in
set_option maxHeartbeats 1000000 in
theorem spots_step (l : List Nat) (k p : Nat) (A : Option Addr) (c : Nat) (W : World) (hr : Nu W W.heap.size A l) (hk : k < 32) (hl : l.length ≤ 1000000) (hb : belowB l (k + 1) p = true) (ih : SpotC l k) :
    Calls Tryd.prog 74 #[.slice A l.length c, .int .i64 ((k + 1 : Nat) : Int), .int .u64 (p : Int)] W fun r W' => ∃ A1 c1, r = .returned (.slice A1 (spotsS l (k + 1) p).length c1) ∧ Asp W' W.heap.size (.slice A1 (spotsS l (k + 1) p).length c1) (spotsS l (k + 1) p) ∧ Below W.heap.size W W' := by
  have HB := hid (belowR_any l (k + 1) p A c W hr (by omega) hl)
  rw [hb] at HB
  rw [spotsS_step hb]
  obtain ⟨pL, hpL⟩ : ∃ q, q = 2 * p % 18446744073709551616 := ⟨_, rfl⟩
  obtain ⟨pR, hpR⟩ : ∃ q, q = (2 * p + 1) % 18446744073709551616 := ⟨_, rfl⟩
  have mL : IntKind.u64.wrap (2 * (p : Int)) = (pL : Int) := by simp [IntKind.wrap, IntKind.signed, IntKind.bits]; omega
  have mR : IntKind.u64.wrap ((pL : Int) + 1) = (pR : Int) := by simp [IntKind.wrap, IntKind.signed, IntKind.bits]; omega
  have HL := hid (ih pL A c W hr (by omega))
  have HM := hid (fun (W' : World) (b : Below W.heap.size W W') => ih pR A c W' (hr.new b) (by omega))
  have hlen : (spotsS l k pL).length + (spotsS l k pR).length ≤ 4294967296 := by
    have h1 := spotsS_length l k pL
    have h2 := spotsS_length l k pR
    have h3 : 2 ^ k ≤ 2 ^ 31 := Nat.pow_le_pow_right (by omega) (by omega)
    omega
  have HLEN := hid hlen
  rw [← hpL, ← hpR]
  generalize spotsS l k pL = L at HL HLEN ⊢
  generalize spotsS l k pR = M at HM HLEN ⊢
  generalize l.length = n at HB HL HM ⊢
  obtain ⟨m, hm⟩ : ∃ m, m = k + 1 := ⟨_, rfl⟩
  rw [← hm] at HB ⊢
  have nk : (m : Int) - 1 = (k : Int) := by omega
  have wk : IntKind.i64.wrap (k : Int) = (k : Int) := by simp [IntKind.wrap, IntKind.signed, IntKind.bits]; omega
  have d0 : decide ((m : Int) = 0) = false := by simp; omega
  have d0b : ((m : Int) == 0) = false := by simp; omega
  have d0n : decide (m = 0) = false := by simp; omega
  clear hr hk hl hb ih hlen hpL hpR hm
  go_enter Tryd.func74, Tryd.ntmps74
  go_wp2_with (first
    | (go_at_call 98; refine HB.out.mono ?_; rintro r5 w5 ⟨rfl, e5⟩; obtain rfl := e5.symm)
    | (go_at_call 74; refine HL.out.mono ?_; rintro r5 w5 ⟨A5, c5, rfl, ha5, hb5⟩; have HA5 := hid ha5; have HB5 := hid hb5; clear HL ha5 hb5)
    | (go_at_call 74; refine (HM.out _ HB5.out).mono ?_; rintro r6 w6 ⟨A6, c6, rfl, ha6, hb6⟩; have HA6 := hid ha6; have HB6 := hid hb6; clear HM ha6 hb6)
    | (refine wpList_append_sp (by rfl) (.tmp 23) (.tmp 30) rfl W.heap.size w5.heap.size (.slice A5 L.length c5) (.slice A6 M.length c6) L M rfl rfl (HA5.out.kept HB6.out) HA6.out HLEN.out (Nat.le_trans HB5.out.size HB6.out.size) ?_; intro A7 c7 w7 h1 h2; have HA7 := hid h1; have HG7 := hid h2; clear h1 h2))
  go_ret
  have hb := HB5.out.trans (HB6.out.mono HB5.out.size)
  refine ⟨_, _, by rw [List.length_append]; rfl, HA7.out, hb.grown HG7.out hb.size (fun k hk => ?_)⟩
  exact ((HA5.out.kept HB6.out).lt k hk).1
/-- Spots, for every height. -/
theorem spotsR_any (l : List Nat) (hl : l.length ≤ 1000000) : ∀ k, k ≤ 32 → SpotC l k
  | 0, _ => fun p A c W hr hp => by
    cases hb : belowB l 0 p with
    | false =>
      refine (spots_out l 0 p A c W hr (by omega) hl hb).mono ?_
      rintro r W' ⟨A1, c1, rfl, ha, hb'⟩
      rw [spotsS_out hb]
      exact ⟨A1, c1, rfl, ha, hb'⟩
    | true =>
      refine (spots_leaf l p A c W hr hl hb).mono ?_
      rintro r W' ⟨rfl, rfl⟩
      rw [spotsS_leaf hb]
      exact ⟨none, 0, rfl, Asp.nil _ _, Below.refl _ _⟩
  | k + 1, hk => fun p A c W hr hp => by
    cases hb : belowB l (k + 1) p with
    | false =>
      refine (spots_out l (k + 1) p A c W hr (by omega) hl hb).mono ?_
      rintro r W' ⟨A1, c1, rfl, ha, hb'⟩
      rw [spotsS_out hb]
      exact ⟨A1, c1, rfl, ha, hb'⟩
    | true => exact spots_step l k p A c W hr (by omega) hl hb (spotsR_any l hl k (by omega))
end Go.Proofs.YtdegmcfcbndelaaDoor

namespace Go.Proofs.YtdegmcfcbndelaaDoor
open Go.RowKit

end Go.Proofs.YtdegmcfcbndelaaDoor

namespace Go.Proofs.YtdegmcfcbndelaaDoor
open Go.RowKit

end Go.Proofs.YtdegmcfcbndelaaDoor

namespace Go.Proofs.YtdegmcfcbndelaaDoor
open Go.RowKit

section
variable {l : List Nat} {lv bes : List UInt8} {S : List (Nat × Nat)}
end
section
variable {W W' : World} {base g : Nat} {v : Value} {ps : List Part} {A : Option Addr} {bs : List UInt8} {rr : Option Nat}
theorem Rb.grown (h : Rb W W.heap.size A bs) (hg : W.grownBy W' rr) (hne : ∀ b o, A = some ⟨b, o, none⟩ → rr ≠ some b) : Rb W' W'.heap.size A bs := by
  have hfr : Fr (fun k => rr = some k) W W' := (Fr.refl _ W).grown hg (fun k hk => .inr hk)
  exact (Rd.fr h hfr (fun b o e hS => hne b o e hS)).mono hfr.size
theorem Apt.row (h : Apt W base v ps) (hg : g < base) (cs : Array Value) : Apt (W.setRow g cs) base v ps := by
  have hsz : (W.setRow g cs).heap.size = W.heap.size := by simp [World.setRow]
  have hfr : Fr (fun k => k = g) W (W.setRow g cs) := ⟨rfl, rfl, rfl, by rw [hsz]; exact Nat.le_refl _, fun k _ hk => setRow_other W g k cs hk⟩
  refine ⟨⟨h.1.1, ?_⟩, fun p hp => ⟨?_, fun k hk => by rw [hsz]; exact (h.2 p hp).2 k hk⟩⟩
  · rcases h.1.2 with h2 | ⟨g', cap, cur, rfl, hb1, hh, r⟩
    · exact .inl h2
    · exact .inr ⟨g', cap, cur, rfl, hb1, (setRow_other W g g' cs (by omega)).trans hh, r⟩
  · rw [hsz]
    refine Rd.fr (h.2 p hp).1 hfr (fun b o e hS => ?_)
    have := ((h.2 p hp).2 b (by unfold Part.v; rw [e]; rfl)).1
    omega
end
end Go.Proofs.YtdegmcfcbndelaaDoor

namespace Go.Proofs.YtdegmcfcbndelaaDoor

/-- What a walk reaches: 0 a node beside, 1 a leaf, 2 a node that is joined; its level and its place. -/
abbrev Evt := Nat × Nat × Nat
def walkE : Nat → Nat → List Nat → List Evt
  | 0, p, l => if l = [] then [(0, 0, p)] else [(1, 0, p)]
  | k + 1, p, l => if l = [] then [(0, k + 1, p)] else walkE k (2 * p) (l.filter fun x => decide (x < (2 * p + 1) * 2 ^ k)) ++ (walkE k (2 * p + 1) (l.filter fun x => !decide (x < (2 * p + 1) * 2 ^ k)) ++ [(2, k + 1, p)])
theorem walkE_nil (k p : Nat) : walkE k p [] = [(0, k, p)] := by cases k <;> simp [walkE]
theorem walkE_leaf {p : Nat} {l : List Nat} (h : l ≠ []) : walkE 0 p l = [(1, 0, p)] := by simp [walkE, h]
theorem walkE_step {k p : Nat} {l : List Nat} (h : l ≠ []) : walkE (k + 1) p l = walkE k (2 * p) (l.filter fun x => decide (x < (2 * p + 1) * 2 ^ k)) ++ (walkE k (2 * p + 1) (l.filter fun x => !decide (x < (2 * p + 1) * 2 ^ k)) ++ [(2, k + 1, p)]) := by simp [walkE, h]
attribute [irreducible] walkE
/-- The indices below a node. -/
def subI (l : List Nat) (k p : Nat) : List Nat := l.filter fun x => x >>> k == p
theorem subI_nil {l : List Nat} {k p : Nat} : subI l k p = [] ↔ belowB l k p = false := by
  unfold subI belowB
  rw [List.filter_eq_nil_iff, List.any_eq_false]
theorem shr_step (x k p : Nat) : (x >>> (k + 1) = p ∧ x < (2 * p + 1) * 2 ^ k ↔ x >>> k = 2 * p) ∧ (x >>> (k + 1) = p ∧ ¬ x < (2 * p + 1) * 2 ^ k ↔ x >>> k = 2 * p + 1) := by
  have h1 : x >>> (k + 1) = (x >>> k) / 2 := by rw [Nat.shiftRight_succ]
  have h2 : x < (2 * p + 1) * 2 ^ k ↔ x >>> k < 2 * p + 1 := by
    rw [Nat.shiftRight_eq_div_pow, Nat.div_lt_iff_lt_mul (Nat.two_pow_pos k)]
  rw [h1, h2]
  generalize x >>> k = y
  omega
theorem subI_left (l : List Nat) (k p : Nat) : (subI l (k + 1) p).filter (fun x => decide (x < (2 * p + 1) * 2 ^ k)) = subI l k (2 * p) := by
  unfold subI
  rw [List.filter_filter]
  refine List.filter_congr fun x _ => ?_
  have h := (shr_step x k p).1
  rw [Bool.eq_iff_iff]
  simp only [Bool.and_eq_true, decide_eq_true_eq, beq_iff_eq]
  rw [← h]
  exact And.comm
theorem subI_right (l : List Nat) (k p : Nat) : (subI l (k + 1) p).filter (fun x => !decide (x < (2 * p + 1) * 2 ^ k)) = subI l k (2 * p + 1) := by
  unfold subI
  rw [List.filter_filter]
  refine List.filter_congr fun x _ => ?_
  have h := (shr_step x k p).2
  rw [Bool.eq_iff_iff]
  simp only [Bool.and_eq_true, Bool.not_eq_true', decide_eq_false_iff_not, beq_iff_eq]
  rw [← h]
  exact And.comm
theorem pairwise_lt_ext {a b : List Nat} (ha : a.Pairwise (· < ·)) (hb : b.Pairwise (· < ·)) (h : ∀ x, x ∈ a ↔ x ∈ b) : a = b := by
  induction a generalizing b with
  | nil =>
    cases b with
    | nil => rfl
    | cons y b => exact absurd ((h y).2 (by simp)) (by simp)
  | cons x a ih =>
    cases b with
    | nil => exact absurd ((h x).1 (by simp)) (by simp)
    | cons y b =>
      obtain ⟨h1, h2⟩ := List.pairwise_cons.1 ha
      obtain ⟨h3, h4⟩ := List.pairwise_cons.1 hb
      have e : x = y := by
        rcases List.mem_cons.1 ((h x).1 (by simp)) with e | e
        · exact e
        · rcases List.mem_cons.1 ((h y).2 (by simp)) with f | f
          · exact f.symm
          · have := h1 y f
            have := h3 x e
            omega
      subst e
      rw [ih h2 h4 fun z => ?_]
      constructor
      · intro hz
        rcases List.mem_cons.1 ((h z).1 (by simp [hz])) with e | e
        · subst e; have := h1 z hz; omega
        · exact e
      · intro hz
        rcases List.mem_cons.1 ((h z).2 (by simp [hz])) with e | e
        · subst e; have := h3 z hz; omega
        · exact e
theorem subI_split {l : List Nat} (hs : l.Pairwise (· < ·)) (k p : Nat) : subI l (k + 1) p = subI l k (2 * p) ++ subI l k (2 * p + 1) := by
  refine pairwise_lt_ext (hs.filter _) (List.pairwise_append.2 ⟨hs.filter _, hs.filter _, fun a ha b hb => ?_⟩) fun x => ?_
  · have h1 : a >>> k = 2 * p := by simpa using (List.mem_filter.1 ha).2
    have h2 : b >>> k = 2 * p + 1 := by simpa using (List.mem_filter.1 hb).2
    have h3 := ((shr_step a k p).1.2 h1).2
    have h4 := ((shr_step b k p).2.2 h2).2
    omega
  · unfold subI
    rw [List.mem_append, List.mem_filter, List.mem_filter, List.mem_filter, ← and_or_left]
    refine and_congr_right fun _ => ?_
    have h1 : x >>> (k + 1) = (x >>> k) / 2 := by rw [Nat.shiftRight_succ]
    simp only [beq_iff_eq, h1]
    omega
theorem subI_all {l : List Nat} {h : Nat} (hl : ∀ x ∈ l, x < 2 ^ h) : subI l h 0 = l := by
  unfold subI
  refine List.filter_eq_self.2 fun x hx => ?_
  have := hl x hx
  rw [Nat.shiftRight_eq_div_pow, Nat.div_eq_of_lt this]
  rfl
/-- The nodes beside, and the leaves, among what is reached. -/
def asides (E : List Evt) : List (Nat × Nat) := (E.filter fun e => e.1 == 0).map (·.2)
def leafs (E : List Evt) : List Nat := (E.filter fun e => e.1 == 1).map (·.2.2)
theorem asides_append (E F : List Evt) : asides (E ++ F) = asides E ++ asides F := by simp [asides]
theorem leafs_append (E F : List Evt) : leafs (E ++ F) = leafs E ++ leafs F := by simp [leafs]
theorem mod64 {n : Nat} (h : n < 18446744073709551616) : n % 18446744073709551616 = n := Nat.mod_eq_of_lt h
theorem walk_asides (l : List Nat) : ∀ k p, (p + 1) * 2 ^ k ≤ 4294967296 → asides (walkE k p (subI l k p)) = spotsS l k p
  | 0, p, _ => by
    by_cases h : subI l 0 p = []
    · rw [h, walkE_nil, spotsS_out (subI_nil.1 h)]; rfl
    · rw [walkE_leaf h, spotsS_leaf (by simpa [subI_nil] using h)]; rfl
  | k + 1, p, hp => by
    by_cases h : subI l (k + 1) p = []
    · rw [h, walkE_nil, spotsS_out (subI_nil.1 h)]; rfl
    · have h1 : (2 * p + 1 + 1) * 2 ^ k ≤ 4294967296 := by rw [Nat.pow_succ] at hp; rw [show (2 * p + 1 + 1) * 2 ^ k = (p + 1) * (2 ^ k * 2) by rw [show 2 * p + 1 + 1 = 2 * (p + 1) by omega, Nat.mul_comm 2 (p + 1), Nat.mul_assoc, Nat.mul_comm 2]]; exact hp
      have h2 : (2 * p + 1) * 2 ^ k ≤ 4294967296 := Nat.le_trans (Nat.mul_le_mul_right _ (by omega)) h1
      have h3 : 2 * p + 1 + 1 ≤ 4294967296 := Nat.le_trans (Nat.le_mul_of_pos_right _ (Nat.two_pow_pos k)) h1
      rw [walkE_step h, subI_left, subI_right, asides_append, asides_append, walk_asides l k _ h2, walk_asides l k _ h1, spotsS_step (by simpa [subI_nil] using h), mod64 (by omega), mod64 (by omega)]
      simp [asides]
/-- How many hashes what is reached leaves on the stack. -/
def netE : List Evt → Int
  | [] => 0
  | e :: E => (if e.1 = 0 ∨ e.1 = 1 then 1 else -1) + netE E
theorem netE_append (E F : List Evt) : netE (E ++ F) = netE E + netE F := by
  induction E with
  | nil => simp [netE]
  | cons e E ih => simp only [List.cons_append, netE, ih]; omega
theorem walk_net : ∀ k p l, netE (walkE k p l) = 1
  | 0, p, l => by
    by_cases h : l = []
    · rw [h, walkE_nil]; rfl
    · rw [walkE_leaf h]; rfl
  | k + 1, p, l => by
    by_cases h : l = []
    · rw [h, walkE_nil]; rfl
    · rw [walkE_step h, netE_append, netE_append, walk_net, walk_net]; rfl
/-- What is reached is of three kinds; where a node is joined there are two hashes. -/
theorem split_append {α : Type} {A B pre post : List α} {e : α} (h : A ++ B = pre ++ e :: post) : (∃ q, A = pre ++ e :: q) ∨ ∃ q, pre = A ++ q ∧ B = q ++ e :: post := by
  rcases List.append_eq_append_iff.1 h with ⟨q, h1, h2⟩ | ⟨q, h1, h2⟩
  · exact .inr ⟨q, h1, h2⟩
  · cases q with
    | nil => exact .inr ⟨[], by simpa using h1.symm, by simpa using h2.symm⟩
    | cons c q =>
      injection h2 with h3 h4
      subst h3
      exact .inl ⟨q, h1⟩
theorem walk_join : ∀ k p l (pre : List Evt) (e : Evt) (post : List Evt), walkE k p l = pre ++ e :: post → e.1 = 0 ∨ e.1 = 1 ∨ (e.1 = 2 ∧ 2 ≤ netE pre)
  | 0, p, l, pre, e, post, h => by
    by_cases hl : l = []
    · rw [hl, walkE_nil] at h
      cases pre with
      | nil => injection h with h1 h2; subst h1; exact .inl rfl
      | cons a pre => injection h with h1 h2; cases pre <;> cases h2
    · rw [walkE_leaf hl] at h
      cases pre with
      | nil => injection h with h1 h2; subst h1; exact .inr (.inl rfl)
      | cons a pre => injection h with h1 h2; cases pre <;> cases h2
  | k + 1, p, l, pre, e, post, h => by
    by_cases hl : l = []
    · rw [hl, walkE_nil] at h
      cases pre with
      | nil => injection h with h1 h2; subst h1; exact .inl rfl
      | cons a pre => injection h with h1 h2; cases pre <;> cases h2
    · rw [walkE_step hl] at h
      rcases split_append h with ⟨q, h1⟩ | ⟨q, rfl, h1⟩
      · exact walk_join k _ _ pre e q h1
      · rcases split_append h1 with ⟨q2, h2⟩ | ⟨q2, rfl, h2⟩
        · rcases walk_join k _ _ q e q2 h2 with h3 | h3 | ⟨h3, h4⟩
          · exact .inl h3
          · exact .inr (.inl h3)
          · exact .inr (.inr ⟨h3, by rw [netE_append, walk_net]; omega⟩)
        · cases q2 with
          | nil =>
            injection h2 with h3 h4
            subst h3
            exact .inr (.inr ⟨rfl, by rw [netE_append, netE_append, walk_net, walk_net]; decide⟩)
          | cons a q2 => injection h2 with h3 h4; cases q2 <;> cases h4
end Go.Proofs.YtdegmcfcbndelaaDoor

namespace Go.Proofs.YtdegmcfcbndelaaDoor

/-- A walk's beginning is such that two hashes lie there where two are joined. -/
def okE (E : List Evt) : Prop := ∀ (pre : List Evt) (e : Evt) (post : List Evt), E = pre ++ e :: post → e.1 = 0 ∨ e.1 = 1 ∨ (e.1 = 2 ∧ 2 ≤ netE pre)
theorem okE_walk (k p : Nat) (l : List Nat) : okE (walkE k p l) := fun pre e post h => walk_join k p l pre e post h
theorem half_room {k p : Nat} (hp : (p + 1) * 2 ^ (k + 1) ≤ 4294967296) : (2 * p + 1) * 2 ^ k ≤ 4294967296 ∧ (2 * p + 1 + 1) * 2 ^ k ≤ 4294967296 ∧ 2 * p + 1 + 1 ≤ 4294967296 := by
  have h1 : (2 * p + 1 + 1) * 2 ^ k ≤ 4294967296 := by rw [Nat.pow_succ] at hp; rw [show (2 * p + 1 + 1) * 2 ^ k = (p + 1) * (2 ^ k * 2) by rw [show 2 * p + 1 + 1 = 2 * (p + 1) by omega, Nat.mul_comm 2 (p + 1), Nat.mul_assoc, Nat.mul_comm 2]]; exact hp
  exact ⟨Nat.le_trans (Nat.mul_le_mul_right _ (by omega)) h1, h1, Nat.le_trans (Nat.le_mul_of_pos_right _ (Nat.two_pow_pos k)) h1⟩
theorem spotsS_half {l : List Nat} {k p : Nat} (hp : (p + 1) * 2 ^ (k + 1) ≤ 4294967296) (h : belowB l (k + 1) p = true) : spotsS l (k + 1) p = spotsS l k (2 * p) ++ spotsS l k (2 * p + 1) := by
  have := (half_room hp).2.2
  rw [spotsS_step h, mod64 (by omega), mod64 (by omega)]
theorem spotsS_under (l : List Nat) : ∀ k p, (p + 1) * 2 ^ k ≤ 4294967296 → ∀ q ∈ spotsS l k p, q.1 ≤ k ∧ q.2 >>> (k - q.1) = p
  | 0, p, _, q, hq => by
    cases h : belowB l 0 p with
    | true => rw [spotsS_leaf h] at hq; cases hq
    | false => rw [spotsS_out h] at hq; (obtain rfl : q = (0, p) := by simpa using hq); exact ⟨Nat.le_refl _, rfl⟩
  | k + 1, p, hp, q, hq => by
    cases h : belowB l (k + 1) p with
    | false => rw [spotsS_out h] at hq; (obtain rfl : q = (k + 1, p) := by simpa using hq); exact ⟨Nat.le_refl _, by simp⟩
    | true =>
      rw [spotsS_half hp h] at hq
      have hr := half_room hp
      have step : ∀ p', q.1 ≤ k → q.2 >>> (k - q.1) = p' → q.2 >>> (k + 1 - q.1) = p' / 2 := fun p' h1 h2 => by
        rw [show k + 1 - q.1 = (k - q.1) + 1 by omega, Nat.shiftRight_succ, h2]
      rcases List.mem_append.1 hq with hq | hq
      · obtain ⟨h1, h2⟩ := spotsS_under l k _ hr.1 q hq
        exact ⟨by omega, by rw [step _ h1 h2]; omega⟩
      · obtain ⟨h1, h2⟩ := spotsS_under l k _ hr.2.1 q hq
        exact ⟨by omega, by rw [step _ h1 h2]; omega⟩
end Go.Proofs.YtdegmcfcbndelaaDoor
