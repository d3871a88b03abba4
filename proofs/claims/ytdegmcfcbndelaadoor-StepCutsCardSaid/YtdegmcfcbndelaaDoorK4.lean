/-
  Layer 10, the document's side: slices of texts of the call's own; the text that is joined lies in new memory.
  Layer 10, the document's side: spots as values; slices of spots that grow; Spots.
  Layer 10, the document's side: climb: a node that is one of the proof's; a leaf.
  Layer 10, the document's side: climb: a leaf.
  Layer 10: the texts and the root that leaves and a proof come to, by definition; slices of texts kept where older memory is written.
  Layer 10: what a walk down to some indices reaches, and what is made of it: nodes beside, leaves, nodes joined; a stack of hashes. Nothing here walks.
  Layer 10: a stack of hashes, fed by what a walk reaches, comes to what the document's climb comes to. Nothing here walks.
-/
import Derived.Test.YtdegmcfcbndelaaDoorN1
import Derived.Test.YtdegmcfcbndelaaDoorV0
import Derived.Maps.AppendAt
import Derived.Laws.OwnMore
import Derived.Great.BuildSlice
import Derived.Test.YtdegmcfcbndelaaDoorK1
import Derived.Deep.AppendLies
import Derived.Test.YtdegmcfcbndelaaDoorL2
namespace Go.Proofs.YtdegmcfcbndelaaDoor
open Go.RowKit

set_option maxRecDepth 100000 in
set_option maxHeartbeats 1000000 in
theorem joinTextR_new (h : Nat) (l r : List UInt8) (w : World) (hl : l.length = 32) (hr : r.length = 32) :
    Calls Tryd.prog 104 #[.int .i64 (h : Int), .agg (ubs l).toArray, .agg (ubs r).toArray] w fun e w' => ∃ A c, e = .returned (.slice A 66 c) ∧ Rb w' w'.heap.size A (joinT h l r) ∧ (∀ k, (Value.slice A 66 c).ownBlock = some k → w.heap.size ≤ k ∧ k < w'.heap.size) ∧ Below w.heap.size w w' := by
  obtain ⟨i0, hi0, hz0, hz1, hz2⟩ := info_parts infoB
  obtain ⟨W0, hW0⟩ : ∃ W0, W0 = (w.alloc (.cells (ubs l).toArray 25)).alloc (.cells (ubs r).toArray 25) := ⟨_, rfl⟩
  have H0 := hid (show At W0 w.heap.size (ubs l).toArray 25 by rw [hW0]; exact (At.new _ _ _).alloc _)
  have H1 := hid (show At W0 (w.heap.size + 1) (ubs r).toArray 25 by rw [hW0]; exact At.new_at (by simp))
  have HB0 := hid (show Below w.heap.size w W0 by rw [hW0]; exact ((Below.refl w.heap.size w).alloc (Nat.le_refl _) _).alloc (by simp) _)
  have hs0 : W0.heap.size = w.heap.size + 1 + 1 := by rw [hW0]; simp
  have O1 := hid (own_lit2 W0 2 (UInt8.ofNat h))
  have HL := hid hl
  have HR := hid hr
  have HJ := hid (show joinT h l r = ([2, UInt8.ofNat h] ++ l) ++ r from rfl)
  have hw : IntKind.u8.wrap (h : Int) = ((UInt8.ofNat h).toNat : Int) := by
    rw [UInt8.toNat_ofNat']
    simp [IntKind.wrap, IntKind.signed, IntKind.bits]
  have hb1 : ((2 : UInt8).toNat : Int) = 2 := rfl
  rw [hb1, hs0] at O1
  generalize UInt8.ofNat h = b at O1 HJ hw
  generalize joinT h l r = lt at HJ ⊢
  clear hl hr hb1 hs0
  subst hW0
  go_enter Tryd.func104, Tryd.ntmps104
  go_wp2_with (first
    | (at_builtin; refine wpList_append_rd rfl (.tmp 10) (.tmp 11) _ rfl ((w.alloc (.cells (ubs l).toArray 25)).alloc (.cells (ubs r).toArray 25)).heap.size 5 i0 (.int .u8 0) 1 Tryd.underlying120 hi0 hz0 hz1 hz2 rfl (.slice (some ⟨w.heap.size + 1 + 1, 0, none⟩) 2 2) 2 (ubs [2, b]) rfl O1.out.own _ (some ⟨w.heap.size, 0, none⟩) 32 32 (ubs l) rfl (by rw [ubs_length, HL.out]) (rb_at (H0.out.new_ O1.out.below)) (ubs_one _) (by unfold maxLen; omega) (by omega) O1.out.below.size ?_; intro v3 w3 ho3 hg3 _; have O3 := hid (O1.out.more ho3 HL.out.symm hg3); have X3 := hid (H1.out.new_ O3.out.below); (have hf3 := own_form ho3); clear ho3 hg3; obtain ⟨A3, c3, rfl, -⟩ := hf3)
    | (at_builtin; refine wpList_append_rd rfl (.tmp 13) (.tmp 14) _ rfl ((w.alloc (.cells (ubs l).toArray 25)).alloc (.cells (ubs r).toArray 25)).heap.size 5 i0 (.int .u8 0) 1 Tryd.underlying120 hi0 hz0 hz1 hz2 rfl (.slice A3 (2 + 32) c3) (2 + 32) (ubs ([2, b] ++ l)) rfl O3.out.own _ (some ⟨w.heap.size + 1, 0, none⟩) 32 32 (ubs r) rfl (by rw [ubs_length, HR.out]) (rb_at X3.out) (ubs_one _) (by unfold maxLen; omega) (by omega) O3.out.below.size ?_; intro v5 w5 ho5 hg5 _; have O5 := hid (O3.out.more ho5 HR.out.symm hg5); (have hf5 := own_form ho5); clear ho5 hg5; obtain ⟨A5, c5, rfl, -⟩ := hf5))
  go_ret
  refine ⟨_, _, rfl, ?_, fun k hk => ?_, HB0.out.trans (O5.out.below.mono HB0.out.size)⟩
  · rw [HJ.out]
    exact Rd.of_own O5.out.own
  · have := World.ownsRow.lt O5.out.own k hk
    have := HB0.out.size
    omega
theorem infoTx : (Tryd.prog.info? 120).map (fun i => (i.zero, i.size, i.bytes)) = some (some (.slice none 0 0), 1, 24) := by kernel_rfl
theorem infoTx_parts : ∃ i, Tryd.prog.info? 120 = some i ∧ i.zero = some (.slice none 0 0) ∧ i.size = 1 ∧ i.bytes = 24 := by
  have := infoTx
  cases h : Tryd.prog.info? 120 with
  | none => rw [h] at this; cases this
  | some ie =>
    rw [h] at this
    simp only [Option.map_some, Option.some.injEq, Prod.mk.injEq] at this
    exact ⟨ie, rfl, this.1, this.2.1, this.2.2⟩
/-- A slice of texts of the call's own: the texts lie from a block on, and none in the row of the slice. -/
def Apt (W : World) (base : Nat) (v : Value) (ps : List Part) : Prop :=
  W.ownsRow base 120 1 v ps.length (ps.map Part.v) ∧ ∀ p ∈ ps, Rb W W.heap.size p.A p.bs ∧ ∀ k, p.v.ownBlock = some k → base ≤ k ∧ k < W.heap.size ∧ v.ownBlock ≠ some k
section
variable {W W' : World} {base base' : Nat} {v : Value} {ps qs : List Part}
theorem Apt.nil (W : World) (base : Nat) : Apt W base (.slice none 0 0) [] := ⟨World.ownsRow_nil _ _ _ _, fun _ h => nomatch h⟩
theorem Apt.form (h : Apt W base v ps) : ∃ A c, v = .slice A ps.length c := by
  rcases h.1.2 with ⟨h1, h2⟩ | ⟨g, cap, cur, e, -⟩
  · rw [h1, h2]
    exact ⟨_, _, rfl⟩
  · exact ⟨_, _, e⟩
theorem Apt.lt (h : Apt W base v ps) : ∀ k, v.ownBlock = some k → base ≤ k ∧ k < W.heap.size := World.ownsRow.lt h.1
theorem Apt.kept (h : Apt W base v ps) (hb : Below W.heap.size W W') : Apt W' base v ps := by
  refine ⟨⟨h.1.1, ?_⟩, fun p hp => ⟨((h.2 p hp).1.below hb).mono hb.size, fun k hk => ?_⟩⟩
  · rcases h.1.2 with h2 | ⟨g, cap, cur, rfl, hb1, hh, r⟩
    · exact .inl h2
    · exact .inr ⟨g, cap, cur, rfl, hb1, (hb.block g (lt_of_block hh)).trans hh, r⟩
  · have := (h.2 p hp).2 k hk
    exact ⟨this.1, Nat.lt_of_lt_of_le this.2.1 hb.size, this.2.2⟩
theorem Apt.mono (h : Apt W base v ps) (hb : base' ≤ base) : Apt W base' v ps := by
  refine ⟨⟨h.1.1, ?_⟩, fun p hp => ⟨(h.2 p hp).1, fun k hk => ?_⟩⟩
  · rcases h.1.2 with h2 | ⟨g, cap, cur, rfl, hb1, r⟩
    · exact .inl h2
    · exact .inr ⟨g, cap, cur, rfl, Nat.le_trans hb hb1, r⟩
  · have := (h.2 p hp).2 k hk
    exact ⟨Nat.le_trans hb this.1, this.2⟩
/-- What it reads as. -/
theorem Apt.rd {c : Nat} {A : Option Addr} (h : Apt W base (.slice A ps.length c) ps) : Rd W W.heap.size A (ps.map Part.v) := fun hne => by
  rcases h.1.2 with ⟨h1, h2⟩ | ⟨g, cap, cur, e, hb, hh, -⟩
  · refine absurd ?_ hne
    obtain rfl : ps = [] := List.eq_nil_of_length_eq_zero h2
    rfl
  · obtain rfl : A = some ⟨g, 0, none⟩ := by cases e; rfl
    refine ⟨g, 0, rfl, lt_of_block hh, fun j u hu => ?_⟩
    have := World.ownsRow.cells h.1 (g := g) rfl j u hu
    rwa [add_plain] at this
theorem partv_one (ps : List Part) : ∀ u ∈ ps.map Part.v, u.oneCell' = true := by
  intro u hu
  obtain ⟨p, -, rfl⟩ := List.mem_map.1 hu
  rfl
/-- Texts of the call's own appended to older ones of its own. -/
theorem run_append_pt (ty : TypeId) (hown : Apt W base v ps) {v2 : Value} {base2 : Nat} (h2 : Apt W base2 v2 qs) (hle : base ≤ base2) (hne : ∀ q ∈ qs, ∀ k, q.v.ownBlock = some k → v.ownBlock ≠ some k) (hl : ps.length + qs.length ≤ 8589934592) (hbase : base ≤ W.heap.size) :
    ∃ v' w', (Builtin.append_ #[74, 74] ty #[v, v2]).run Tryd.prog W = .ok v' w' ∧ Apt w' base v' (ps ++ qs) ∧ W.grownBy w' v.ownBlock ∧ (v'.ownBlock = v.ownBlock ∨ v'.ownBlock = some W.heap.size) := by
  obtain ⟨i, hi, hz, hsz, hby⟩ := infoTx_parts
  obtain ⟨v', w', hr, h3, h4, h5⟩ : ∃ v' w', (Builtin.append_ #[74, 74] ty #[v, v2]).run Tryd.prog W = .ok v' w' ∧ w'.ownsRow base 120 1 v' (ps.length + qs.length) (ps.map Part.v ++ qs.map Part.v) ∧ W.grownBy w' v.ownBlock ∧ (v'.ownBlock = v.ownBlock ∨ v'.ownBlock = some W.heap.size) := by
    rcases h2.1.2 with ⟨rfl, h0⟩ | ⟨g, cap, cur, rfl, hb1, hh, -⟩
    · obtain rfl : qs = [] := List.eq_nil_of_length_eq_zero h0
      exact ⟨v, W, run_append_owned_none (P := Tryd.prog) W base 74 ty 120 i 1 Tryd.underlying74 hi v ps.length _ hown.1, by rw [List.map_nil, List.append_nil]; exact hown.1, ⟨rfl, rfl, rfl, Nat.le_refl _, fun _ _ _ => rfl⟩, .inl rfl⟩
    · obtain ⟨v', w', hr, h2', h3, -, h5⟩ := run_append_own_at (P := Tryd.prog) W base 74 ty 120 i _ 1 24 Tryd.underlying74 hi hz hsz hby rfl (by omega) v ps.length (ps.map Part.v) hown.1 ⟨g, 0, none⟩ qs.length cap (qs.map Part.v) (by rw [List.length_map, Nat.mul_one])
        (fun j u hu => World.ownsRow.cells h2.1 (g := g) rfl j u hu) (partv_one qs) (by unfold maxLen; omega) (by omega) hbase
      exact ⟨v', w', hr, h2', h3, h5⟩
  have hfr : Fr (fun k => v.ownBlock = some k) W w' := (Fr.refl _ W).grown h4 (fun k hk => .inr hk)
  have hsize : W.heap.size ≤ w'.heap.size := hfr.size
  refine ⟨v', w', hr, ⟨?_, fun p hp => ?_⟩, h4, h5⟩
  · rw [List.length_append, List.map_append]
    exact h3
  · have key : Rb W W.heap.size p.A p.bs ∧ ∀ k, p.v.ownBlock = some k → base ≤ k ∧ k < W.heap.size ∧ v.ownBlock ≠ some k := by
      rcases List.mem_append.1 hp with hp | hp
      · exact hown.2 p hp
      · refine ⟨(h2.2 p hp).1, fun k hk => ?_⟩
        have h6 := (h2.2 p hp).2 k hk
        exact ⟨Nat.le_trans hle h6.1, h6.2.1, hne p hp k hk⟩
    refine ⟨(Rd.fr key.1 hfr (fun b o e hS => (key.2 b (by unfold Part.v; rw [e]; rfl)).2.2 hS)).mono hsize, fun k hk => ?_⟩
    have h6 := key.2 k hk
    refine ⟨h6.1, Nat.lt_of_lt_of_le h6.2.1 hsize, fun e => ?_⟩
    rcases h5 with h5 | h5
    · exact h6.2.2 (by rw [← h5]; exact e)
    · rw [h5] at e
      have : W.heap.size = k := by simpa using e
      omega
/-- A slice of one text. -/
theorem Apt.lit {B : Nat} {p : Part} (h : Rb W W.heap.size p.A p.bs) (hk : ∀ k, p.v.ownBlock = some k → B ≤ k ∧ k < W.heap.size) (hB : B ≤ W.heap.size) : Apt (W.alloc (.cells #[p.v] 120)) B (.slice (some ⟨W.heap.size, 0, none⟩) 1 1) [p] := by
  refine ⟨World.ownsRow_lit (e := 120) (size := 1) W #[p.v] 1 hB (by unfold maxLen; decide) rfl, fun q hq => ?_⟩
  obtain rfl : q = p := by simpa using hq
  have hb : Below W.heap.size W (W.alloc (.cells #[q.v] 120)) := (Below.refl _ _).alloc (Nat.le_refl _) _
  refine ⟨(h.below hb).mono hb.size, fun k hk' => ?_⟩
  have h1 := hk k hk'
  refine ⟨h1.1, Nat.lt_of_lt_of_le h1.2 hb.size, fun e => ?_⟩
  have : W.heap.size = k := by simpa [Value.ownBlock] using e
  omega
theorem run_buildTx {o : Oper} {a : Go.Act} (x : Operand) (ho : o.op = .buildSlice 74 1 #[(0, x)]) (p : Part) (hx : a.eval x = p.v) :
    (execOp a.eval o).run Tryd.prog W = .ok (.value (.slice (some ⟨W.heap.size, 0, none⟩) 1 1)) (W.alloc (.cells #[p.v] 120)) := by
  obtain ⟨ie, hie, hz, hs, -⟩ := infoTx_parts
  unfold execOp
  simp only [ho, Sem.run_bind]
  rw [run_buildSlice W _ _ 1 _ #[p.v] ie _ Tryd.underlying74 hie hz (by rw [hs]; decide) (by rw [hs]; decide) (by rw [hs]; simp [hx]; kernel_rfl)]
  rfl
/-- The operation. -/
theorem wpList_append_pt {ops : Array Oper} {rest : List Oper} {o : Oper} {a : Go.Act} {Q : Exit → Go.Act → World → Prop} (hw : Region.wanted o (yielded ops a.tmps) = true) (s x : Operand)
    (ho : o.op = .call { callee := .builtin .append, args := #[s, x], argTypes := #[74, 74] }) (v v2 : Value) (hs : a.eval s = v) (hx : a.eval x = v2) (hown : Apt W base v ps) {base2 : Nat} (h2 : Apt W base2 v2 qs) (hle : base ≤ base2) (hne : ∀ q ∈ qs, ∀ k, q.v.ownBlock = some k → v.ownBlock ≠ some k) (hl : ps.length + qs.length ≤ 8589934592) (hbase : base ≤ W.heap.size)
    (h : ∀ A c w', Apt w' base (.slice A (ps ++ qs).length c) (ps ++ qs) → W.grownBy w' v.ownBlock → ((Value.slice A (ps ++ qs).length c).ownBlock = v.ownBlock ∨ (Value.slice A (ps ++ qs).length c).ownBlock = some W.heap.size) → wpList Tryd.prog ops Q rest (a.put o.dst (.slice A (ps ++ qs).length c)) w') :
    wpList Tryd.prog ops Q (o :: rest) a W :=
  BigFrame.wpList_want hw fun K hK => by
    obtain ⟨v', w', hr, h6, h3, h5⟩ := run_append_pt o.type hown h2 hle hne hl hbase
    obtain ⟨A, c, rfl⟩ := h6.form
    unfold Oper.wp execOp
    simp only [ho, resolve, invoke, builtin, Sem.run_bind, Sem.run_pure, Result.andThen_ok, List.map_toArray, List.map_cons, List.map_nil, hs, hx, hr]
    exact hK _ _ (h A c w' h6 h3 h5)
end
end Go.Proofs.YtdegmcfcbndelaaDoor

namespace Go.Proofs.YtdegmcfcbndelaaDoor
open Go.RowKit

/-- A spot's cells; spots one behind the other. -/
def sptV (p : Nat × Nat) : List Value := [.int .i64 (p.1 : Int), .int .u64 (p.2 : Int)]
def sptR (L : List (Nat × Nat)) : List Value := L.flatMap sptV
theorem sptR_append (L M : List (Nat × Nat)) : sptR (L ++ M) = sptR L ++ sptR M := by simp [sptR]
theorem sptR_one (p : Nat × Nat) : sptR [p] = sptV p := by simp [sptR]
theorem sptR_length (L : List (Nat × Nat)) : (sptR L).length = L.length * 2 := by
  induction L with
  | nil => rfl
  | cons p L ih =>
    rw [show sptR (p :: L) = sptV p ++ sptR L from rfl, List.length_append, ih, List.length_cons, show (sptV p).length = 2 from rfl]
    omega
theorem sptR_cells (L : List (Nat × Nat)) : ∀ u ∈ sptR L, u.oneCell' = true := by
  intro u hu
  obtain ⟨p, -, h⟩ := List.mem_flatMap.1 hu
  rcases List.mem_cons.1 h with rfl | h
  · rfl
  · obtain rfl : u = _ := by simpa using h
    rfl
theorem sptR_at {L : List (Nat × Nat)} {k : Nat} (hk : k < L.length) : (sptR L)[2 * k]? = some (.int .i64 ((L[k].1 : Nat) : Int)) ∧ (sptR L)[2 * k + 1]? = some (.int .u64 ((L[k].2 : Nat) : Int)) := by
  have e : sptR L = sptR (L.take k) ++ (sptV L[k] ++ sptR (L.drop (k + 1))) := by
    rw [show sptV L[k] ++ sptR (L.drop (k + 1)) = sptR (L[k] :: L.drop (k + 1)) from rfl, ← sptR_append, List.getElem_cons_drop, List.take_append_drop]
  have hl : (sptR (L.take k)).length = 2 * k := by
    rw [sptR_length, List.length_take]
    omega
  rw [e]
  constructor
  · rw [List.getElem?_append_right (by omega), hl, Nat.sub_self]
    rfl
  · rw [List.getElem?_append_right (by omega), hl, show 2 * k + 1 - 2 * k = 1 by omega]
    rfl
theorem infoSp : (Tryd.prog.info? 130).map (fun i => (i.zero, i.size, i.bytes)) = some (some (.agg (sptV (0, 0)).toArray), 2, 16) := by kernel_rfl
theorem infoSp_parts : ∃ i, Tryd.prog.info? 130 = some i ∧ i.zero = some (.agg (sptV (0, 0)).toArray) ∧ i.size = 2 ∧ i.bytes = 16 := by
  have := infoSp
  cases h : Tryd.prog.info? 130 with
  | none => rw [h] at this; cases this
  | some ie =>
    rw [h] at this
    simp only [Option.map_some, Option.some.injEq, Prod.mk.injEq] at this
    exact ⟨ie, rfl, this.1, this.2.1, this.2.2⟩
/-- The only part of a literal of one spot. -/
theorem fillSp (p : Nat × Nat) : Instr.fill (fun i => some (i * 2, 2)) ((Array.range (1 * 2)).map ((Value.agg (sptV (0, 0)).toArray).cells[· % (Value.agg (sptV (0, 0)).toArray).cells.size]!)) [(0, .agg (sptV p).toArray)] = some (sptV p).toArray := by
  have h0 : (Array.range (1 * 2)).map ((Value.agg (sptV (0, 0)).toArray).cells[· % (Value.agg (sptV (0, 0)).toArray).cells.size]!) = (sptV (0, 0)).toArray := by kernel_rfl
  rw [h0, fill_step _ 0 0 2 (sptV (0, 0)) (sptV p) _ _ rfl (by simp) rfl (by decide)]
  have := spv_at [] (sptV (0, 0)) [] (sptV p) rfl
  rw [List.append_nil, List.append_nil, List.nil_append, List.nil_append] at this
  rw [show spv (sptV (0, 0)) 0 (sptV p) = sptV p from this]
  rfl
theorem run_buildSp {o : Oper} {a : Go.Act} {W : World} (x : Operand) (ho : o.op = .buildSlice 127 1 #[(0, x)]) (p : Nat × Nat) (hx : a.eval x = .agg (sptV p).toArray) :
    (execOp a.eval o).run Tryd.prog W = .ok (.value (.slice (some ⟨W.heap.size, 0, none⟩) 1 1)) (W.alloc (.cells (sptV p).toArray 130)) := by
  obtain ⟨ie, hie, hz, hs, -⟩ := infoSp_parts
  unfold execOp
  simp only [ho, Sem.run_bind]
  rw [run_buildSlice W _ _ 1 _ (sptV p).toArray ie _ Tryd.underlying127 hie hz (by rw [hs]; decide) (by rw [hs]; decide) (by rw [hs]; simpa [hx] using fillSp p)]
  rfl
/-- A slice of spots of the call's own. -/
def Asp (W : World) (base : Nat) (v : Value) (L : List (Nat × Nat)) : Prop := W.ownsRow base 130 2 v L.length (sptR L)
theorem Asp.nil (W : World) (base : Nat) : Asp W base (.slice none 0 0) [] := World.ownsRow_nil _ _ _ _
theorem Asp.one (W : World) {base : Nat} (p : Nat × Nat) (hb : base ≤ W.heap.size) : Asp (W.alloc (.cells (sptV p).toArray 130)) base (.slice (some ⟨W.heap.size, 0, none⟩) 1 1) [p] := by
  have := World.ownsRow_lit (e := 130) (size := 2) W (sptV p).toArray 1 hb (by unfold maxLen; decide) rfl
  unfold Asp
  rw [sptR_one]
  exact this
theorem Asp.form {W : World} {base : Nat} {v : Value} {L : List (Nat × Nat)} (h : Asp W base v L) : ∃ A c, v = .slice A L.length c := by
  rcases h.2 with ⟨h1, h2⟩ | ⟨g, cap, cur, e, -⟩
  · rw [h1, h2]
    exact ⟨_, _, rfl⟩
  · exact ⟨_, _, e⟩
theorem Asp.kept {W W' : World} {base : Nat} {v : Value} {L : List (Nat × Nat)} (h : Asp W base v L) (hb : Below W.heap.size W W') : Asp W' base v L := by
  refine ⟨h.1, ?_⟩
  rcases h.2 with h2 | ⟨g, cap, cur, rfl, hb1, hh, r⟩
  · exact .inl h2
  · exact .inr ⟨g, cap, cur, rfl, hb1, (hb.block g (lt_of_block hh)).trans hh, r⟩
theorem Asp.lt {W : World} {base : Nat} {v : Value} {L : List (Nat × Nat)} (h : Asp W base v L) : ∀ k, v.ownBlock = some k → base ≤ k ∧ k < W.heap.size := World.ownsRow.lt h
theorem Asp.mono {W : World} {base base' : Nat} {v : Value} {L : List (Nat × Nat)} (h : Asp W base v L) (hb : base' ≤ base) : Asp W base' v L := by
  refine ⟨h.1, ?_⟩
  rcases h.2 with h2 | ⟨g, cap, cur, rfl, hb1, r⟩
  · exact .inl h2
  · exact .inr ⟨g, cap, cur, rfl, Nat.le_trans hb hb1, r⟩
/-- What it reads as. -/
theorem Asp.rd {W : World} {base c : Nat} {A : Option Addr} {L : List (Nat × Nat)} (h : Asp W base (.slice A L.length c) L) : Rd W W.heap.size A (sptR L) := fun hne => by
  rcases h.2 with ⟨h1, h2⟩ | ⟨g, cap, cur, e, hb, hh, -⟩
  · refine absurd ?_ hne
    obtain rfl : L = [] := List.eq_nil_of_length_eq_zero h2
    rfl
  · obtain rfl : A = some ⟨g, 0, none⟩ := by cases e; rfl
    refine ⟨g, 0, rfl, lt_of_block hh, fun j u hu => ?_⟩
    have := World.ownsRow.cells h (g := g) rfl j u hu
    rwa [add_plain] at this
/-- Spots are appended to spots, both of the call's own. -/
theorem wpList_append_sp {ops : Array Oper} {rest : List Oper} {o : Oper} {a : Go.Act} {W : World} {Q : Exit → Go.Act → World → Prop} (hw : Region.wanted o (yielded ops a.tmps) = true) (s x : Operand)
    (ho : o.op = .call { callee := .builtin .append, args := #[s, x], argTypes := #[127, 127] })
    (base base2 : Nat) (v v2 : Value) (L M : List (Nat × Nat)) (hs : a.eval s = v) (hx : a.eval x = v2) (hown : Asp W base v L) (h2 : Asp W base2 v2 M) (hl : L.length + M.length ≤ 4294967296) (hbase : base ≤ W.heap.size)
    (h : ∀ A c w', Asp w' base (.slice A (L ++ M).length c) (L ++ M) → W.grownBy w' v.ownBlock → wpList Tryd.prog ops Q rest (a.put o.dst (.slice A (L ++ M).length c)) w') :
    wpList Tryd.prog ops Q (o :: rest) a W :=
  BigFrame.wpList_want hw fun K hK => by
    obtain ⟨i, hi, hz, hsz, hby⟩ := infoSp_parts
    obtain ⟨v', w', hr, h3, h4⟩ : ∃ v' w', (Builtin.append_ #[127, 127] o.type #[v, v2]).run Tryd.prog W = .ok v' w' ∧ w'.ownsRow base 130 2 v' (L.length + M.length) (sptR L ++ sptR M) ∧ W.grownBy w' v.ownBlock := by
      rcases h2.2 with ⟨rfl, h0⟩ | ⟨g, cap, cur, rfl, hb1, hh, -⟩
      · obtain rfl : M = [] := List.eq_nil_of_length_eq_zero h0
        exact ⟨v, W, run_append_owned_none (P := Tryd.prog) W base 127 o.type 130 i 2 Tryd.underlying127 hi v L.length (sptR L) hown, by rw [show sptR [] = [] from rfl, List.append_nil]; exact hown, ⟨rfl, rfl, rfl, Nat.le_refl _, fun _ _ _ => rfl⟩⟩
      · obtain ⟨v', w', hr, h2', h3, -, -⟩ := run_append_own_at (P := Tryd.prog) W base 127 o.type 130 i _ 2 16 Tryd.underlying127 hi hz hsz hby rfl (by omega) v L.length (sptR L) hown ⟨g, 0, none⟩ M.length cap (sptR M) (sptR_length M)
          (fun j u hu => World.ownsRow.cells h2 (g := g) rfl j u hu) (sptR_cells M) (by unfold maxLen; omega) (by omega) hbase
        exact ⟨v', w', hr, h2', h3⟩
    have h6 : Asp w' base v' (L ++ M) := by
      unfold Asp
      rw [sptR_append, List.length_append]
      exact h3
    obtain ⟨A, c, rfl⟩ := h6.form
    unfold Oper.wp execOp
    simp only [ho, resolve, invoke, builtin, Sem.run_bind, Sem.run_pure, Result.andThen_ok, List.map_toArray, List.map_cons, List.map_nil, hs, hx, hr]
    exact hK _ _ (h A c w' h6 h4)
theorem spotsS_length (l : List Nat) : ∀ k p, (spotsS l k p).length ≤ 2 ^ k
  | 0, p => by
    unfold spotsS
    split <;> simp
  | k + 1, p => by
    unfold spotsS
    split
    · rw [List.length_append, Nat.pow_succ]
      have := spotsS_length l k (2 * p % 18446744073709551616)
      have := spotsS_length l k ((2 * p + 1) % 18446744073709551616)
      omega
    · simp [Nat.one_le_two_pow]
/-- What Spots answers for a height. -/
def SpotC (l : List Nat) (k : Nat) : Prop := ∀ (p : Nat) (A : Option Addr) (c : Nat) (W : World), Nu W W.heap.size A l → p < 18446744073709551616 →
  Calls Tryd.prog 74 #[.slice A l.length c, .int .i64 (k : Int), .int .u64 (p : Int)] W fun r W' => ∃ A1 c1, r = .returned (.slice A1 (spotsS l k p).length c1) ∧ Asp W' W.heap.size (.slice A1 (spotsS l k p).length c1) (spotsS l k p) ∧ Below W.heap.size W W'
set_option maxRecDepth 100000 in
set_option maxHeartbeats 400000 in
theorem spots_out (l : List Nat) (k p : Nat) (A : Option Addr) (c : Nat) (W : World) (hr : Nu W W.heap.size A l) (hk : k ≤ 64) (hl : l.length ≤ 1000000) (hb : belowB l k p = false) :
    Calls Tryd.prog 74 #[.slice A l.length c, .int .i64 (k : Int), .int .u64 (p : Int)] W fun r W' => ∃ A1 c1, r = .returned (.slice A1 1 c1) ∧ Asp W' W.heap.size (.slice A1 1 c1) [(k, p)] ∧ Below W.heap.size W W' := by
  have HB := hid (belowR_any l k p A c W hr hk hl)
  rw [hb] at HB
  generalize l.length = n at HB ⊢
  clear hr hk hl hb
  go_enter Tryd.func74, Tryd.ntmps74
  go_wp2_with (first
    | (go_at_call 98; refine HB.out.mono ?_; rintro r5 w5 ⟨rfl, e5⟩; obtain rfl := e5.symm)
    | (refine wpList_valW (by rfl) (run_buildSp (.tmp 14) rfl (k, p) rfl) ?_))
  go_ret
  exact ⟨_, _, rfl, Asp.one _ _ (Nat.le_refl _), (Below.refl _ _).alloc (Nat.le_refl _) _⟩
set_option maxRecDepth 100000 in
set_option maxHeartbeats 400000 in
theorem spots_leaf (l : List Nat) (p : Nat) (A : Option Addr) (c : Nat) (W : World) (hr : Nu W W.heap.size A l) (hl : l.length ≤ 1000000) (hb : belowB l 0 p = true) :
    Calls Tryd.prog 74 #[.slice A l.length c, .int .i64 ((0 : Nat) : Int), .int .u64 (p : Int)] W fun r W' => r = .returned (.slice none 0 0) ∧ W' = W := by
  have HB := hid (belowR_any l 0 p A c W hr (by omega) hl)
  rw [hb] at HB
  generalize l.length = n at HB ⊢
  clear hr hl hb
  go_enter Tryd.func74, Tryd.ntmps74
  go_wp2_with (first
    | (go_at_call 98; refine HB.out.mono ?_; rintro r5 w5 ⟨rfl, e5⟩; obtain rfl := e5.symm))
  go_ret
  exact ⟨rfl, rfl⟩
set_option maxRecDepth 100000 in
set_option maxHeartbeats 1000000 in
theorem spots_step (l : List Nat) (k p : Nat) (A : Option Addr) (c : Nat) (W : World) (hr : Nu W W.heap.size A l) (hk : k < 32) (hl : l.length ≤ 1000000) (hb : belowB l (k + 1) p = true) (ih : SpotC l k) :
    Calls Tryd.prog 74 #[.slice A l.length c, .int .i64 ((k + 1 : Nat) : Int), .int .u64 (p : Int)] W fun r W' => ∃ A1 c1, r = .returned (.slice A1 (spotsS l (k + 1) p).length c1) ∧ Asp W' W.heap.size (.slice A1 (spotsS l (k + 1) p).length c1) (spotsS l (k + 1) p) ∧ Below W.heap.size W W' := by
  have HB := hid (belowR_any l (k + 1) p A c W hr (by omega) hl)
  rw [hb] at HB
  rw [spotsS_step hb]
  obtain ⟨pL, hpL⟩ : ∃ q, q = 2 * p % 18446744073709551616 := ⟨_, rfl⟩
  obtain ⟨pR, hpR⟩ : ∃ q, q = (2 * p + 1) % 18446744073709551616 := ⟨_, rfl⟩
  have mL : IntKind.u64.wrap (2 * (p : Int)) = (pL : Int) := by simp [IntKind.wrap, IntKind.signed, IntKind.bits]; omega
  have mR : IntKind.u64.wrap ((pL : Int) + 1) = (pR : Int) := by simp [IntKind.wrap, IntKind.signed, IntKind.bits]; omega
  have HL := hid (ih pL A c W hr (by omega))
  have HM := hid (fun (W' : World) (b : Below W.heap.size W W') => ih pR A c W' (hr.new b) (by omega))
  have hlen : (spotsS l k pL).length + (spotsS l k pR).length ≤ 4294967296 := by
    have h1 := spotsS_length l k pL
    have h2 := spotsS_length l k pR
    have h3 : 2 ^ k ≤ 2 ^ 31 := Nat.pow_le_pow_right (by omega) (by omega)
    omega
  have HLEN := hid hlen
  rw [← hpL, ← hpR]
  generalize spotsS l k pL = L at HL HLEN ⊢
  generalize spotsS l k pR = M at HM HLEN ⊢
  generalize l.length = n at HB HL HM ⊢
  obtain ⟨m, hm⟩ : ∃ m, m = k + 1 := ⟨_, rfl⟩
  rw [← hm] at HB ⊢
  have nk : (m : Int) - 1 = (k : Int) := by omega
  have wk : IntKind.i64.wrap (k : Int) = (k : Int) := by simp [IntKind.wrap, IntKind.signed, IntKind.bits]; omega
  have d0 : decide ((m : Int) = 0) = false := by simp; omega
  have d0b : ((m : Int) == 0) = false := by simp; omega
  have d0n : decide (m = 0) = false := by simp; omega
  clear hr hk hl hb ih hlen hpL hpR hm
  go_enter Tryd.func74, Tryd.ntmps74
  go_wp2_with (first
    | (go_at_call 98; refine HB.out.mono ?_; rintro r5 w5 ⟨rfl, e5⟩; obtain rfl := e5.symm)
    | (go_at_call 74; refine HL.out.mono ?_; rintro r5 w5 ⟨A5, c5, rfl, ha5, hb5⟩; have HA5 := hid ha5; have HB5 := hid hb5; clear HL ha5 hb5)
    | (go_at_call 74; refine (HM.out _ HB5.out).mono ?_; rintro r6 w6 ⟨A6, c6, rfl, ha6, hb6⟩; have HA6 := hid ha6; have HB6 := hid hb6; clear HM ha6 hb6)
    | (refine wpList_append_sp (by rfl) (.tmp 23) (.tmp 30) rfl W.heap.size w5.heap.size (.slice A5 L.length c5) (.slice A6 M.length c6) L M rfl rfl (HA5.out.kept HB6.out) HA6.out HLEN.out (Nat.le_trans HB5.out.size HB6.out.size) ?_; intro A7 c7 w7 h1 h2; have HA7 := hid h1; have HG7 := hid h2; clear h1 h2))
  go_ret
  have hb := HB5.out.trans (HB6.out.mono HB5.out.size)
  refine ⟨_, _, by rw [List.length_append]; rfl, HA7.out, hb.grown HG7.out hb.size (fun k hk => ?_)⟩
  exact ((HA5.out.kept HB6.out).lt k hk).1
/-- Spots, for every height. -/
theorem spotsR_any (l : List Nat) (hl : l.length ≤ 1000000) : ∀ k, k ≤ 32 → SpotC l k
  | 0, _ => fun p A c W hr hp => by
    cases hb : belowB l 0 p with
    | false =>
      refine (spots_out l 0 p A c W hr (by omega) hl hb).mono ?_
      rintro r W' ⟨A1, c1, rfl, ha, hb'⟩
      rw [spotsS_out hb]
      exact ⟨A1, c1, rfl, ha, hb'⟩
    | true =>
      refine (spots_leaf l p A c W hr hl hb).mono ?_
      rintro r W' ⟨rfl, rfl⟩
      rw [spotsS_leaf hb]
      exact ⟨none, 0, rfl, Asp.nil _ _, Below.refl _ _⟩
  | k + 1, hk => fun p A c W hr hp => by
    cases hb : belowB l (k + 1) p with
    | false =>
      refine (spots_out l (k + 1) p A c W hr (by omega) hl hb).mono ?_
      rintro r W' ⟨A1, c1, rfl, ha, hb'⟩
      rw [spotsS_out hb]
      exact ⟨A1, c1, rfl, ha, hb'⟩
    | true => exact spots_step l k p A c W hr (by omega) hl hb (spotsR_any l hl k (by omega))
end Go.Proofs.YtdegmcfcbndelaaDoor

namespace Go.Proofs.YtdegmcfcbndelaaDoor
open Go.RowKit

theorem sptR_in {W : World} {A : Option Addr} {S : List (Nat × Nat)} (h : Rd W W.heap.size A (sptR S)) {i : Nat} (hi : i < S.length) : ∃ g o, A = some ⟨g, o, none⟩ ∧ W.rangeAt g (o + 2 * i) (sptV S[i]) := by
  obtain ⟨g, o, e, -, r⟩ := h (by intro e; have := congrArg List.length e; rw [sptR_length] at this; simp at this; omega)
  refine ⟨g, o, e, fun j u hu => ?_⟩
  have h1 := sptR_at hi
  rcases j with _ | _ | j
  · have := r _ _ h1.1
    obtain rfl : Value.int .i64 ((S[i].1 : Nat) : Int) = u := by simpa [sptV] using hu
    exact this
  · have := r _ _ h1.2
    obtain rfl : Value.int .u64 ((S[i].2 : Nat) : Int) = u := by simpa [sptV] using hu
    exact this
  · simp [sptV] at hu
theorem eqf_two {P : Program} (w : World) (d : Nat) (xs ys : Array Value) (f1 f2 : Field) (n1 : f1.name ≠ "_") (n2 : f2.name ≠ "_") (a1 a2 b1 b2 : Value) (r1 r2 : Bool)
    (x1 : (part f1.type xs f1.offset).run P w = .ok a1 w) (y1 : (part f1.type ys f1.offset).run P w = .ok b1 w) (e1 : (Op.equalIn d f1.type a1 b1).run P w = .ok r1 w)
    (x2 : (part f2.type xs f2.offset).run P w = .ok a2 w) (y2 : (part f2.type ys f2.offset).run P w = .ok b2 w) (e2 : (Op.equalIn d f2.type a2 b2).run P w = .ok r2 w) :
    (Op.eqFields d xs ys [f1, f2]).run P w = .ok (r1 && r2) w := by
  unfold Op.eqFields
  rw [if_pos n1]
  simp only [Sem.run_bind, x1, y1, e1, Result.andThen_ok]
  cases r1
  · simp
  simp only [Bool.not_true, Bool.false_eq_true, if_false]
  unfold Op.eqFields
  rw [if_pos n2]
  simp only [Sem.run_bind, x2, y2, e2, Result.andThen_ok]
  cases r2
  · simp
  simp [Op.eqFields]
theorem cast_beq (e f : Nat) : ((e : Int) == (f : Int)) = (e == f) := by
  by_cases h : e = f
  · simp [h]
  · rw [beq_eq_false_iff_ne.2 h, beq_eq_false_iff_ne.2 (by omega)]
theorem plainIx : Tryd.prog.plainKey 3 = true := by kernel_rfl
theorem plainUx : Tryd.prog.plainKey 23 = true := by kernel_rfl
theorem run_eq_sp (w : World) (u v : Nat × Nat) (D : Nat) :
    (Op.equalIn (D + 3) 130 (.agg (sptV u).toArray) (.agg (sptV v).toArray)).run Tryd.prog w = .ok (u.1 == v.1 && u.2 == v.2) w := by
  have hs : Tryd.prog.underlying 130 = some (.struct (Tryd.prog.fieldsOf 130)) := by
    unfold Program.fieldsOf
    rw [Tryd.underlying130]
  rw [run_equalIn_struct w (D + 2) _ _ _ hs (by kernel_rfl)]
  have p1 := fun (u : Nat × Nat) => run_part_plain (P := Tryd.prog) w plainIx (xs := (sptV u).toArray) (off := 0) (v := .int .i64 (u.1 : Int)) rfl
  have p2 := fun (u : Nat × Nat) => run_part_plain (P := Tryd.prog) w plainUx (xs := (sptV u).toArray) (off := 1) (v := .int .u64 (u.2 : Int)) rfl
  have q1 := run_equalIn_int (P := Tryd.prog) w (D + 1) 3 .i64 .i64 (u.1 : Int) (v.1 : Int) Tryd.underlying3
  have q2 := run_equalIn_int (P := Tryd.prog) w (D + 1) 23 .u64 .u64 (u.2 : Int) (v.2 : Int) Tryd.underlying23
  have ef : ∃ f1 f2 : Field, (Tryd.prog.fieldsOf 130).toList = [f1, f2] ∧ (f1.name ≠ "_" ∧ f1.type = 3 ∧ f1.offset = 0) ∧ (f2.name ≠ "_" ∧ f2.type = 23 ∧ f2.offset = 1) := by
    unfold Program.fieldsOf
    rw [Tryd.underlying130]
    exact ⟨_, _, rfl, ⟨by decide, rfl, rfl⟩, ⟨by decide, rfl, rfl⟩⟩
  obtain ⟨f1, f2, el, ⟨n1, t1, o1⟩, ⟨n2, t2, o2⟩⟩ := ef
  rw [el, eqf_two w (D + 2) _ _ f1 f2 n1 n2 _ _ _ _ _ _ (by rw [t1, o1]; exact p1 u) (by rw [t1, o1]; exact p1 v) (by rw [t1]; exact q1) (by rw [t2, o2]; exact p2 u) (by rw [t2, o2]; exact p2 v) (by rw [t2]; exact q2)]
  rw [cast_beq, cast_beq]
theorem guardSp : Tryd.prog.eqGuardType Tryd.prog.depth 130 = false := by kernel_rfl
theorem run_eqlSp {o : Oper} {a : Go.Act} (t2 : TypeId) (x y : Operand) (ho : o.op = .binOp .eql 130 x y t2) (u v : Nat × Nat) (hx : a.eval x = .agg (sptV u).toArray) (hy : a.eval y = .agg (sptV v).toArray) (r : Bool) (hr : (u.1 == v.1 && u.2 == v.2) = r) (w : World) :
    (execOp a.eval o).run Tryd.prog w = .ok (.value (.bool r)) w :=
  run_eql_op _ _ x y ho _ _ hx hy guardSp r w (by rw [run_eql_struct, run_eq_sp w u v 9997, hr]; rfl)
theorem sizeSp : (Tryd.prog.info? 130).map (·.size) = some 2 := by kernel_rfl
theorem run_loadSp {o : Oper} {a : Go.Act} {W : World} (x : Operand) (ho : o.op = .load 130 x) (b off : Nat) (hx : a.eval x = .pointer (some ⟨b, off, none⟩)) (q : Nat × Nat) (hc : W.rangeAt b off (sptV q)) : (execOp a.eval o).run Tryd.prog W = .ok (.value (.agg (sptV q).toArray)) W :=
  run_load_part _ x ho b off hx (sptV q) _ hc Tryd.underlying130 rfl (by rw [sizeSp]; rfl)
theorem results_pair {P : Program} {fn : Func} {u p : Tmp} {ty : TypeId} (h : fn.results = #[.tmp u, .cell p ty]) (tmps : Array Value) (w : World) (g : Nat) (t : TypeId) (cs : Array Value) (fr : Nat × Nat) (d : TypeDesc)
    (hp : tmps.getD p undef = .pointer (some ⟨g, 0, none⟩)) (hg : w.heap[g]? = some (.cells cs t fr))
    (hu : P.underlying ty = some d) (hd : (match d with | .struct _ | .array _ _ => true | _ => false) = true) (hi : (P.info? ty).map (·.size) = some cs.size) :
    (results fn tmps).run P w = .ok (.tuple #[tmps.getD u undef, .agg cs]) w := by
  have hp' : tmps[p]?.getD undef = .pointer (some ⟨g, 0, none⟩) := by simpa using hp
  simp [results, h, hp', asAddr, Result.andThen, run_loadVar_row w g t ty cs fr d hg hu hd hi]
/-- What a region yields that hands a hash of a row out. -/
def cbF (v : Value) (j g q : Nat) (hs : List UInt8) : Nat → Value
  | 0 => v
  | 1 => .int .i64 (j : Int)
  | 2 => .pointer (some ⟨g, q, none⟩)
  | 3 => .agg (ubs hs).toArray
  | _ => .slice none 0 0
set_option maxRecDepth 100000 in
set_option maxHeartbeats 1000000 in
theorem climb_spot (k p : Nat) (l : List Nat) (bes : List UInt8) (S : List (Nat × Nat)) (A AL AS AB : Option Addr) (n2 c c2 cS cb : Nat) (W : World) (hS : Rd W W.heap.size AS (sptR S)) (hB : Rd W W.heap.size AB (ubs bes)) (hbl : bes.length = 32 * S.length) (hl : S.length ≤ 1000000) (i : Nat) (hi : i < S.length) (he : S[i] = (k, p)) (hno : ∀ j (h : j < i), S[j]'(by omega) ≠ (k, p)) :
    Calls Tryd.prog 80 #[.slice A l.length c, .slice AL n2 c2, .slice AS S.length cS, .slice AB S.length cb, .int .i64 (k : Int), .int .u64 (p : Int)] W fun r W' => r = .returned (.tuple #[.slice none 0 0, .agg (ubs (hpart bes i)).toArray]) ∧ Below W.heap.size W W' := by
  obtain ⟨n, hn⟩ : ∃ n, n = S.length := ⟨_, rfl⟩
  have HN := hid hn
  have HI := hid (show i < n by omega)
  have HL := hid (show n ≤ 1000000 by omega)
  have HNO := hid hno
  have HE := hid he
  have HS := hid (fun (V : World) (b : Below W.heap.size W V) => ((hS.below b).mono b.size : Rd V V.heap.size AS (sptR S)))
  have HB := hid (fun (V : World) (b : Below W.heap.size W V) => hpart_range ((hB.below b).mono b.size : Rd V V.heap.size AB (ubs bes)) hbl (hi))
  have HBL := hid (hpart_length (bs := bes) hbl hi)
  have HBW := hid ((Below.refl W.heap.size W).alloc (Nat.le_refl _) (.cells (ubs n32).toArray 25))
  have HAT := hid (show At (W.alloc (.cells (ubs n32).toArray 25)) W.heap.size (ubs n32).toArray 25 from At.new _ _ _)
  have hz := noughts32
  rw [← hn]
  generalize l.length = ll
  clear hS hB hbl hl hno hn he
  go_enter Tryd.func80, Tryd.ntmps80
  go_wp2
  generalize W.alloc (.cells (ubs n32).toArray 25) = W0 at HBW HAT ⊢
  go_loopw [14] (fun v14 wr => ∃ j : Nat, j ≤ i ∧ v14 = .int .i64 (j : Int) ∧ wr = W0) (fun v14 _ => n - (intOf v14).toNat)
  case atStart => exact ⟨0, by omega, rfl, rfl⟩
  case round =>
    obtain ⟨j, hj, rfl, ew0⟩ := hrel
    obtain rfl := ew0.symm
    have hlt : j < n := by have := HI.out; omega
    have d1 : decide ((j : Int) < (n : Int)) = true := by simp; omega
    have d1n : decide (j < n) = true := by simp; omega
    have ik : (j : Int) < (n : Int) := by omega
    have hjS : j < S.length := by rw [← HN.out]; exact hlt
    obtain ⟨g, o, rfl, hra⟩ := sptR_in (HS.out W0 HBW.out) hjS
    obtain ⟨q, hq⟩ : ∃ q, q = o + 2 * j := ⟨_, rfl⟩
    rw [← hq] at hra
    have eq : o + j * 2 = q := by omega
    have HRA := hid hra
    clear hra hq
    obtain ⟨u, hu⟩ : ∃ u, u = S[j] := ⟨_, rfl⟩
    rw [← hu] at HRA
    by_cases hji : j = i
    · subst hji
      have heq : (u.1 == k && u.2 == p) = true := by rw [hu, HE.out]; simp
      have HEQ := hid heq
      obtain ⟨g3, o3, rfl, -, hb3⟩ := HB.out W0 HBW.out
      obtain ⟨q3, hq3⟩ : ∃ q, q = o3 + 32 * j := ⟨_, rfl⟩
      rw [← hq3] at hb3
      have HB3 := hid (fun (V : World) (b : Below W.heap.size W V) => show V.rangeAt g3 q3 (ubs (hpart bes j)) by
        obtain ⟨g4, o4, e, -, r⟩ := HB.out V b
        cases e
        rw [← hq3] at r
        exact r)
      obtain ⟨hp, hhp⟩ : ∃ h, h = hpart bes j := ⟨_, rfl⟩
      have HHP := hid hhp
      rw [← hhp] at HB3 HBL
      clear hhp
      have eq3 : o3 + j * 32 = q3 := by omega
      clear hu heq hb3 hq3 hj
      go_wp2_with (first
        | (refine wpList_valW (by rfl) (run_loadSp (.tmp 29) rfl g q rfl u HRA.out) ?_)
        | (refine wpList_valW (by rfl) (run_eqlSp _ (.tmp 30) (.tmp 33) rfl u (k, p) rfl rfl true HEQ.out W0) ?_))
      try simp only [Act.put, List.setIfInBounds_toArray, List.set_cons_succ, List.set_cons_zero]
      refine wp_region_facts 5 6 [35, 36, 37, 38, 12] (fun k v _ => v = cbF (.slice (some ⟨g3, o3, none⟩) n cb) j g3 q3 hp k) (fun V => Below W.heap.size W V ∧ At V W.heap.size (ubs n32).toArray 25) (by kernel_rfl) (by kernel_rfl)
        (fun V V' h hb => ⟨h.1.trans (hb.mono h.1.size), h.2.new_ hb⟩) (fun _ _ _ _ h _ => h) ⟨HBW.out.drew, HAT.out.drew⟩ ?_ ?_
      · intro kk hkk vals V K hB hn hK
        simp only [frm_cons, frm_nil, List.set_cons_succ, List.set_cons_zero, Nat.reduceAdd] at hK ⊢
        rcases (by omega : kk = 0 ∨ kk = 1 ∨ kk = 2 ∨ kk = 3 ∨ kk = 4) with rfl | rfl | rfl | rfl | rfl
        · refine wpOp_plain rfl rfl (wp_val (w' := V) (v := .slice (some ⟨g3, o3, none⟩) n cb) (by go_simp) ?_)
          exact hK _ _ rfl (Below.refl _ _)
        · refine wpOp_plain rfl rfl (wp_val (w' := V) (v := .int .i64 (j : Int)) (by go_simp) ?_)
          exact hK _ _ rfl (Below.refl _ _)
        · have h0 := hn 0 (by decide +kernel)
          have h1 := hn 1 (by decide +kernel)
          simp only [cbF] at h0 h1
          simp only [h0, h1] at hK ⊢
          refine wpOp_plain rfl rfl (wp_val (w' := V) (v := .pointer (some ⟨g3, q3, none⟩)) (by go_simp) ?_)
          exact hK _ _ rfl (Below.refl _ _)
        · have h2 := hn 2 (by decide +kernel)
          simp only [cbF] at h2
          simp only [h2] at hK ⊢
          refine wpOp_plain rfl rfl (wp_val (run_loadH (.tmp 37) rfl g3 q3 rfl hp (HB3.out V hB.1) HBL.out) ?_)
          exact hK _ _ rfl (Below.refl _ _)
        · refine wpOp_plain rfl rfl (wp_val (w' := V) (v := .slice none 0 0) (by go_simp) ?_)
          exact hK _ _ rfl (Below.refl _ _)
      · intro vals V hB hF
        have h0 := hF 0 (by omega)
        have h1 := hF 1 (by omega)
        have h2 := hF 2 (by omega)
        have h3 := hF 3 (by omega)
        have h4 := hF 4 (by omega)
        simp only [cbF] at h0 h1 h2 h3 h4
        simp only [frm_cons, frm_nil, List.set_cons_succ, List.set_cons_zero, Nat.reduceAdd, h0, h1, h2, h3, h4]
        have HVB := hid hB.1
        have HVA := hid hB.2
        clear hB hF h0 h1 h2 h3 h4
        refine wpUpto_one (i := 5) rfl (by decide +kernel) rfl ?_
        intro Q0 hQ0
        refine wp_unit (run_store_row 25 (.tmp 13) (.tmp 38) rfl W.heap.size (ubs hp).toArray rfl rfl 25 (ubs n32).toArray HVA.out (sizeH_of HBL.out) (by simp [ubs_length, n32_length, HBL.out]) (ubs_all _)) ?_
        refine hQ0.out _ _ (fun _ => trivial) ?_
        clear hQ0 Q0
        refine wpUpto_done (by decide +kernel) ?_ _
        go_simp
        go_wp2
        refine bodyPost_ret (results_pair rfl _ _ W.heap.size 25 (ubs hp).toArray (0, 0) _ rfl (setRow_heap _ _ (ubs n32).toArray _ _ _ HVA.out) Tryd.underlying25 rfl (sizeH_of HBL.out)) rfl ?_
        exact ⟨by rw [← HHP.out]; rfl, below_setRow HVB.out (Nat.le_refl _) _⟩
    · have heq : (u.1 == k && u.2 == p) = false := by
        have hne := HNO.out j (by omega)
        rw [← hu] at hne
        cases hh : (u.1 == k && u.2 == p) with
        | false => rfl
        | true =>
          simp only [Bool.and_eq_true, beq_iff_eq] at hh
          exact absurd (Prod.ext hh.1 hh.2) hne
      have HEQ := hid heq
      obtain ⟨j1, hj1⟩ : ∃ m, m = j + 1 := ⟨_, rfl⟩
      have e2 : (j : Int) + 1 = (j1 : Int) := by omega
      have ew : IntKind.i64.wrap (j1 : Int) = (j1 : Int) := by rw [IntKind.wrap_i64] <;> have := HL.out <;> omega
      have HM := hid (show j1 ≤ i ∧ n - j1 < n - j by omega)
      clear hu heq hj hj1 hji
      go_wp2_with (first
        | (refine wpList_valW (by rfl) (run_loadSp (.tmp 29) rfl g q rfl u HRA.out) ?_)
        | (refine wpList_valW (by rfl) (run_eqlSp _ (.tmp 30) (.tmp 33) rfl u (k, p) rfl rfl false HEQ.out W0) ?_))
      exact ⟨⟨j1, HM.out.1, rfl, trivial⟩, by
        show n - ((j1 : Int)).toNat < n - ((j : Int)).toNat
        rw [Int.toNat_natCast, Int.toNat_natCast]
        exact HM.out.2⟩
end Go.Proofs.YtdegmcfcbndelaaDoor

namespace Go.Proofs.YtdegmcfcbndelaaDoor
open Go.RowKit

set_option maxRecDepth 100000 in
set_option maxHeartbeats 1000000 in
theorem climb_leaf (p : Nat) (l : List Nat) (lv : List UInt8) (S : List (Nat × Nat)) (A AL AS AB : Option Addr) (nb c c2 cS cb : Nat) (W : World) (hr : Nu W W.heap.size A l) (hS : Rd W W.heap.size AS (sptR S)) (hV : Rd W W.heap.size AL (ubs lv)) (hbl : lv.length = 32 * l.length) (hl : S.length ≤ 1000000) (hl2 : l.length ≤ 1000000) (hnS : (0, p) ∉ S) (i : Nat) (hi : i < l.length) (he : l[i] = p) (hno : ∀ j (h : j < i), l[j]'(by omega) ≠ p) :
    Calls Tryd.prog 80 #[.slice A l.length c, .slice AL l.length c2, .slice AS S.length cS, .slice AB nb cb, .int .i64 0, .int .u64 (p : Int)] W fun r W' => r = .returned (.tuple #[.slice none 0 0, .agg (ubs (hpart lv i)).toArray]) ∧ Below W.heap.size W W' := by
  obtain ⟨n, hn⟩ : ∃ n, n = S.length := ⟨_, rfl⟩
  obtain ⟨m, hm⟩ : ∃ n, n = l.length := ⟨_, rfl⟩
  have HN := hid hn
  have HMM := hid hm
  have HI := hid (show i < m by omega)
  have HL := hid (show n ≤ 1000000 ∧ m ≤ 1000000 by omega)
  have HNO := hid hno
  have HNS := hid hnS
  have HE := hid he
  have HS := hid (fun (V : World) (b : Below W.heap.size W V) => ((hS.below b).mono b.size : Rd V V.heap.size AS (sptR S)))
  have HR := hid (fun (V : World) (b : Below W.heap.size W V) => (hr.new b : Nu V V.heap.size A l))
  have HB := hid (fun (V : World) (b : Below W.heap.size W V) => hpart_range ((hV.below b).mono b.size : Rd V V.heap.size AL (ubs lv)) hbl (hi))
  have HBL := hid (hpart_length (bs := lv) hbl hi)
  have HBW := hid ((Below.refl W.heap.size W).alloc (Nat.le_refl _) (.cells (ubs n32).toArray 25))
  have HAT := hid (show At (W.alloc (.cells (ubs n32).toArray 25)) W.heap.size (ubs n32).toArray 25 from At.new _ _ _)
  have hz := noughts32
  rw [← hn, ← hm]
  clear hr hS hV hbl hl hl2 hno hn he hnS hm
  go_enter Tryd.func80, Tryd.ntmps80
  go_wp2
  generalize W.alloc (.cells (ubs n32).toArray 25) = W0 at HBW HAT ⊢
  go_loopw [14] (fun v14 wr => ∃ j : Nat, j ≤ n ∧ v14 = .int .i64 (j : Int) ∧ wr = W0) (fun v14 _ => n - (intOf v14).toNat)
  case atStart => exact ⟨0, by omega, rfl, rfl⟩
  case round =>
    obtain ⟨j, hj, rfl, ew0⟩ := hrel
    obtain rfl := ew0.symm
    by_cases hlt : j < n
    · have d1 : decide ((j : Int) < (n : Int)) = true := by simp; omega
      have d1n : decide (j < n) = true := by simp; omega
      have ik : (j : Int) < (n : Int) := by omega
      have hjS : j < S.length := by rw [← HN.out]; exact hlt
      obtain ⟨g, o, rfl, hra⟩ := sptR_in (HS.out W0 HBW.out) hjS
      obtain ⟨q, hq⟩ : ∃ q, q = o + 2 * j := ⟨_, rfl⟩
      rw [← hq] at hra
      have eq : o + j * 2 = q := by omega
      have HRA := hid hra
      clear hra hq
      obtain ⟨u, hu⟩ : ∃ u, u = S[j] := ⟨_, rfl⟩
      rw [← hu] at HRA
      have heq : (u.1 == 0 && u.2 == p) = false := by
        cases hh : (u.1 == 0 && u.2 == p) with
        | false => rfl
        | true =>
          simp only [Bool.and_eq_true, beq_iff_eq] at hh
          refine absurd ?_ HNS.out
          rw [show ((0, p) : Nat × Nat) = S[j] from by rw [← hu]; exact (Prod.ext hh.1 hh.2).symm]
          exact List.getElem_mem hjS
      have HEQ := hid heq
      obtain ⟨j1, hj1⟩ : ∃ m, m = j + 1 := ⟨_, rfl⟩
      have e2 : (j : Int) + 1 = (j1 : Int) := by omega
      have ew : IntKind.i64.wrap (j1 : Int) = (j1 : Int) := by rw [IntKind.wrap_i64] <;> have := HL.out <;> omega
      have HM := hid (show j1 ≤ n ∧ n - j1 < n - j by omega)
      clear hu heq hj hj1 hlt hjS
      go_wp2_with (first
        | (refine wpList_valW (by rfl) (run_loadSp (.tmp 29) rfl g q rfl u HRA.out) ?_)
        | (refine wpList_valW (by rfl) (run_eqlSp _ (.tmp 30) (.tmp 33) rfl u (0, p) rfl rfl false HEQ.out W0) ?_))
      exact ⟨⟨j1, HM.out.1, rfl, trivial⟩, by
        show n - ((j1 : Int)).toNat < n - ((j : Int)).toNat
        rw [Int.toNat_natCast, Int.toNat_natCast]
        exact HM.out.2⟩
    · obtain rfl : j = n := by omega
      have d1 : decide ((j : Int) < (j : Int)) = false := by simp
      clear hlt hj
      go_wp2
      clear d1
      go_loopw [15] (fun v15 wr => ∃ j : Nat, j ≤ i ∧ v15 = .int .i64 (j : Int) ∧ wr = W0) (fun v15 _ => m - (intOf v15).toNat)
      case atStart => exact ⟨0, by omega, rfl, rfl⟩
      case round =>
        obtain ⟨j, hj, rfl, ew1⟩ := hrel
        obtain rfl := ew1.symm
        have hlt : j < m := by have := HI.out; omega
        have d1 : decide ((j : Int) < (m : Int)) = true := by simp; omega
        have d1n : decide (j < m) = true := by simp; omega
        have ik : (j : Int) < (m : Int) := by omega
        have hjl : j < l.length := by rw [← HMM.out]; exact hlt
        obtain ⟨g, o, rfl, -, c0⟩ := (HR.out W0 HBW.out).at hjl
        obtain ⟨x, hx⟩ : ∃ x, x = l[j] := ⟨_, rfl⟩
        rw [← hx] at c0
        obtain ⟨q, hq⟩ : ∃ q, q = o + j := ⟨_, rfl⟩
        rw [← hq] at c0
        have eq := hq.symm
        by_cases hji : j = i
        · subst hji
          have hxp : x = p := by rw [hx, HE.out]
          subst hxp
          obtain ⟨g3, o3, rfl, -, hb3⟩ := HB.out W0 HBW.out
          obtain ⟨q3, hq3⟩ : ∃ q, q = o3 + 32 * j := ⟨_, rfl⟩
          have HB3 := hid (fun (V : World) (b : Below W.heap.size W V) => show V.rangeAt g3 q3 (ubs (hpart lv j)) by
            obtain ⟨g4, o4, e, -, r⟩ := HB.out V b
            cases e
            rw [← hq3] at r
            exact r)
          obtain ⟨hp, hhp⟩ : ∃ h, h = hpart lv j := ⟨_, rfl⟩
          have HHP := hid hhp
          rw [← hhp] at HB3 HBL
          have eq3 : o3 + j * 32 = q3 := by omega
          clear hhp hb3 hq3 hj hx hq hlt hjl
          go_wp2
          try simp only [Act.put, List.setIfInBounds_toArray, List.set_cons_succ, List.set_cons_zero]
          refine wp_region_facts 5 6 [53, 54, 55, 56, 12] (fun k v _ => v = cbF (.slice (some ⟨g3, o3, none⟩) m c2) j g3 q3 hp k) (fun V => Below W.heap.size W V ∧ At V W.heap.size (ubs n32).toArray 25) (by kernel_rfl) (by kernel_rfl)
            (fun V V' h hb => ⟨h.1.trans (hb.mono h.1.size), h.2.new_ hb⟩) (fun _ _ _ _ h _ => h) ⟨HBW.out.drew, HAT.out.drew⟩ ?_ ?_
          · intro kk hkk vals V K hB hn hK
            simp only [frm_cons, frm_nil, List.set_cons_succ, List.set_cons_zero, Nat.reduceAdd] at hK ⊢
            rcases (by omega : kk = 0 ∨ kk = 1 ∨ kk = 2 ∨ kk = 3 ∨ kk = 4) with rfl | rfl | rfl | rfl | rfl
            · refine wpOp_plain rfl rfl (wp_val (w' := V) (v := .slice (some ⟨g3, o3, none⟩) m c2) (by go_simp) ?_)
              exact hK _ _ rfl (Below.refl _ _)
            · refine wpOp_plain rfl rfl (wp_val (w' := V) (v := .int .i64 (j : Int)) (by go_simp) ?_)
              exact hK _ _ rfl (Below.refl _ _)
            · have h0 := hn 0 (by decide +kernel)
              have h1 := hn 1 (by decide +kernel)
              simp only [cbF] at h0 h1
              simp only [h0, h1] at hK ⊢
              refine wpOp_plain rfl rfl (wp_val (w' := V) (v := .pointer (some ⟨g3, q3, none⟩)) (by go_simp) ?_)
              exact hK _ _ rfl (Below.refl _ _)
            · have h2 := hn 2 (by decide +kernel)
              simp only [cbF] at h2
              simp only [h2] at hK ⊢
              refine wpOp_plain rfl rfl (wp_val (run_loadH (.tmp 55) rfl g3 q3 rfl hp (HB3.out V hB.1) HBL.out) ?_)
              exact hK _ _ rfl (Below.refl _ _)
            · refine wpOp_plain rfl rfl (wp_val (w' := V) (v := .slice none 0 0) (by go_simp) ?_)
              exact hK _ _ rfl (Below.refl _ _)
          · intro vals V hB hF
            have h0 := hF 0 (by omega)
            have h1 := hF 1 (by omega)
            have h2 := hF 2 (by omega)
            have h3 := hF 3 (by omega)
            have h4 := hF 4 (by omega)
            simp only [cbF] at h0 h1 h2 h3 h4
            simp only [frm_cons, frm_nil, List.set_cons_succ, List.set_cons_zero, Nat.reduceAdd, h0, h1, h2, h3, h4]
            have HVB := hid hB.1
            have HVA := hid hB.2
            clear hB hF h0 h1 h2 h3 h4
            refine wpUpto_one (i := 5) rfl (by decide +kernel) rfl ?_
            intro Q0 hQ0
            refine wp_unit (run_store_row 25 (.tmp 13) (.tmp 56) rfl W.heap.size (ubs hp).toArray rfl rfl 25 (ubs n32).toArray HVA.out (sizeH_of HBL.out) (by simp [ubs_length, n32_length, HBL.out]) (ubs_all _)) ?_
            refine hQ0.out _ _ (fun _ => trivial) ?_
            clear hQ0 Q0
            refine wpUpto_done (by decide +kernel) ?_ _
            go_simp
            go_wp2
            refine bodyPost_ret (results_pair rfl _ _ W.heap.size 25 (ubs hp).toArray (0, 0) _ rfl (setRow_heap _ _ (ubs n32).toArray _ _ _ HVA.out) Tryd.underlying25 rfl (sizeH_of HBL.out)) rfl ?_
            exact ⟨by rw [← HHP.out]; rfl, below_setRow HVB.out (Nat.le_refl _) _⟩
        · have hne : x ≠ p := by rw [hx]; exact HNO.out j (by omega)
          have k0 : decide ((x : Int) = (p : Int)) = false := by simp; omega
          have k0n : decide (x = p) = false := by simpa using hne
          have k0b : ((x : Int) == (p : Int)) = false := by simp; omega
          have k0c : (x == p) = false := by simpa using hne
          obtain ⟨j1, hj1⟩ : ∃ m, m = j + 1 := ⟨_, rfl⟩
          have e2 : (j : Int) + 1 = (j1 : Int) := by omega
          have ew : IntKind.i64.wrap (j1 : Int) = (j1 : Int) := by rw [IntKind.wrap_i64] <;> have := HL.out <;> omega
          have HM := hid (show j1 ≤ i ∧ m - j1 < m - j by omega)
          clear hx hq hj hj1 hji hlt hjl hne
          go_wp2
          exact ⟨⟨j1, HM.out.1, rfl, trivial⟩, by
            show m - ((j1 : Int)).toNat < m - ((j : Int)).toNat
            rw [Int.toNat_natCast, Int.toNat_natCast]
            exact HM.out.2⟩
end Go.Proofs.YtdegmcfcbndelaaDoor

namespace Go.Proofs.YtdegmcfcbndelaaDoor
open Go.RowKit

/-- A node's texts and its hash. -/
def climbS (l : List Nat) (lv : List UInt8) (S : List (Nat × Nat)) (bes : List UInt8) : Nat → Nat → List (List UInt8) × List UInt8
  | 0, p => if (0, p) ∈ S then ([], hpart bes (S.idxOf (0, p))) else ([], hpart lv (l.idxOf p))
  | k + 1, p => if (k + 1, p) ∈ S then ([], hpart bes (S.idxOf (k + 1, p))) else
      ((climbS l lv S bes k (2 * p % 18446744073709551616)).1 ++ (climbS l lv S bes k ((2 * p + 1) % 18446744073709551616)).1 ++ [joinT (k + 1) (climbS l lv S bes k (2 * p % 18446744073709551616)).2 (climbS l lv S bes k ((2 * p + 1) % 18446744073709551616)).2],
        hashL (joinT (k + 1) (climbS l lv S bes k (2 * p % 18446744073709551616)).2 (climbS l lv S bes k ((2 * p + 1) % 18446744073709551616)).2))
section
variable {l : List Nat} {lv bes : List UInt8} {S : List (Nat × Nat)}
theorem climbS_spot {k p : Nat} (h : (k, p) ∈ S) : climbS l lv S bes k p = ([], hpart bes (S.idxOf (k, p))) := by cases k <;> simp [climbS, h]
theorem climbS_leaf {p : Nat} (h : (0, p) ∉ S) : climbS l lv S bes 0 p = ([], hpart lv (l.idxOf p)) := by simp [climbS, h]
theorem climbS_step {k p : Nat} (h : (k + 1, p) ∉ S) : climbS l lv S bes (k + 1) p =
    ((climbS l lv S bes k (2 * p % 18446744073709551616)).1 ++ (climbS l lv S bes k ((2 * p + 1) % 18446744073709551616)).1 ++ [joinT (k + 1) (climbS l lv S bes k (2 * p % 18446744073709551616)).2 (climbS l lv S bes k ((2 * p + 1) % 18446744073709551616)).2],
      hashL (joinT (k + 1) (climbS l lv S bes k (2 * p % 18446744073709551616)).2 (climbS l lv S bes k ((2 * p + 1) % 18446744073709551616)).2)) := by simp [climbS, h]
theorem climbS_texts : ∀ k p, (climbS l lv S bes k p).1.length + 1 ≤ 2 ^ k
  | 0, p => by
    unfold climbS
    split <;> simp
  | k + 1, p => by
    by_cases h : (k + 1, p) ∈ S
    · rw [climbS_spot h]
      have := Nat.one_le_two_pow (n := k + 1)
      simpa using this
    · rw [climbS_step h, Nat.pow_succ]
      have := climbS_texts k (2 * p % 18446744073709551616)
      have := climbS_texts k ((2 * p + 1) % 18446744073709551616)
      simp only [List.length_append, List.length_cons, List.length_nil]
      omega
/-- A node that is reached and isn't one of the proof's has an index below. -/
theorem below_of_not {k p : Nat} (hin : ∀ q ∈ spotsS l k p, q ∈ S) (h : (k, p) ∉ S) : belowB l k p = true := by
  cases hb : belowB l k p with
  | true => rfl
  | false =>
    rw [spotsS_out hb] at hin
    exact absurd (hin (k, p) (by simp)) h
theorem leaf_of_not {p : Nat} (hin : ∀ q ∈ spotsS l 0 p, q ∈ S) (h : (0, p) ∉ S) : p ∈ l := by
  have := below_of_not hin h
  unfold belowB at this
  obtain ⟨x, hx, e⟩ := List.any_eq_true.1 this
  have e' : x = p := by simpa using e
  rwa [← e']
theorem spots_left {k p : Nat} (hin : ∀ q ∈ spotsS l (k + 1) p, q ∈ S) (h : (k + 1, p) ∉ S) : (∀ q ∈ spotsS l k (2 * p % 18446744073709551616), q ∈ S) ∧ ∀ q ∈ spotsS l k ((2 * p + 1) % 18446744073709551616), q ∈ S := by
  rw [spotsS_step (below_of_not hin h)] at hin
  exact ⟨fun q hq => hin q (List.mem_append_left _ hq), fun q hq => hin q (List.mem_append_right _ hq)⟩
theorem climbS_root (hlv : lv.length = 32 * l.length) (hbes : bes.length = 32 * S.length) : ∀ k p, (∀ q ∈ spotsS l k p, q ∈ S) → (climbS l lv S bes k p).2.length = 32
  | 0, p, hin => by
    by_cases h : (0, p) ∈ S
    · rw [climbS_spot h]
      exact hpart_length hbes (List.idxOf_lt_length_of_mem h)
    · rw [climbS_leaf h]
      exact hpart_length hlv (List.idxOf_lt_length_of_mem (leaf_of_not hin h))
  | k + 1, p, hin => by
    by_cases h : (k + 1, p) ∈ S
    · rw [climbS_spot h]
      exact hpart_length hbes (List.idxOf_lt_length_of_mem h)
    · rw [climbS_step h]
      exact hashL_length _
end
section
variable {W W' : World} {base g : Nat} {v : Value} {ps : List Part} {A : Option Addr} {bs : List UInt8} {rr : Option Nat}
theorem Rb.grown (h : Rb W W.heap.size A bs) (hg : W.grownBy W' rr) (hne : ∀ b o, A = some ⟨b, o, none⟩ → rr ≠ some b) : Rb W' W'.heap.size A bs := by
  have hfr : Fr (fun k => rr = some k) W W' := (Fr.refl _ W).grown hg (fun k hk => .inr hk)
  exact (Rd.fr h hfr (fun b o e hS => hne b o e hS)).mono hfr.size
theorem Apt.row (h : Apt W base v ps) (hg : g < base) (cs : Array Value) : Apt (W.setRow g cs) base v ps := by
  have hsz : (W.setRow g cs).heap.size = W.heap.size := by simp [World.setRow]
  have hfr : Fr (fun k => k = g) W (W.setRow g cs) := ⟨rfl, rfl, rfl, by rw [hsz]; exact Nat.le_refl _, fun k _ hk => setRow_other W g k cs hk⟩
  refine ⟨⟨h.1.1, ?_⟩, fun p hp => ⟨?_, fun k hk => by rw [hsz]; exact (h.2 p hp).2 k hk⟩⟩
  · rcases h.1.2 with h2 | ⟨g', cap, cur, rfl, hb1, hh, r⟩
    · exact .inl h2
    · exact .inr ⟨g', cap, cur, rfl, hb1, (setRow_other W g g' cs (by omega)).trans hh, r⟩
  · rw [hsz]
    refine Rd.fr (h.2 p hp).1 hfr (fun b o e hS => ?_)
    have := ((h.2 p hp).2 b (by unfold Part.v; rw [e]; rfl)).1
    omega
end
end Go.Proofs.YtdegmcfcbndelaaDoor

namespace Go.Proofs.YtdegmcfcbndelaaDoor

/-- What a walk reaches: 0 a node beside, 1 a leaf, 2 a node that is joined; its level and its place. -/
abbrev Evt := Nat × Nat × Nat
def walkE : Nat → Nat → List Nat → List Evt
  | 0, p, l => if l = [] then [(0, 0, p)] else [(1, 0, p)]
  | k + 1, p, l => if l = [] then [(0, k + 1, p)] else walkE k (2 * p) (l.filter fun x => decide (x < (2 * p + 1) * 2 ^ k)) ++ (walkE k (2 * p + 1) (l.filter fun x => !decide (x < (2 * p + 1) * 2 ^ k)) ++ [(2, k + 1, p)])
theorem walkE_nil (k p : Nat) : walkE k p [] = [(0, k, p)] := by cases k <;> simp [walkE]
theorem walkE_leaf {p : Nat} {l : List Nat} (h : l ≠ []) : walkE 0 p l = [(1, 0, p)] := by simp [walkE, h]
theorem walkE_step {k p : Nat} {l : List Nat} (h : l ≠ []) : walkE (k + 1) p l = walkE k (2 * p) (l.filter fun x => decide (x < (2 * p + 1) * 2 ^ k)) ++ (walkE k (2 * p + 1) (l.filter fun x => !decide (x < (2 * p + 1) * 2 ^ k)) ++ [(2, k + 1, p)]) := by simp [walkE, h]
attribute [irreducible] walkE
/-- The indices below a node. -/
def subI (l : List Nat) (k p : Nat) : List Nat := l.filter fun x => x >>> k == p
theorem subI_nil {l : List Nat} {k p : Nat} : subI l k p = [] ↔ belowB l k p = false := by
  unfold subI belowB
  rw [List.filter_eq_nil_iff, List.any_eq_false]
theorem shr_step (x k p : Nat) : (x >>> (k + 1) = p ∧ x < (2 * p + 1) * 2 ^ k ↔ x >>> k = 2 * p) ∧ (x >>> (k + 1) = p ∧ ¬ x < (2 * p + 1) * 2 ^ k ↔ x >>> k = 2 * p + 1) := by
  have h1 : x >>> (k + 1) = (x >>> k) / 2 := by rw [Nat.shiftRight_succ]
  have h2 : x < (2 * p + 1) * 2 ^ k ↔ x >>> k < 2 * p + 1 := by
    rw [Nat.shiftRight_eq_div_pow, Nat.div_lt_iff_lt_mul (Nat.two_pow_pos k)]
  rw [h1, h2]
  generalize x >>> k = y
  omega
theorem subI_left (l : List Nat) (k p : Nat) : (subI l (k + 1) p).filter (fun x => decide (x < (2 * p + 1) * 2 ^ k)) = subI l k (2 * p) := by
  unfold subI
  rw [List.filter_filter]
  refine List.filter_congr fun x _ => ?_
  have h := (shr_step x k p).1
  rw [Bool.eq_iff_iff]
  simp only [Bool.and_eq_true, decide_eq_true_eq, beq_iff_eq]
  rw [← h]
  exact And.comm
theorem subI_right (l : List Nat) (k p : Nat) : (subI l (k + 1) p).filter (fun x => !decide (x < (2 * p + 1) * 2 ^ k)) = subI l k (2 * p + 1) := by
  unfold subI
  rw [List.filter_filter]
  refine List.filter_congr fun x _ => ?_
  have h := (shr_step x k p).2
  rw [Bool.eq_iff_iff]
  simp only [Bool.and_eq_true, Bool.not_eq_true', decide_eq_false_iff_not, beq_iff_eq]
  rw [← h]
  exact And.comm
theorem pairwise_lt_ext {a b : List Nat} (ha : a.Pairwise (· < ·)) (hb : b.Pairwise (· < ·)) (h : ∀ x, x ∈ a ↔ x ∈ b) : a = b := by
  induction a generalizing b with
  | nil =>
    cases b with
    | nil => rfl
    | cons y b => exact absurd ((h y).2 (by simp)) (by simp)
  | cons x a ih =>
    cases b with
    | nil => exact absurd ((h x).1 (by simp)) (by simp)
    | cons y b =>
      obtain ⟨h1, h2⟩ := List.pairwise_cons.1 ha
      obtain ⟨h3, h4⟩ := List.pairwise_cons.1 hb
      have e : x = y := by
        rcases List.mem_cons.1 ((h x).1 (by simp)) with e | e
        · exact e
        · rcases List.mem_cons.1 ((h y).2 (by simp)) with f | f
          · exact f.symm
          · have := h1 y f
            have := h3 x e
            omega
      subst e
      rw [ih h2 h4 fun z => ?_]
      constructor
      · intro hz
        rcases List.mem_cons.1 ((h z).1 (by simp [hz])) with e | e
        · subst e; have := h1 z hz; omega
        · exact e
      · intro hz
        rcases List.mem_cons.1 ((h z).2 (by simp [hz])) with e | e
        · subst e; have := h3 z hz; omega
        · exact e
theorem subI_split {l : List Nat} (hs : l.Pairwise (· < ·)) (k p : Nat) : subI l (k + 1) p = subI l k (2 * p) ++ subI l k (2 * p + 1) := by
  refine pairwise_lt_ext (hs.filter _) (List.pairwise_append.2 ⟨hs.filter _, hs.filter _, fun a ha b hb => ?_⟩) fun x => ?_
  · have h1 : a >>> k = 2 * p := by simpa using (List.mem_filter.1 ha).2
    have h2 : b >>> k = 2 * p + 1 := by simpa using (List.mem_filter.1 hb).2
    have h3 := ((shr_step a k p).1.2 h1).2
    have h4 := ((shr_step b k p).2.2 h2).2
    omega
  · unfold subI
    rw [List.mem_append, List.mem_filter, List.mem_filter, List.mem_filter, ← and_or_left]
    refine and_congr_right fun _ => ?_
    have h1 : x >>> (k + 1) = (x >>> k) / 2 := by rw [Nat.shiftRight_succ]
    simp only [beq_iff_eq, h1]
    omega
theorem subI_leaf {l : List Nat} (hs : l.Pairwise (· < ·)) {p : Nat} (h : subI l 0 p ≠ []) : subI l 0 p = [p] := by
  refine pairwise_lt_ext (hs.filter _) (by simp) fun x => ?_
  obtain ⟨y, hy⟩ := List.exists_mem_of_ne_nil _ h
  have h1 := List.mem_filter.1 hy
  have h2 : y = p := by simpa using h1.2
  constructor
  · intro hx
    have := (List.mem_filter.1 hx).2
    simpa using this
  · intro hx
    have e : x = p := by simpa using hx
    rw [e, ← h2]
    rw [← h2] at hy
    exact hy
theorem subI_all {l : List Nat} {h : Nat} (hl : ∀ x ∈ l, x < 2 ^ h) : subI l h 0 = l := by
  unfold subI
  refine List.filter_eq_self.2 fun x hx => ?_
  have := hl x hx
  rw [Nat.shiftRight_eq_div_pow, Nat.div_eq_of_lt this]
  rfl
/-- The nodes beside, and the leaves, among what is reached. -/
def asides (E : List Evt) : List (Nat × Nat) := (E.filter fun e => e.1 == 0).map (·.2)
def leafs (E : List Evt) : List Nat := (E.filter fun e => e.1 == 1).map (·.2.2)
theorem asides_append (E F : List Evt) : asides (E ++ F) = asides E ++ asides F := by simp [asides]
theorem leafs_append (E F : List Evt) : leafs (E ++ F) = leafs E ++ leafs F := by simp [leafs]
theorem mod64 {n : Nat} (h : n < 18446744073709551616) : n % 18446744073709551616 = n := Nat.mod_eq_of_lt h
theorem walk_asides (l : List Nat) : ∀ k p, (p + 1) * 2 ^ k ≤ 4294967296 → asides (walkE k p (subI l k p)) = spotsS l k p
  | 0, p, _ => by
    by_cases h : subI l 0 p = []
    · rw [h, walkE_nil, spotsS_out (subI_nil.1 h)]; rfl
    · rw [walkE_leaf h, spotsS_leaf (by simpa [subI_nil] using h)]; rfl
  | k + 1, p, hp => by
    by_cases h : subI l (k + 1) p = []
    · rw [h, walkE_nil, spotsS_out (subI_nil.1 h)]; rfl
    · have h1 : (2 * p + 1 + 1) * 2 ^ k ≤ 4294967296 := by rw [Nat.pow_succ] at hp; rw [show (2 * p + 1 + 1) * 2 ^ k = (p + 1) * (2 ^ k * 2) by rw [show 2 * p + 1 + 1 = 2 * (p + 1) by omega, Nat.mul_comm 2 (p + 1), Nat.mul_assoc, Nat.mul_comm 2]]; exact hp
      have h2 : (2 * p + 1) * 2 ^ k ≤ 4294967296 := Nat.le_trans (Nat.mul_le_mul_right _ (by omega)) h1
      have h3 : 2 * p + 1 + 1 ≤ 4294967296 := Nat.le_trans (Nat.le_mul_of_pos_right _ (Nat.two_pow_pos k)) h1
      rw [walkE_step h, subI_left, subI_right, asides_append, asides_append, walk_asides l k _ h2, walk_asides l k _ h1, spotsS_step (by simpa [subI_nil] using h), mod64 (by omega), mod64 (by omega)]
      simp [asides]
theorem walk_leafs {l : List Nat} (hs : l.Pairwise (· < ·)) : ∀ k p, leafs (walkE k p (subI l k p)) = subI l k p
  | 0, p => by
    by_cases h : subI l 0 p = []
    · rw [h, walkE_nil]; rfl
    · rw [walkE_leaf h, subI_leaf hs h]; rfl
  | k + 1, p => by
    by_cases h : subI l (k + 1) p = []
    · rw [h, walkE_nil]; rfl
    · rw [walkE_step h, subI_left, subI_right, leafs_append, leafs_append, walk_leafs hs, walk_leafs hs, subI_split hs]
      simp [leafs]
/-- How many hashes what is reached leaves on the stack. -/
def netE : List Evt → Int
  | [] => 0
  | e :: E => (if e.1 = 0 ∨ e.1 = 1 then 1 else -1) + netE E
theorem netE_append (E F : List Evt) : netE (E ++ F) = netE E + netE F := by
  induction E with
  | nil => simp [netE]
  | cons e E ih => simp only [List.cons_append, netE, ih]; omega
theorem walk_net : ∀ k p l, netE (walkE k p l) = 1
  | 0, p, l => by
    by_cases h : l = []
    · rw [h, walkE_nil]; rfl
    · rw [walkE_leaf h]; rfl
  | k + 1, p, l => by
    by_cases h : l = []
    · rw [h, walkE_nil]; rfl
    · rw [walkE_step h, netE_append, netE_append, walk_net, walk_net]; rfl
/-- What is reached is of three kinds; where a node is joined there are two hashes. -/
theorem split_append {α : Type} {A B pre post : List α} {e : α} (h : A ++ B = pre ++ e :: post) : (∃ q, A = pre ++ e :: q) ∨ ∃ q, pre = A ++ q ∧ B = q ++ e :: post := by
  rcases List.append_eq_append_iff.1 h with ⟨q, h1, h2⟩ | ⟨q, h1, h2⟩
  · exact .inr ⟨q, h1, h2⟩
  · cases q with
    | nil => exact .inr ⟨[], by simpa using h1.symm, by simpa using h2.symm⟩
    | cons c q =>
      injection h2 with h3 h4
      subst h3
      exact .inl ⟨q, h1⟩
theorem walk_join : ∀ k p l (pre : List Evt) (e : Evt) (post : List Evt), walkE k p l = pre ++ e :: post → e.1 = 0 ∨ e.1 = 1 ∨ (e.1 = 2 ∧ 2 ≤ netE pre)
  | 0, p, l, pre, e, post, h => by
    by_cases hl : l = []
    · rw [hl, walkE_nil] at h
      cases pre with
      | nil => injection h with h1 h2; subst h1; exact .inl rfl
      | cons a pre => injection h with h1 h2; cases pre <;> cases h2
    · rw [walkE_leaf hl] at h
      cases pre with
      | nil => injection h with h1 h2; subst h1; exact .inr (.inl rfl)
      | cons a pre => injection h with h1 h2; cases pre <;> cases h2
  | k + 1, p, l, pre, e, post, h => by
    by_cases hl : l = []
    · rw [hl, walkE_nil] at h
      cases pre with
      | nil => injection h with h1 h2; subst h1; exact .inl rfl
      | cons a pre => injection h with h1 h2; cases pre <;> cases h2
    · rw [walkE_step hl] at h
      rcases split_append h with ⟨q, h1⟩ | ⟨q, rfl, h1⟩
      · exact walk_join k _ _ pre e q h1
      · rcases split_append h1 with ⟨q2, h2⟩ | ⟨q2, rfl, h2⟩
        · rcases walk_join k _ _ q e q2 h2 with h3 | h3 | ⟨h3, h4⟩
          · exact .inl h3
          · exact .inr (.inl h3)
          · exact .inr (.inr ⟨h3, by rw [netE_append, walk_net]; omega⟩)
        · cases q2 with
          | nil =>
            injection h2 with h3 h4
            subst h3
            exact .inr (.inr ⟨rfl, by rw [netE_append, netE_append, walk_net, walk_net]; decide⟩)
          | cons a q2 => injection h2 with h3 h4; cases q2 <;> cases h4
end Go.Proofs.YtdegmcfcbndelaaDoor

namespace Go.Proofs.YtdegmcfcbndelaaDoor

/-- A stack of hashes, the texts that were joined, how many nodes beside and leaves were taken. -/
structure Mst where
  st : List (List UInt8)
  tx : List (List UInt8)
  a : Nat
  b : Nat
def joinM (k : Nat) (st : List (List UInt8)) : List UInt8 := joinT k (st.getD (st.length - 2) []) (st.getD (st.length - 2 + 1) [])
def stepM (lv bes : List UInt8) (M : Mst) (e : Evt) : Mst :=
  if e.1 = 0 then ⟨M.st ++ [hpart bes M.a], M.tx, M.a + 1, M.b⟩
  else if e.1 = 1 then ⟨M.st ++ [hpart lv M.b], M.tx, M.a, M.b + 1⟩
  else ⟨M.st.take (M.st.length - 2) ++ [hashL (joinM e.2.1 M.st)], M.tx ++ [joinM e.2.1 M.st], M.a, M.b⟩
def runM (lv bes : List UInt8) (E : List Evt) : Mst := E.foldl (stepM lv bes) ⟨[], [], 0, 0⟩
theorem runM_nil (lv bes : List UInt8) : runM lv bes [] = ⟨[], [], 0, 0⟩ := rfl
theorem runM_snoc (lv bes : List UInt8) (E : List Evt) (e : Evt) : runM lv bes (E ++ [e]) = stepM lv bes (runM lv bes E) e := by
  unfold runM
  rw [List.foldl_append]
  rfl
theorem stepM_aside (lv bes : List UInt8) (M : Mst) (k p : Nat) : stepM lv bes M (0, k, p) = ⟨M.st ++ [hpart bes M.a], M.tx, M.a + 1, M.b⟩ := rfl
theorem stepM_leaf (lv bes : List UInt8) (M : Mst) (k p : Nat) : stepM lv bes M (1, k, p) = ⟨M.st ++ [hpart lv M.b], M.tx, M.a, M.b + 1⟩ := rfl
theorem stepM_join (lv bes : List UInt8) (M : Mst) (k p : Nat) : stepM lv bes M (2, k, p) = ⟨M.st.take (M.st.length - 2) ++ [hashL (joinM k M.st)], M.tx ++ [joinM k M.st], M.a, M.b⟩ := rfl
theorem joinM_two (k : Nat) (st : List (List UInt8)) (x y : List UInt8) : joinM k (st ++ [x] ++ [y]) = joinT k x y ∧ (st ++ [x] ++ [y]).take ((st ++ [x] ++ [y]).length - 2) = st := by
  have e : (st ++ [x] ++ [y]).length - 2 = st.length := by simp
  unfold joinM
  rw [e]
  constructor
  · congr 1
    · rw [List.getD_eq_getElem?_getD, List.append_assoc, List.getElem?_append_right (Nat.le_refl _), Nat.sub_self]; rfl
    · rw [List.getD_eq_getElem?_getD, List.append_assoc, List.getElem?_append_right (by omega), Nat.add_sub_cancel_left]; rfl
  · rw [List.append_assoc, List.take_left']
    rfl
theorem rev_ind {α : Type} {P : List α → Prop} (h0 : P []) (h1 : ∀ l a, P l → P (l ++ [a])) (l : List α) : P l := by
  have : ∀ r : List α, P r.reverse := by
    intro r
    induction r with
    | nil => exact h0
    | cons a r ih => rw [List.reverse_cons]; exact h1 _ _ ih
  have := this l.reverse
  rwa [List.reverse_reverse] at this
/-- What a stack holds. -/
theorem runM_ab (lv bes : List UInt8) : ∀ E : List Evt, (∀ e ∈ E, e.1 = 0 ∨ e.1 = 1 ∨ e.1 = 2) → (runM lv bes E).a = (asides E).length ∧ (runM lv bes E).b = (leafs E).length := by
  refine rev_ind (fun _ => ⟨rfl, rfl⟩) fun E e ih h => ?_
  obtain ⟨h1, h2⟩ := ih fun x hx => h x (by simp [hx])
  obtain ⟨w, k, p⟩ := e
  rw [runM_snoc, asides_append, leafs_append, List.length_append, List.length_append]
  rcases h (w, k, p) (by simp) with h3 | h3 | h3
  · obtain rfl : w = 0 := h3
    rw [stepM_aside]; exact ⟨by rw [h1]; rfl, by rw [h2]; rfl⟩
  · obtain rfl : w = 1 := h3
    rw [stepM_leaf]; exact ⟨by rw [h1]; rfl, by rw [h2]; rfl⟩
  · obtain rfl : w = 2 := h3
    rw [stepM_join]; exact ⟨by rw [h1]; rfl, by rw [h2]; rfl⟩
/-- A walk's beginning is such that two hashes lie there where two are joined. -/
def okE (E : List Evt) : Prop := ∀ (pre : List Evt) (e : Evt) (post : List Evt), E = pre ++ e :: post → e.1 = 0 ∨ e.1 = 1 ∨ (e.1 = 2 ∧ 2 ≤ netE pre)
theorem okE_walk (k p : Nat) (l : List Nat) : okE (walkE k p l) := fun pre e post h => walk_join k p l pre e post h
theorem okE.left {E F : List Evt} (h : okE (E ++ F)) : okE E := fun pre e post he => h pre e (post ++ F) (by rw [he]; simp)
theorem okE.kinds {E : List Evt} (h : okE E) : ∀ e ∈ E, e.1 = 0 ∨ e.1 = 1 ∨ e.1 = 2 := fun e he => by
  obtain ⟨pre, post, hp⟩ := List.append_of_mem he
  rcases h pre e post hp with h1 | h1 | ⟨h1, -⟩
  · exact .inl h1
  · exact .inr (.inl h1)
  · exact .inr (.inr h1)
theorem runM_net (lv bes : List UInt8) : ∀ E : List Evt, okE E → ((runM lv bes E).st.length : Int) = netE E := by
  refine rev_ind (fun _ => rfl) fun E e ih h => ?_
  have h1 := ih h.left
  have h2 := h E e [] (by simp)
  obtain ⟨w, k, p⟩ := e
  rw [runM_snoc, netE_append]
  rcases h2 with h3 | h3 | ⟨h3, h4⟩
  · obtain rfl : w = 0 := h3
    rw [stepM_aside, List.length_append]
    simp only [List.length_cons, List.length_nil, netE]
    simp
    omega
  · obtain rfl : w = 1 := h3
    rw [stepM_leaf, List.length_append]
    simp only [List.length_cons, List.length_nil, netE]
    simp
    omega
  · obtain rfl : w = 2 := h3
    rw [stepM_join, List.length_append, List.length_take]
    simp only [List.length_cons, List.length_nil, netE]
    simp
    omega
/-- The spots of a proof: none has an index below it; each is below the node; no two are one. -/
theorem spotsS_below (l : List Nat) : ∀ k p, ∀ q ∈ spotsS l k p, belowB l q.1 q.2 = false
  | 0, p, q, hq => by
    cases h : belowB l 0 p with
    | true => rw [spotsS_leaf h] at hq; cases hq
    | false => rw [spotsS_out h] at hq; (obtain rfl : q = (0, p) := by simpa using hq); exact h
  | k + 1, p, q, hq => by
    cases h : belowB l (k + 1) p with
    | true =>
      rw [spotsS_step h] at hq
      rcases List.mem_append.1 hq with hq | hq
      · exact spotsS_below l k _ q hq
      · exact spotsS_below l k _ q hq
    | false => rw [spotsS_out h] at hq; (obtain rfl : q = (k + 1, p) := by simpa using hq); exact h
theorem half_room {k p : Nat} (hp : (p + 1) * 2 ^ (k + 1) ≤ 4294967296) : (2 * p + 1) * 2 ^ k ≤ 4294967296 ∧ (2 * p + 1 + 1) * 2 ^ k ≤ 4294967296 ∧ 2 * p + 1 + 1 ≤ 4294967296 := by
  have h1 : (2 * p + 1 + 1) * 2 ^ k ≤ 4294967296 := by rw [Nat.pow_succ] at hp; rw [show (2 * p + 1 + 1) * 2 ^ k = (p + 1) * (2 ^ k * 2) by rw [show 2 * p + 1 + 1 = 2 * (p + 1) by omega, Nat.mul_comm 2 (p + 1), Nat.mul_assoc, Nat.mul_comm 2]]; exact hp
  exact ⟨Nat.le_trans (Nat.mul_le_mul_right _ (by omega)) h1, h1, Nat.le_trans (Nat.le_mul_of_pos_right _ (Nat.two_pow_pos k)) h1⟩
theorem spotsS_half {l : List Nat} {k p : Nat} (hp : (p + 1) * 2 ^ (k + 1) ≤ 4294967296) (h : belowB l (k + 1) p = true) : spotsS l (k + 1) p = spotsS l k (2 * p) ++ spotsS l k (2 * p + 1) := by
  have := (half_room hp).2.2
  rw [spotsS_step h, mod64 (by omega), mod64 (by omega)]
theorem spotsS_under (l : List Nat) : ∀ k p, (p + 1) * 2 ^ k ≤ 4294967296 → ∀ q ∈ spotsS l k p, q.1 ≤ k ∧ q.2 >>> (k - q.1) = p
  | 0, p, _, q, hq => by
    cases h : belowB l 0 p with
    | true => rw [spotsS_leaf h] at hq; cases hq
    | false => rw [spotsS_out h] at hq; (obtain rfl : q = (0, p) := by simpa using hq); exact ⟨Nat.le_refl _, rfl⟩
  | k + 1, p, hp, q, hq => by
    cases h : belowB l (k + 1) p with
    | false => rw [spotsS_out h] at hq; (obtain rfl : q = (k + 1, p) := by simpa using hq); exact ⟨Nat.le_refl _, by simp⟩
    | true =>
      rw [spotsS_half hp h] at hq
      have hr := half_room hp
      have step : ∀ p', q.1 ≤ k → q.2 >>> (k - q.1) = p' → q.2 >>> (k + 1 - q.1) = p' / 2 := fun p' h1 h2 => by
        rw [show k + 1 - q.1 = (k - q.1) + 1 by omega, Nat.shiftRight_succ, h2]
      rcases List.mem_append.1 hq with hq | hq
      · obtain ⟨h1, h2⟩ := spotsS_under l k _ hr.1 q hq
        exact ⟨by omega, by rw [step _ h1 h2]; omega⟩
      · obtain ⟨h1, h2⟩ := spotsS_under l k _ hr.2.1 q hq
        exact ⟨by omega, by rw [step _ h1 h2]; omega⟩
theorem spotsS_nodup (l : List Nat) : ∀ k p, (p + 1) * 2 ^ k ≤ 4294967296 → (spotsS l k p).Nodup
  | 0, p, _ => by
    cases h : belowB l 0 p with
    | true => rw [spotsS_leaf h]; exact List.nodup_nil
    | false => rw [spotsS_out h]; simp
  | k + 1, p, hp => by
    cases h : belowB l (k + 1) p with
    | false => rw [spotsS_out h]; simp
    | true =>
      have hr := half_room hp
      rw [spotsS_half hp h]
      refine List.nodup_append.2 ⟨spotsS_nodup l k _ hr.1, spotsS_nodup l k _ hr.2.1, fun a ha b hb e => ?_⟩
      subst e
      have h1 := (spotsS_under l k _ hr.1 a ha).2
      have h2 := (spotsS_under l k _ hr.2.1 a hb).2
      omega
theorem idxOf_mid {α : Type} [BEq α] [LawfulBEq α] {A R : List α} {x : α} (h : x ∉ A) : (A ++ x :: R).idxOf x = A.length := by
  induction A with
  | nil => rw [List.nil_append, List.idxOf_cons_self]; rfl
  | cons a A ih =>
    have h1 : a ≠ x := fun e => h (by simp [e])
    have h2 : (a == x) = false := by simpa using h1
    rw [List.cons_append, List.idxOf_cons, h2, ih (fun hx => h (by simp [hx]))]
    rfl
theorem not_before {α : Type} {A R : List α} {x : α} (h : (A ++ x :: R).Nodup) : x ∉ A := fun hx => (List.nodup_append.1 h).2.2 x hx x (by simp) rfl
/-- The stack comes to what climb comes to. -/
theorem run_climb {l : List Nat} (hs : l.Pairwise (· < ·)) {S : List (Nat × Nat)} (hS : S.Nodup) (hB : ∀ q ∈ S, belowB l q.1 q.2 = false) (lv bes : List UInt8) : ∀ (k p : Nat) (M : Mst) (A R : List (Nat × Nat)) (A' R' : List Nat), (p + 1) * 2 ^ k ≤ 4294967296 →
    S = A ++ (spotsS l k p ++ R) → M.a = A.length → l = A' ++ (subI l k p ++ R') → M.b = A'.length →
    (walkE k p (subI l k p)).foldl (stepM lv bes) M = ⟨M.st ++ [(climbS l lv S bes k p).2], M.tx ++ (climbS l lv S bes k p).1, M.a + (spotsS l k p).length, M.b + (subI l k p).length⟩
  | 0, p, M, A, R, A', R', _, hA, ha, hA', hb => by
    by_cases h : subI l 0 p = []
    · have hbl := subI_nil.1 h
      rw [h, walkE_nil, spotsS_out hbl]
      rw [spotsS_out hbl] at hA
      have hm : (0, p) ∈ S := by rw [hA]; simp
      have hi : S.idxOf (0, p) = A.length := by
        rw [hA]
        exact idxOf_mid (not_before (R := R) (by rw [hA] at hS; exact hS))
      rw [climbS_spot hm, hi, List.foldl_cons, List.foldl_nil, stepM_aside, ha]
      simp
    · have hbl : belowB l 0 p = true := by simpa [subI_nil] using h
      rw [walkE_leaf h, subI_leaf hs h, spotsS_leaf hbl]
      rw [subI_leaf hs h] at hA'
      have hm : (0, p) ∉ S := fun hm => by have := hB _ hm; rw [hbl] at this; cases this
      have hi : l.idxOf p = A'.length := by
        have hn : l.Nodup := hs.imp (fun h => Nat.ne_of_lt h)
        rw [hA'] at hn ⊢
        exact idxOf_mid (not_before (R := R') hn)
      rw [climbS_leaf hm, hi, List.foldl_cons, List.foldl_nil, stepM_leaf, hb]
      simp
  | k + 1, p, M, A, R, A', R', hp, hA, ha, hA', hb => by
    by_cases h : subI l (k + 1) p = []
    · have hbl := subI_nil.1 h
      rw [h, walkE_nil, spotsS_out hbl]
      rw [spotsS_out hbl] at hA
      have hm : (k + 1, p) ∈ S := by rw [hA]; simp
      have hi : S.idxOf (k + 1, p) = A.length := by
        rw [hA]
        exact idxOf_mid (not_before (R := R) (by rw [hA] at hS; exact hS))
      rw [climbS_spot hm, hi, List.foldl_cons, List.foldl_nil, stepM_aside, ha]
      simp
    · have hbl : belowB l (k + 1) p = true := by simpa [subI_nil] using h
      have hr := half_room hp
      have hm : (k + 1, p) ∉ S := fun hm => by have := hB _ hm; rw [hbl] at this; cases this
      rw [spotsS_half hp hbl] at hA
      rw [subI_split hs] at hA'
      rw [climbS_step hm, mod64 (by omega), mod64 (by omega), walkE_step h, subI_left, subI_right, List.foldl_append, List.foldl_append,
        run_climb hs hS hB lv bes k (2 * p) M A (spotsS l k (2 * p + 1) ++ R) A' (subI l k (2 * p + 1) ++ R') hr.1 (by rw [hA]; simp) ha (by rw [← List.append_assoc (subI l k (2 * p))]; exact hA') hb,
        run_climb hs hS hB lv bes k (2 * p + 1) _ (A ++ spotsS l k (2 * p)) R (A' ++ subI l k (2 * p)) R' hr.2.1 (by rw [hA]; simp) (by simp [ha]) (by rw [List.append_assoc, ← List.append_assoc (subI l k (2 * p))]; exact hA') (by simp [hb])]
      obtain ⟨h1, h2⟩ := joinM_two (k + 1) M.st (climbS l lv S bes k (2 * p)).2 (climbS l lv S bes k (2 * p + 1)).2
      rw [List.foldl_cons, List.foldl_nil, stepM_join]
      dsimp only
      rw [h1, h2, spotsS_half hp hbl, subI_split hs]
      simp only [List.length_append, List.append_assoc, Nat.add_assoc]
/-- The whole walk, from the root. -/
theorem run_root {l : List Nat} (hs : l.Pairwise (· < ·)) {h : Nat} (hh : h ≤ 32) (hl : ∀ x ∈ l, x < 2 ^ h) (lv bes : List UInt8) :
    runM lv bes (walkE h 0 l) = ⟨[(climbS l lv (spotsS l h 0) bes h 0).2], (climbS l lv (spotsS l h 0) bes h 0).1, (spotsS l h 0).length, l.length⟩ := by
  have hp : (0 + 1) * 2 ^ h ≤ 4294967296 := by
    have : (2 : Nat) ^ h ≤ 2 ^ 32 := Nat.pow_le_pow_right (by omega) hh
    omega
  have := run_climb hs (spotsS_nodup l h 0 hp) (spotsS_below l h 0) lv bes h 0 ⟨[], [], 0, 0⟩ [] [] [] [] hp (by simp) rfl (by rw [subI_all hl]; simp) rfl
  rw [subI_all hl] at this
  unfold runM
  rw [this]
  simp
end Go.Proofs.YtdegmcfcbndelaaDoor
