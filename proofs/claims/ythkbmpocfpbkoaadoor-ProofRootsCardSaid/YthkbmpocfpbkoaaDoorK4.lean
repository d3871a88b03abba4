/-
  Layer 10, the document's side: slices of texts of the call's own; the text that is joined lies in new memory.
  Layer 10, the document's side: spots as values; slices of spots that grow; Spots.
-/
import Derived.Test.YthkbmpocfpbkoaaDoorN1
import Derived.Test.YthkbmpocfpbkoaaDoorV0
import Derived.Maps.AppendAt
import Derived.Laws.OwnMore
import Derived.Great.BuildSlice
import Derived.Test.YthkbmpocfpbkoaaDoorK1
import Derived.Deep.AppendLies
namespace Go.Proofs.YthkbmpocfpbkoaaDoor
open Go.RowKit

set_option maxRecDepth 100000 in
set_option maxHeartbeats 1000000 in
theorem joinTextR_new (h : Nat) (l r : List UInt8) (w : World) (hl : l.length = 32) (hr : r.length = 32) :
    Calls Tryd.prog 100 #[.int .i64 (h : Int), .agg (ubs l).toArray, .agg (ubs r).toArray] w fun e w' => ∃ A c, e = .returned (.slice A 66 c) ∧ Rb w' w'.heap.size A (joinT h l r) ∧ (∀ k, (Value.slice A 66 c).ownBlock = some k → w.heap.size ≤ k ∧ k < w'.heap.size) ∧ Below w.heap.size w w' := by
  obtain ⟨i0, hi0, hz0, hz1, hz2⟩ := info_parts infoB
  obtain ⟨W0, hW0⟩ : ∃ W0, W0 = (w.alloc (.cells (ubs l).toArray 35)).alloc (.cells (ubs r).toArray 35) := ⟨_, rfl⟩
  have H0 := hid (show At W0 w.heap.size (ubs l).toArray 35 by rw [hW0]; exact (At.new _ _ _).alloc _)
  have H1 := hid (show At W0 (w.heap.size + 1) (ubs r).toArray 35 by rw [hW0]; exact At.new_at (by simp))
  have HB0 := hid (show Below w.heap.size w W0 by rw [hW0]; exact ((Below.refl w.heap.size w).alloc (Nat.le_refl _) _).alloc (by simp) _)
  have hs0 : W0.heap.size = w.heap.size + 1 + 1 := by rw [hW0]; simp
  have O1 := hid (own_lit2 W0 2 (UInt8.ofNat h))
  have HL := hid hl
  have HR := hid hr
  have HJ := hid (show joinT h l r = ([2, UInt8.ofNat h] ++ l) ++ r from rfl)
  have hw : IntKind.u8.wrap (h : Int) = ((UInt8.ofNat h).toNat : Int) := by
    rw [UInt8.toNat_ofNat']
    simp [IntKind.wrap, IntKind.signed, IntKind.bits]
  have hb1 : ((2 : UInt8).toNat : Int) = 2 := rfl
  rw [hb1, hs0] at O1
  generalize UInt8.ofNat h = b at O1 HJ hw
  generalize joinT h l r = lt at HJ ⊢
  clear hl hr hb1 hs0
  subst hW0
  go_enter Tryd.func100, Tryd.ntmps100
  go_wp2_with (first
    | (at_builtin; refine wpList_append_rd rfl (.tmp 10) (.tmp 11) _ rfl ((w.alloc (.cells (ubs l).toArray 35)).alloc (.cells (ubs r).toArray 35)).heap.size 5 i0 (.int .u8 0) 1 Tryd.underlying89 hi0 hz0 hz1 hz2 rfl (.slice (some ⟨w.heap.size + 1 + 1, 0, none⟩) 2 2) 2 (ubs [2, b]) rfl O1.out.own _ (some ⟨w.heap.size, 0, none⟩) 32 32 (ubs l) rfl (by rw [ubs_length, HL.out]) (rb_at (H0.out.new_ O1.out.below)) (ubs_one _) (by unfold maxLen; omega) (by omega) O1.out.below.size ?_; intro v3 w3 ho3 hg3 _; have O3 := hid (O1.out.more ho3 HL.out.symm hg3); have X3 := hid (H1.out.new_ O3.out.below); (have hf3 := own_form ho3); clear ho3 hg3; obtain ⟨A3, c3, rfl, -⟩ := hf3)
    | (at_builtin; refine wpList_append_rd rfl (.tmp 13) (.tmp 14) _ rfl ((w.alloc (.cells (ubs l).toArray 35)).alloc (.cells (ubs r).toArray 35)).heap.size 5 i0 (.int .u8 0) 1 Tryd.underlying89 hi0 hz0 hz1 hz2 rfl (.slice A3 (2 + 32) c3) (2 + 32) (ubs ([2, b] ++ l)) rfl O3.out.own _ (some ⟨w.heap.size + 1, 0, none⟩) 32 32 (ubs r) rfl (by rw [ubs_length, HR.out]) (rb_at X3.out) (ubs_one _) (by unfold maxLen; omega) (by omega) O3.out.below.size ?_; intro v5 w5 ho5 hg5 _; have O5 := hid (O3.out.more ho5 HR.out.symm hg5); (have hf5 := own_form ho5); clear ho5 hg5; obtain ⟨A5, c5, rfl, -⟩ := hf5))
  go_ret
  refine ⟨_, _, rfl, ?_, fun k hk => ?_, HB0.out.trans (O5.out.below.mono HB0.out.size)⟩
  · rw [HJ.out]
    exact Rd.of_own O5.out.own
  · have := World.ownsRow.lt O5.out.own k hk
    have := HB0.out.size
    omega
theorem infoTx : (Tryd.prog.info? 89).map (fun i => (i.zero, i.size, i.bytes)) = some (some (.slice none 0 0), 1, 24) := by kernel_rfl
theorem infoTx_parts : ∃ i, Tryd.prog.info? 89 = some i ∧ i.zero = some (.slice none 0 0) ∧ i.size = 1 ∧ i.bytes = 24 := by
  have := infoTx
  cases h : Tryd.prog.info? 89 with
  | none => rw [h] at this; cases this
  | some ie =>
    rw [h] at this
    simp only [Option.map_some, Option.some.injEq, Prod.mk.injEq] at this
    exact ⟨ie, rfl, this.1, this.2.1, this.2.2⟩
/-- A slice of texts of the call's own: the texts lie from a block on, and none in the row of the slice. -/
def Apt (W : World) (base : Nat) (v : Value) (ps : List Part) : Prop :=
  W.ownsRow base 89 1 v ps.length (ps.map Part.v) ∧ ∀ p ∈ ps, Rb W W.heap.size p.A p.bs ∧ ∀ k, p.v.ownBlock = some k → base ≤ k ∧ k < W.heap.size ∧ v.ownBlock ≠ some k
section
variable {W W' : World} {base base' : Nat} {v : Value} {ps qs : List Part}
theorem Apt.nil (W : World) (base : Nat) : Apt W base (.slice none 0 0) [] := ⟨World.ownsRow_nil _ _ _ _, fun _ h => nomatch h⟩
theorem Apt.form (h : Apt W base v ps) : ∃ A c, v = .slice A ps.length c := by
  rcases h.1.2 with ⟨h1, h2⟩ | ⟨g, cap, cur, e, -⟩
  · rw [h1, h2]
    exact ⟨_, _, rfl⟩
  · exact ⟨_, _, e⟩
theorem Apt.lt (h : Apt W base v ps) : ∀ k, v.ownBlock = some k → base ≤ k ∧ k < W.heap.size := World.ownsRow.lt h.1
theorem Apt.kept (h : Apt W base v ps) (hb : Below W.heap.size W W') : Apt W' base v ps := by
  refine ⟨⟨h.1.1, ?_⟩, fun p hp => ⟨((h.2 p hp).1.below hb).mono hb.size, fun k hk => ?_⟩⟩
  · rcases h.1.2 with h2 | ⟨g, cap, cur, rfl, hb1, hh, r⟩
    · exact .inl h2
    · exact .inr ⟨g, cap, cur, rfl, hb1, (hb.block g (lt_of_block hh)).trans hh, r⟩
  · have := (h.2 p hp).2 k hk
    exact ⟨this.1, Nat.lt_of_lt_of_le this.2.1 hb.size, this.2.2⟩
theorem Apt.mono (h : Apt W base v ps) (hb : base' ≤ base) : Apt W base' v ps := by
  refine ⟨⟨h.1.1, ?_⟩, fun p hp => ⟨(h.2 p hp).1, fun k hk => ?_⟩⟩
  · rcases h.1.2 with h2 | ⟨g, cap, cur, rfl, hb1, r⟩
    · exact .inl h2
    · exact .inr ⟨g, cap, cur, rfl, Nat.le_trans hb hb1, r⟩
  · have := (h.2 p hp).2 k hk
    exact ⟨Nat.le_trans hb this.1, this.2⟩
/-- What it reads as. -/
theorem Apt.rd {c : Nat} {A : Option Addr} (h : Apt W base (.slice A ps.length c) ps) : Rd W W.heap.size A (ps.map Part.v) := fun hne => by
  rcases h.1.2 with ⟨h1, h2⟩ | ⟨g, cap, cur, e, hb, hh, -⟩
  · refine absurd ?_ hne
    obtain rfl : ps = [] := List.eq_nil_of_length_eq_zero h2
    rfl
  · obtain rfl : A = some ⟨g, 0, none⟩ := by cases e; rfl
    refine ⟨g, 0, rfl, lt_of_block hh, fun j u hu => ?_⟩
    have := World.ownsRow.cells h.1 (g := g) rfl j u hu
    rwa [add_plain] at this
theorem partv_one (ps : List Part) : ∀ u ∈ ps.map Part.v, u.oneCell' = true := by
  intro u hu
  obtain ⟨p, -, rfl⟩ := List.mem_map.1 hu
  rfl
/-- Texts of the call's own appended to older ones of its own. -/
theorem run_append_pt (ty : TypeId) (hown : Apt W base v ps) {v2 : Value} {base2 : Nat} (h2 : Apt W base2 v2 qs) (hle : base ≤ base2) (hne : ∀ q ∈ qs, ∀ k, q.v.ownBlock = some k → v.ownBlock ≠ some k) (hl : ps.length + qs.length ≤ 8589934592) (hbase : base ≤ W.heap.size) :
    ∃ v' w', (Builtin.append_ #[82, 82] ty #[v, v2]).run Tryd.prog W = .ok v' w' ∧ Apt w' base v' (ps ++ qs) ∧ W.grownBy w' v.ownBlock ∧ (v'.ownBlock = v.ownBlock ∨ v'.ownBlock = some W.heap.size) := by
  obtain ⟨i, hi, hz, hsz, hby⟩ := infoTx_parts
  obtain ⟨v', w', hr, h3, h4, h5⟩ : ∃ v' w', (Builtin.append_ #[82, 82] ty #[v, v2]).run Tryd.prog W = .ok v' w' ∧ w'.ownsRow base 89 1 v' (ps.length + qs.length) (ps.map Part.v ++ qs.map Part.v) ∧ W.grownBy w' v.ownBlock ∧ (v'.ownBlock = v.ownBlock ∨ v'.ownBlock = some W.heap.size) := by
    rcases h2.1.2 with ⟨rfl, h0⟩ | ⟨g, cap, cur, rfl, hb1, hh, -⟩
    · obtain rfl : qs = [] := List.eq_nil_of_length_eq_zero h0
      exact ⟨v, W, run_append_owned_none (P := Tryd.prog) W base 82 ty 89 i 1 Tryd.underlying82 hi v ps.length _ hown.1, by rw [List.map_nil, List.append_nil]; exact hown.1, ⟨rfl, rfl, rfl, Nat.le_refl _, fun _ _ _ => rfl⟩, .inl rfl⟩
    · obtain ⟨v', w', hr, h2', h3, -, h5⟩ := run_append_own_at (P := Tryd.prog) W base 82 ty 89 i _ 1 24 Tryd.underlying82 hi hz hsz hby rfl (by omega) v ps.length (ps.map Part.v) hown.1 ⟨g, 0, none⟩ qs.length cap (qs.map Part.v) (by rw [List.length_map, Nat.mul_one])
        (fun j u hu => World.ownsRow.cells h2.1 (g := g) rfl j u hu) (partv_one qs) (by unfold maxLen; omega) (by omega) hbase
      exact ⟨v', w', hr, h2', h3, h5⟩
  have hfr : Fr (fun k => v.ownBlock = some k) W w' := (Fr.refl _ W).grown h4 (fun k hk => .inr hk)
  have hsize : W.heap.size ≤ w'.heap.size := hfr.size
  refine ⟨v', w', hr, ⟨?_, fun p hp => ?_⟩, h4, h5⟩
  · rw [List.length_append, List.map_append]
    exact h3
  · have key : Rb W W.heap.size p.A p.bs ∧ ∀ k, p.v.ownBlock = some k → base ≤ k ∧ k < W.heap.size ∧ v.ownBlock ≠ some k := by
      rcases List.mem_append.1 hp with hp | hp
      · exact hown.2 p hp
      · refine ⟨(h2.2 p hp).1, fun k hk => ?_⟩
        have h6 := (h2.2 p hp).2 k hk
        exact ⟨Nat.le_trans hle h6.1, h6.2.1, hne p hp k hk⟩
    refine ⟨(Rd.fr key.1 hfr (fun b o e hS => (key.2 b (by unfold Part.v; rw [e]; rfl)).2.2 hS)).mono hsize, fun k hk => ?_⟩
    have h6 := key.2 k hk
    refine ⟨h6.1, Nat.lt_of_lt_of_le h6.2.1 hsize, fun e => ?_⟩
    rcases h5 with h5 | h5
    · exact h6.2.2 (by rw [← h5]; exact e)
    · rw [h5] at e
      have : W.heap.size = k := by simpa using e
      omega
/-- A slice of one text. -/
theorem Apt.lit {B : Nat} {p : Part} (h : Rb W W.heap.size p.A p.bs) (hk : ∀ k, p.v.ownBlock = some k → B ≤ k ∧ k < W.heap.size) (hB : B ≤ W.heap.size) : Apt (W.alloc (.cells #[p.v] 89)) B (.slice (some ⟨W.heap.size, 0, none⟩) 1 1) [p] := by
  refine ⟨World.ownsRow_lit (e := 89) (size := 1) W #[p.v] 1 hB (by unfold maxLen; decide) rfl, fun q hq => ?_⟩
  obtain rfl : q = p := by simpa using hq
  have hb : Below W.heap.size W (W.alloc (.cells #[q.v] 89)) := (Below.refl _ _).alloc (Nat.le_refl _) _
  refine ⟨(h.below hb).mono hb.size, fun k hk' => ?_⟩
  have h1 := hk k hk'
  refine ⟨h1.1, Nat.lt_of_lt_of_le h1.2 hb.size, fun e => ?_⟩
  have : W.heap.size = k := by simpa [Value.ownBlock] using e
  omega
theorem run_buildTx {o : Oper} {a : Go.Act} (x : Operand) (ho : o.op = .buildSlice 82 1 #[(0, x)]) (p : Part) (hx : a.eval x = p.v) :
    (execOp a.eval o).run Tryd.prog W = .ok (.value (.slice (some ⟨W.heap.size, 0, none⟩) 1 1)) (W.alloc (.cells #[p.v] 89)) := by
  obtain ⟨ie, hie, hz, hs, -⟩ := infoTx_parts
  unfold execOp
  simp only [ho, Sem.run_bind]
  rw [run_buildSlice W _ _ 1 _ #[p.v] ie _ Tryd.underlying82 hie hz (by rw [hs]; decide) (by rw [hs]; decide) (by rw [hs]; simp [hx]; kernel_rfl)]
  rfl
/-- The operation. -/
theorem wpList_append_pt {ops : Array Oper} {rest : List Oper} {o : Oper} {a : Go.Act} {Q : Exit → Go.Act → World → Prop} (hw : Region.wanted o (yielded ops a.tmps) = true) (s x : Operand)
    (ho : o.op = .call { callee := .builtin .append, args := #[s, x], argTypes := #[82, 82] }) (v v2 : Value) (hs : a.eval s = v) (hx : a.eval x = v2) (hown : Apt W base v ps) {base2 : Nat} (h2 : Apt W base2 v2 qs) (hle : base ≤ base2) (hne : ∀ q ∈ qs, ∀ k, q.v.ownBlock = some k → v.ownBlock ≠ some k) (hl : ps.length + qs.length ≤ 8589934592) (hbase : base ≤ W.heap.size)
    (h : ∀ A c w', Apt w' base (.slice A (ps ++ qs).length c) (ps ++ qs) → W.grownBy w' v.ownBlock → ((Value.slice A (ps ++ qs).length c).ownBlock = v.ownBlock ∨ (Value.slice A (ps ++ qs).length c).ownBlock = some W.heap.size) → wpList Tryd.prog ops Q rest (a.put o.dst (.slice A (ps ++ qs).length c)) w') :
    wpList Tryd.prog ops Q (o :: rest) a W :=
  BigFrame.wpList_want hw fun K hK => by
    obtain ⟨v', w', hr, h6, h3, h5⟩ := run_append_pt o.type hown h2 hle hne hl hbase
    obtain ⟨A, c, rfl⟩ := h6.form
    unfold Oper.wp execOp
    simp only [ho, resolve, invoke, builtin, Sem.run_bind, Sem.run_pure, Result.andThen_ok, List.map_toArray, List.map_cons, List.map_nil, hs, hx, hr]
    exact hK _ _ (h A c w' h6 h3 h5)
end
end Go.Proofs.YthkbmpocfpbkoaaDoor

namespace Go.Proofs.YthkbmpocfpbkoaaDoor
open Go.RowKit

/-- A spot's cells; spots one behind the other. -/
def sptV (p : Nat × Nat) : List Value := [.int .i64 (p.1 : Int), .int .u64 (p.2 : Int)]
def sptR (L : List (Nat × Nat)) : List Value := L.flatMap sptV
theorem sptR_append (L M : List (Nat × Nat)) : sptR (L ++ M) = sptR L ++ sptR M := by simp [sptR]
theorem sptR_one (p : Nat × Nat) : sptR [p] = sptV p := by simp [sptR]
theorem sptR_length (L : List (Nat × Nat)) : (sptR L).length = L.length * 2 := by
  induction L with
  | nil => rfl
  | cons p L ih =>
    rw [show sptR (p :: L) = sptV p ++ sptR L from rfl, List.length_append, ih, List.length_cons, show (sptV p).length = 2 from rfl]
    omega
theorem sptR_cells (L : List (Nat × Nat)) : ∀ u ∈ sptR L, u.oneCell' = true := by
  intro u hu
  obtain ⟨p, -, h⟩ := List.mem_flatMap.1 hu
  rcases List.mem_cons.1 h with rfl | h
  · rfl
  · obtain rfl : u = _ := by simpa using h
    rfl
theorem sptR_at {L : List (Nat × Nat)} {k : Nat} (hk : k < L.length) : (sptR L)[2 * k]? = some (.int .i64 ((L[k].1 : Nat) : Int)) ∧ (sptR L)[2 * k + 1]? = some (.int .u64 ((L[k].2 : Nat) : Int)) := by
  have e : sptR L = sptR (L.take k) ++ (sptV L[k] ++ sptR (L.drop (k + 1))) := by
    rw [show sptV L[k] ++ sptR (L.drop (k + 1)) = sptR (L[k] :: L.drop (k + 1)) from rfl, ← sptR_append, List.getElem_cons_drop, List.take_append_drop]
  have hl : (sptR (L.take k)).length = 2 * k := by
    rw [sptR_length, List.length_take]
    omega
  rw [e]
  constructor
  · rw [List.getElem?_append_right (by omega), hl, Nat.sub_self]
    rfl
  · rw [List.getElem?_append_right (by omega), hl, show 2 * k + 1 - 2 * k = 1 by omega]
    rfl
theorem infoSp : (Tryd.prog.info? 129).map (fun i => (i.zero, i.size, i.bytes)) = some (some (.agg (sptV (0, 0)).toArray), 2, 16) := by kernel_rfl
theorem infoSp_parts : ∃ i, Tryd.prog.info? 129 = some i ∧ i.zero = some (.agg (sptV (0, 0)).toArray) ∧ i.size = 2 ∧ i.bytes = 16 := by
  have := infoSp
  cases h : Tryd.prog.info? 129 with
  | none => rw [h] at this; cases this
  | some ie =>
    rw [h] at this
    simp only [Option.map_some, Option.some.injEq, Prod.mk.injEq] at this
    exact ⟨ie, rfl, this.1, this.2.1, this.2.2⟩
/-- The only part of a literal of one spot. -/
theorem fillSp (p : Nat × Nat) : Instr.fill (fun i => some (i * 2, 2)) ((Array.range (1 * 2)).map ((Value.agg (sptV (0, 0)).toArray).cells[· % (Value.agg (sptV (0, 0)).toArray).cells.size]!)) [(0, .agg (sptV p).toArray)] = some (sptV p).toArray := by
  have h0 : (Array.range (1 * 2)).map ((Value.agg (sptV (0, 0)).toArray).cells[· % (Value.agg (sptV (0, 0)).toArray).cells.size]!) = (sptV (0, 0)).toArray := by kernel_rfl
  rw [h0, fill_step _ 0 0 2 (sptV (0, 0)) (sptV p) _ _ rfl (by simp) rfl (by decide)]
  have := spv_at [] (sptV (0, 0)) [] (sptV p) rfl
  rw [List.append_nil, List.append_nil, List.nil_append, List.nil_append] at this
  rw [show spv (sptV (0, 0)) 0 (sptV p) = sptV p from this]
  rfl
theorem run_buildSp {o : Oper} {a : Go.Act} {W : World} (x : Operand) (ho : o.op = .buildSlice 126 1 #[(0, x)]) (p : Nat × Nat) (hx : a.eval x = .agg (sptV p).toArray) :
    (execOp a.eval o).run Tryd.prog W = .ok (.value (.slice (some ⟨W.heap.size, 0, none⟩) 1 1)) (W.alloc (.cells (sptV p).toArray 129)) := by
  obtain ⟨ie, hie, hz, hs, -⟩ := infoSp_parts
  unfold execOp
  simp only [ho, Sem.run_bind]
  rw [run_buildSlice W _ _ 1 _ (sptV p).toArray ie _ Tryd.underlying126 hie hz (by rw [hs]; decide) (by rw [hs]; decide) (by rw [hs]; simpa [hx] using fillSp p)]
  rfl
/-- A slice of spots of the call's own. -/
def Asp (W : World) (base : Nat) (v : Value) (L : List (Nat × Nat)) : Prop := W.ownsRow base 129 2 v L.length (sptR L)
theorem Asp.nil (W : World) (base : Nat) : Asp W base (.slice none 0 0) [] := World.ownsRow_nil _ _ _ _
theorem Asp.one (W : World) {base : Nat} (p : Nat × Nat) (hb : base ≤ W.heap.size) : Asp (W.alloc (.cells (sptV p).toArray 129)) base (.slice (some ⟨W.heap.size, 0, none⟩) 1 1) [p] := by
  have := World.ownsRow_lit (e := 129) (size := 2) W (sptV p).toArray 1 hb (by unfold maxLen; decide) rfl
  unfold Asp
  rw [sptR_one]
  exact this
theorem Asp.form {W : World} {base : Nat} {v : Value} {L : List (Nat × Nat)} (h : Asp W base v L) : ∃ A c, v = .slice A L.length c := by
  rcases h.2 with ⟨h1, h2⟩ | ⟨g, cap, cur, e, -⟩
  · rw [h1, h2]
    exact ⟨_, _, rfl⟩
  · exact ⟨_, _, e⟩
theorem Asp.kept {W W' : World} {base : Nat} {v : Value} {L : List (Nat × Nat)} (h : Asp W base v L) (hb : Below W.heap.size W W') : Asp W' base v L := by
  refine ⟨h.1, ?_⟩
  rcases h.2 with h2 | ⟨g, cap, cur, rfl, hb1, hh, r⟩
  · exact .inl h2
  · exact .inr ⟨g, cap, cur, rfl, hb1, (hb.block g (lt_of_block hh)).trans hh, r⟩
theorem Asp.lt {W : World} {base : Nat} {v : Value} {L : List (Nat × Nat)} (h : Asp W base v L) : ∀ k, v.ownBlock = some k → base ≤ k ∧ k < W.heap.size := World.ownsRow.lt h
theorem Asp.mono {W : World} {base base' : Nat} {v : Value} {L : List (Nat × Nat)} (h : Asp W base v L) (hb : base' ≤ base) : Asp W base' v L := by
  refine ⟨h.1, ?_⟩
  rcases h.2 with h2 | ⟨g, cap, cur, rfl, hb1, r⟩
  · exact .inl h2
  · exact .inr ⟨g, cap, cur, rfl, Nat.le_trans hb hb1, r⟩
/-- What it reads as. -/
theorem Asp.rd {W : World} {base c : Nat} {A : Option Addr} {L : List (Nat × Nat)} (h : Asp W base (.slice A L.length c) L) : Rd W W.heap.size A (sptR L) := fun hne => by
  rcases h.2 with ⟨h1, h2⟩ | ⟨g, cap, cur, e, hb, hh, -⟩
  · refine absurd ?_ hne
    obtain rfl : L = [] := List.eq_nil_of_length_eq_zero h2
    rfl
  · obtain rfl : A = some ⟨g, 0, none⟩ := by cases e; rfl
    refine ⟨g, 0, rfl, lt_of_block hh, fun j u hu => ?_⟩
    have := World.ownsRow.cells h (g := g) rfl j u hu
    rwa [add_plain] at this
/-- Spots are appended to spots, both of the call's own. -/
theorem wpList_append_sp {ops : Array Oper} {rest : List Oper} {o : Oper} {a : Go.Act} {W : World} {Q : Exit → Go.Act → World → Prop} (hw : Region.wanted o (yielded ops a.tmps) = true) (s x : Operand)
    (ho : o.op = .call { callee := .builtin .append, args := #[s, x], argTypes := #[126, 126] })
    (base base2 : Nat) (v v2 : Value) (L M : List (Nat × Nat)) (hs : a.eval s = v) (hx : a.eval x = v2) (hown : Asp W base v L) (h2 : Asp W base2 v2 M) (hl : L.length + M.length ≤ 4294967296) (hbase : base ≤ W.heap.size)
    (h : ∀ A c w', Asp w' base (.slice A (L ++ M).length c) (L ++ M) → W.grownBy w' v.ownBlock → wpList Tryd.prog ops Q rest (a.put o.dst (.slice A (L ++ M).length c)) w') :
    wpList Tryd.prog ops Q (o :: rest) a W :=
  BigFrame.wpList_want hw fun K hK => by
    obtain ⟨i, hi, hz, hsz, hby⟩ := infoSp_parts
    obtain ⟨v', w', hr, h3, h4⟩ : ∃ v' w', (Builtin.append_ #[126, 126] o.type #[v, v2]).run Tryd.prog W = .ok v' w' ∧ w'.ownsRow base 129 2 v' (L.length + M.length) (sptR L ++ sptR M) ∧ W.grownBy w' v.ownBlock := by
      rcases h2.2 with ⟨rfl, h0⟩ | ⟨g, cap, cur, rfl, hb1, hh, -⟩
      · obtain rfl : M = [] := List.eq_nil_of_length_eq_zero h0
        exact ⟨v, W, run_append_owned_none (P := Tryd.prog) W base 126 o.type 129 i 2 Tryd.underlying126 hi v L.length (sptR L) hown, by rw [show sptR [] = [] from rfl, List.append_nil]; exact hown, ⟨rfl, rfl, rfl, Nat.le_refl _, fun _ _ _ => rfl⟩⟩
      · obtain ⟨v', w', hr, h2', h3, -, -⟩ := run_append_own_at (P := Tryd.prog) W base 126 o.type 129 i _ 2 16 Tryd.underlying126 hi hz hsz hby rfl (by omega) v L.length (sptR L) hown ⟨g, 0, none⟩ M.length cap (sptR M) (sptR_length M)
          (fun j u hu => World.ownsRow.cells h2 (g := g) rfl j u hu) (sptR_cells M) (by unfold maxLen; omega) (by omega) hbase
        exact ⟨v', w', hr, h2', h3⟩
    have h6 : Asp w' base v' (L ++ M) := by
      unfold Asp
      rw [sptR_append, List.length_append]
      exact h3
    obtain ⟨A, c, rfl⟩ := h6.form
    unfold Oper.wp execOp
    simp only [ho, resolve, invoke, builtin, Sem.run_bind, Sem.run_pure, Result.andThen_ok, List.map_toArray, List.map_cons, List.map_nil, hs, hx, hr]
    exact hK _ _ (h A c w' h6 h4)
theorem spotsS_length (l : List Nat) : ∀ k p, (spotsS l k p).length ≤ 2 ^ k
  | 0, p => by
    unfold spotsS
    split <;> simp
  | k + 1, p => by
    unfold spotsS
    split
    · rw [List.length_append, Nat.pow_succ]
      have := spotsS_length l k (2 * p % 18446744073709551616)
      have := spotsS_length l k ((2 * p + 1) % 18446744073709551616)
      omega
    · simp [Nat.one_le_two_pow]
/-- What Spots answers for a height. -/
def SpotC (l : List Nat) (k : Nat) : Prop := ∀ (p : Nat) (A : Option Addr) (c : Nat) (W : World), Nu W W.heap.size A l → p < 18446744073709551616 →
  Calls Tryd.prog 77 #[.slice A l.length c, .int .i64 (k : Int), .int .u64 (p : Int)] W fun r W' => ∃ A1 c1, r = .returned (.slice A1 (spotsS l k p).length c1) ∧ Asp W' W.heap.size (.slice A1 (spotsS l k p).length c1) (spotsS l k p) ∧ Below W.heap.size W W'
set_option maxRecDepth 100000 in
set_option maxHeartbeats 400000 in
theorem spots_out (l : List Nat) (k p : Nat) (A : Option Addr) (c : Nat) (W : World) (hr : Nu W W.heap.size A l) (hk : k ≤ 64) (hl : l.length ≤ 1000000) (hb : belowB l k p = false) :
    Calls Tryd.prog 77 #[.slice A l.length c, .int .i64 (k : Int), .int .u64 (p : Int)] W fun r W' => ∃ A1 c1, r = .returned (.slice A1 1 c1) ∧ Asp W' W.heap.size (.slice A1 1 c1) [(k, p)] ∧ Below W.heap.size W W' := by
  have HB := hid (belowR_any l k p A c W hr hk hl)
  rw [hb] at HB
  generalize l.length = n at HB ⊢
  clear hr hk hl hb
  go_enter Tryd.func77, Tryd.ntmps77
  go_wp2_with (first
    | (go_at_call 97; refine HB.out.mono ?_; rintro r5 w5 ⟨rfl, e5⟩; obtain rfl := e5.symm)
    | (refine wpList_valW (by rfl) (run_buildSp (.tmp 14) rfl (k, p) rfl) ?_))
  go_ret
  exact ⟨_, _, rfl, Asp.one _ _ (Nat.le_refl _), (Below.refl _ _).alloc (Nat.le_refl _) _⟩
set_option maxRecDepth 100000 in
set_option maxHeartbeats 400000 in
theorem spots_leaf (l : List Nat) (p : Nat) (A : Option Addr) (c : Nat) (W : World) (hr : Nu W W.heap.size A l) (hl : l.length ≤ 1000000) (hb : belowB l 0 p = true) :
    Calls Tryd.prog 77 #[.slice A l.length c, .int .i64 ((0 : Nat) : Int), .int .u64 (p : Int)] W fun r W' => r = .returned (.slice none 0 0) ∧ W' = W := by
  have HB := hid (belowR_any l 0 p A c W hr (by omega) hl)
  rw [hb] at HB
  generalize l.length = n at HB ⊢
  clear hr hl hb
  go_enter Tryd.func77, Tryd.ntmps77
  go_wp2_with (first
    | (go_at_call 97; refine HB.out.mono ?_; rintro r5 w5 ⟨rfl, e5⟩; obtain rfl := e5.symm))
  go_ret
  exact ⟨rfl, rfl⟩
set_option maxRecDepth 100000 in
set_option maxHeartbeats 1000000 in
theorem spots_step (l : List Nat) (k p : Nat) (A : Option Addr) (c : Nat) (W : World) (hr : Nu W W.heap.size A l) (hk : k < 32) (hl : l.length ≤ 1000000) (hb : belowB l (k + 1) p = true) (ih : SpotC l k) :
    Calls Tryd.prog 77 #[.slice A l.length c, .int .i64 ((k + 1 : Nat) : Int), .int .u64 (p : Int)] W fun r W' => ∃ A1 c1, r = .returned (.slice A1 (spotsS l (k + 1) p).length c1) ∧ Asp W' W.heap.size (.slice A1 (spotsS l (k + 1) p).length c1) (spotsS l (k + 1) p) ∧ Below W.heap.size W W' := by
  have HB := hid (belowR_any l (k + 1) p A c W hr (by omega) hl)
  rw [hb] at HB
  rw [spotsS_step hb]
  obtain ⟨pL, hpL⟩ : ∃ q, q = 2 * p % 18446744073709551616 := ⟨_, rfl⟩
  obtain ⟨pR, hpR⟩ : ∃ q, q = (2 * p + 1) % 18446744073709551616 := ⟨_, rfl⟩
  have mL : IntKind.u64.wrap (2 * (p : Int)) = (pL : Int) := by simp [IntKind.wrap, IntKind.signed, IntKind.bits]; omega
  have mR : IntKind.u64.wrap ((pL : Int) + 1) = (pR : Int) := by simp [IntKind.wrap, IntKind.signed, IntKind.bits]; omega
  have HL := hid (ih pL A c W hr (by omega))
  have HM := hid (fun (W' : World) (b : Below W.heap.size W W') => ih pR A c W' (hr.new b) (by omega))
  have hlen : (spotsS l k pL).length + (spotsS l k pR).length ≤ 4294967296 := by
    have h1 := spotsS_length l k pL
    have h2 := spotsS_length l k pR
    have h3 : 2 ^ k ≤ 2 ^ 31 := Nat.pow_le_pow_right (by omega) (by omega)
    omega
  have HLEN := hid hlen
  rw [← hpL, ← hpR]
  generalize spotsS l k pL = L at HL HLEN ⊢
  generalize spotsS l k pR = M at HM HLEN ⊢
  generalize l.length = n at HB HL HM ⊢
  obtain ⟨m, hm⟩ : ∃ m, m = k + 1 := ⟨_, rfl⟩
  rw [← hm] at HB ⊢
  have nk : (m : Int) - 1 = (k : Int) := by omega
  have wk : IntKind.i64.wrap (k : Int) = (k : Int) := by simp [IntKind.wrap, IntKind.signed, IntKind.bits]; omega
  have d0 : decide ((m : Int) = 0) = false := by simp; omega
  have d0b : ((m : Int) == 0) = false := by simp; omega
  have d0n : decide (m = 0) = false := by simp; omega
  clear hr hk hl hb ih hlen hpL hpR hm
  go_enter Tryd.func77, Tryd.ntmps77
  go_wp2_with (first
    | (go_at_call 97; refine HB.out.mono ?_; rintro r5 w5 ⟨rfl, e5⟩; obtain rfl := e5.symm)
    | (go_at_call 77; refine HL.out.mono ?_; rintro r5 w5 ⟨A5, c5, rfl, ha5, hb5⟩; have HA5 := hid ha5; have HB5 := hid hb5; clear HL ha5 hb5)
    | (go_at_call 77; refine (HM.out _ HB5.out).mono ?_; rintro r6 w6 ⟨A6, c6, rfl, ha6, hb6⟩; have HA6 := hid ha6; have HB6 := hid hb6; clear HM ha6 hb6)
    | (refine wpList_append_sp (by rfl) (.tmp 23) (.tmp 30) rfl W.heap.size w5.heap.size (.slice A5 L.length c5) (.slice A6 M.length c6) L M rfl rfl (HA5.out.kept HB6.out) HA6.out HLEN.out (Nat.le_trans HB5.out.size HB6.out.size) ?_; intro A7 c7 w7 h1 h2; have HA7 := hid h1; have HG7 := hid h2; clear h1 h2))
  go_ret
  have hb := HB5.out.trans (HB6.out.mono HB5.out.size)
  refine ⟨_, _, by rw [List.length_append]; rfl, HA7.out, hb.grown HG7.out hb.size (fun k hk => ?_)⟩
  exact ((HA5.out.kept HB6.out).lt k hk).1
/-- Spots, for every height. -/
theorem spotsR_any (l : List Nat) (hl : l.length ≤ 1000000) : ∀ k, k ≤ 32 → SpotC l k
  | 0, _ => fun p A c W hr hp => by
    cases hb : belowB l 0 p with
    | false =>
      refine (spots_out l 0 p A c W hr (by omega) hl hb).mono ?_
      rintro r W' ⟨A1, c1, rfl, ha, hb'⟩
      rw [spotsS_out hb]
      exact ⟨A1, c1, rfl, ha, hb'⟩
    | true =>
      refine (spots_leaf l p A c W hr hl hb).mono ?_
      rintro r W' ⟨rfl, rfl⟩
      rw [spotsS_leaf hb]
      exact ⟨none, 0, rfl, Asp.nil _ _, Below.refl _ _⟩
  | k + 1, hk => fun p A c W hr hp => by
    cases hb : belowB l (k + 1) p with
    | false =>
      refine (spots_out l (k + 1) p A c W hr (by omega) hl hb).mono ?_
      rintro r W' ⟨A1, c1, rfl, ha, hb'⟩
      rw [spotsS_out hb]
      exact ⟨A1, c1, rfl, ha, hb'⟩
    | true => exact spots_step l k p A c W hr (by omega) hl hb (spotsR_any l hl k (by omega))
end Go.Proofs.YthkbmpocfpbkoaaDoor
