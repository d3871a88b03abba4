/-
  The program's blocks: sum, bytes replaced by a table's, rows turned, columns mixed.
-/
import Derived.Test.YtenlidbgllahhaaFa
import Derived.StillTailTactics
import Derived.BigQuiet
import Derived.Deep.MidRow
namespace Go.Proofs.Ytenlidbgllahhaa
open Go.RowKit

/-- The sum of two blocks. -/
def xorF (a b : List UInt8) (i : Nat) : UInt8 := xr (a.getD i 0) (b.getD i 0)
def xorL (a b : List UInt8) : List UInt8 := mk16 (xorF a b)
theorem xorL_length (a b : List UInt8) : (xorL a b).length = 16 := mk16_length _
theorem size16_of {l : List UInt8} (h : l.length = 16) : (Try.prog.info? 26).map (·.size) = some (ubs l).toArray.size := by rw [size16]; simp [ubs_length, h]
/-- Three blocks of the call's own. -/
structure Tri (w : World) (x y z : List UInt8) (wr : World) : Prop where
  a0 : At wr w.heap.size (ubs x).toArray 26
  a1 : At wr (w.heap.size + 1) (ubs y).toArray 26
  a2 : At wr (w.heap.size + 2) (ubs z).toArray 26
  below : Below w.heap.size w wr
theorem Tri.start (w : World) (x y z : List UInt8) : Tri w x y z (((w.alloc (.cells (ubs x).toArray 26)).alloc (.cells (ubs y).toArray 26)).alloc (.cells (ubs z).toArray 26)) :=
  ⟨((At.new _ _ _).alloc _).alloc _, (At.new_at (by simp)).alloc _, At.new_at (by simp), (((Below.refl _ _).alloc (Nat.le_refl _) _).alloc (by simp) _).alloc (by simp; omega) _⟩
theorem Tri.drewN {w wr : World} {x y z : List UInt8} (h : Tri w x y z wr) (n : Nat) : Tri w x y z (wr.drewN n) := ⟨h.a0, h.a1, h.a2, below_drewN h.below n⟩
theorem Tri.put {w wr : World} {x y z : List UInt8} (h : Tri w x y z wr) (i : Nat) (b : UInt8) : Tri w (x.set i b) y z (wr.setCell ⟨w.heap.size, i, none⟩ (.int .u8 (b.toNat : Int))) :=
  ⟨at_ub_put h.a0 i b, h.a1.far (p := ⟨w.heap.size, i, none⟩) (by simp) _, h.a2.far (p := ⟨w.heap.size, i, none⟩) (by simp) _, h.below.setCell (by simp) _⟩
theorem Tri.put2 {w wr : World} {x y z : List UInt8} (h : Tri w x y z wr) (i : Nat) (b : UInt8) : Tri w x y (z.set i b) (wr.setCell ⟨w.heap.size + 2, i, none⟩ (.int .u8 (b.toNat : Int))) :=
  ⟨h.a0.far (p := ⟨w.heap.size + 2, i, none⟩) (by simp) _, h.a1.far (p := ⟨w.heap.size + 2, i, none⟩) (by simp) _, at_ub_put h.a2 i b, h.below.setCell (by simp) _⟩
set_option maxRecDepth 100000 in
set_option maxHeartbeats 1000000 in
theorem psum_any (a b : List UInt8) (w : World) (ha : a.length = 16) (hb : b.length = 16) :
    Calls Try.prog 42 #[.agg (ubs a).toArray, .agg (ubs b).toArray] w fun e w' => e = .returned (.agg (ubs (xorL a b)).toArray) ∧ Below w.heap.size w w' := by
  have H0 := hid (Tri.start w a b n16)
  have HL := hid ha
  have HLB := hid hb
  have hz := noughts16
  have HZ := hid (size16_of (xorL_length a b))
  have HLN := hid (xorL_length a b)
  clear ha hb
  go_enter Try.func42, Try.ntmps42
  go_wp2
  clear hz
  go_loopw [6] (fun vi wr => ∃ j : Nat, j ≤ 16 ∧ vi = .int .i64 j ∧ Tri w (upd a (xorF a b) j) b n16 wr) (fun vi _ => 16 - (intOf vi).toNat)
  case atStart => exact ⟨0, by omega, rfl, by rw [upd_zero]; exact H0.out⟩
  case round =>
    clear H0
    obtain ⟨j, hj, rfl, hA⟩ := hrel
    have HA := hid hA
    clear hA
    by_cases hlt : j < 16
    · have hjb : j < a.length := by rw [HL.out]; exact hlt
      have c0 := at_ub_cell HA.out.a0 (i := j) (by rw [upd_length _ _ _ (by omega)]; exact hjb)
      rw [upd_get a _ j j (Nat.le_refl _) hjb] at c0
      have f0 := HA.out.a0.frozen j
      have c1 := at_ub_cell HA.out.a1 (i := j) (by rw [HLB.out]; exact hlt)
      have HN := hid (upd_succ a (xorF a b) j hjb)
      have hxx := b_xr 5 (a.getD j 0) (b.getD j 0)
      have hF : xr (a.getD j 0) (b.getD j 0) = xorF a b j := rfl
      rw [hF] at hxx
      obtain ⟨y, hy⟩ : ∃ y, y = xorF a b j := ⟨_, rfl⟩
      rw [← hy] at hxx HN
      obtain ⟨x1, hx1⟩ : ∃ x, x = a.getD j 0 := ⟨_, rfl⟩
      obtain ⟨x2, hx2⟩ : ∃ x, x = b.getD j 0 := ⟨_, rfl⟩
      rw [← hx1] at hxx c0
      rw [← hx2] at hxx c1
      clear hF hy hx1 hx2 hjb
      go_wp2
      refine wp_region_still_tail 8 (by kernel_rfl) (by kernel_rfl) ?_
      simp only [List.take_succ_cons, List.take_zero, List.drop_succ_cons, List.drop_zero]
      obtain ⟨W2, hW2⟩ : ∃ W2 : World, { wr with drawn := wr.drawn + 1 } = W2 := ⟨_, rfl⟩
      rw [hW2]
      have HB := hid (show Tri w (upd a (xorF a b) j) b n16 W2 by rw [← hW2]; exact HA.out.drewN 1)
      have d0 : W2.cell? ⟨w.heap.size, j, none⟩ = some (.int .u8 (x1.toNat : Int)) := by rw [← hW2]; exact c0
      have d1 : W2.cell? ⟨w.heap.size + 1, j, none⟩ = some (.int .u8 (x2.toNat : Int)) := by rw [← hW2]; exact c1
      have d2 : W2.frozen? ⟨w.heap.size, j, none⟩ = false := by rw [← hW2]; exact f0
      clear hW2 c0 c1 f0 HA
      repeat still_step
      refine wpStill_nil ?_
      go_wp2
      go_roundw
      case rel => exact ⟨j + 1, by omega, by go_num, by rw [HN.out]; exact HB.out.put j y⟩
      case measure => simp [intOf]; omega
    · obtain rfl : j = 16 := by omega
      have ha := HA.out
      rw [upd_all a _ HL.out] at ha
      have HA2 := hid (show Tri w (xorL a b) b n16 wr from ha)
      clear ha HA
      go_wp2_with (first
        | (refine wpList_load_row rfl _ (.tmp 2) rfl w.heap.size rfl 26 (ubs (xorL a b)).toArray (0, 0) _ HA2.out.a0 Try.underlying26 rfl HZ.out ?_)
        | (refine wpList_store_row rfl _ (.tmp 4) (.tmp 18) rfl (w.heap.size + 2) (ubs (xorL a b)).toArray rfl rfl 26 (ubs n16).toArray HA2.out.a2 HZ.out ?e5 (ubs_all _) ?e6; rotate_right))
      case e5 => simp [ubs_length, n16_length, HLN.out]
      refine bodyPost_ret (results_cell_row rfl _ _ (w.heap.size + 2) 26 (ubs (xorL a b)).toArray (0, 0) _ rfl (setRow_heap _ _ _ _ _ _ HA2.out.a2) Try.underlying26 rfl HZ.out) rfl ?_
      exact ⟨rfl, below_setRow HA2.out.below (by omega) _⟩
/-- An operation that yields a value. -/
theorem wpList_val {P : Program} {ops : Array Oper} {rest : List Oper} {o : Oper} {a : Go.Act} {w w' : World} {Q : Exit → Go.Act → World → Prop} (v : Value) (hg : o.guard = none) (hrun : (execOp a.eval o).run P w = .ok (.value v) w')
    (h : wpList P ops Q rest (a.put o.dst v) w') : wpList P ops Q (o :: rest) a w := by
  refine wpList_plain hg fun K hK => ?_
  unfold Oper.wp
  rw [hrun]
  exact hK _ _ h
theorem info8 : (Try.prog.info? 5).map (·.size) = some 1 := by kernel_rfl
/-- A byte of an array that is a value. -/
theorem run_index_ub {o : Oper} {a : Go.Act} {W : World} (t : TypeId) (n : Nat) (x c : Operand) (ho : o.op = .index t x c) (hu : Try.prog.underlying t = some (.array n 5)) (bs : List UInt8) (hx : a.eval x = .agg (ubs bs).toArray)
    (i : Nat) (hc : a.eval c = .int .i64 (i : Int)) (hi : i < n) (hl : bs.length = n) : (execOp a.eval o).run Try.prog W = .ok (.value (.int .u8 ((bs.getD i 0).toNat : Int))) W := by
  unfold execOp
  simp only [ho, hx, hc]
  cases hq : Try.prog.info? 5 with
  | none => have := info8; rw [hq] at this; cases this
  | some inf =>
    have hs : inf.size = 1 := by have := info8; rw [hq] at this; simpa using this
    have he : (ubs bs)[i]? = some (.int .u8 ((bs.getD i 0).toNat : Int)) := by
      rw [ubs_get, List.getD_eq_getElem?_getD, List.getElem?_eq_getElem (by omega)]
      rfl
    simp [Instr.index, asIntOf, run_underlying hu, hi, part, sizeOf, typeInfo, hq, hs, he]
/-- Two blocks of the call's own. -/
structure Duo (w : World) (x z : List UInt8) (wr : World) : Prop where
  a0 : At wr w.heap.size (ubs x).toArray 26
  a1 : At wr (w.heap.size + 1) (ubs z).toArray 26
  below : Below w.heap.size w wr
theorem Duo.start (w : World) (x z : List UInt8) : Duo w x z ((w.alloc (.cells (ubs x).toArray 26)).alloc (.cells (ubs z).toArray 26)) :=
  ⟨(At.new _ _ _).alloc _, At.new_at (by simp), ((Below.refl _ _).alloc (Nat.le_refl _) _).alloc (by simp) _⟩
theorem Duo.drewN {w wr : World} {x z : List UInt8} (h : Duo w x z wr) (n : Nat) : Duo w x z (wr.drewN n) := ⟨h.a0, h.a1, below_drewN h.below n⟩
theorem Duo.put {w wr : World} {x z : List UInt8} (h : Duo w x z wr) (i : Nat) (b : UInt8) : Duo w (x.set i b) z (wr.setCell ⟨w.heap.size, i, none⟩ (.int .u8 (b.toNat : Int))) :=
  ⟨at_ub_put h.a0 i b, h.a1.far (p := ⟨w.heap.size, i, none⟩) (by simp) _, h.below.setCell (by simp) _⟩
/-- Bytes replaced by a table's. -/
def repF (tab b : List UInt8) (i : Nat) : UInt8 := tab.getD (b.getD i 0).toNat 0
def repL (tab b : List UInt8) : List UInt8 := mk16 (repF tab b)
theorem repL_length (tab b : List UInt8) : (repL tab b).length = 16 := mk16_length _
set_option maxRecDepth 100000 in
set_option maxHeartbeats 1000000 in
theorem preplaced_any (tab b : List UInt8) (T : Nat) (w : World) (ht : tab.length = 256) (hb : b.length = 16) (hT : At w T (ubs tab).toArray 59) :
    Calls Try.prog 44 #[.agg (ubs b).toArray, .pointer (some ⟨T, 0, none⟩)] w fun e w' => e = .returned (.agg (ubs (repL tab b)).toArray) ∧ Below w.heap.size w w' := by
  have H0 := hid (Duo.start w b n16)
  have HL := hid hb
  have HTL := hid ht
  have HT := hid hT
  have hz := noughts16
  have HZ := hid (size16_of (repL_length tab b))
  have HZB := hid (size16_of hb)
  have HLN := hid (repL_length tab b)
  clear hb ht hT
  go_enter Try.func44, Try.ntmps44
  go_wp2_with (refine wpList_load_row rfl _ (.tmp 2) rfl w.heap.size rfl 26 (ubs b).toArray (0, 0) _ H0.out.a0 Try.underlying26 rfl HZB.out ?_)
  clear hz
  go_loopw [8] (fun vi wr => ∃ j : Nat, j ≤ 16 ∧ vi = .int .i64 j ∧ Duo w (upd b (repF tab b) j) n16 wr) (fun vi _ => 16 - (intOf vi).toNat)
  case atStart => exact ⟨0, by omega, rfl, by rw [upd_zero]; exact H0.out⟩
  case round =>
    clear H0
    obtain ⟨j, hj, rfl, hA⟩ := hrel
    have HA := hid hA
    clear hA
    by_cases hlt : j < 16
    · have hjb : j < b.length := by rw [HL.out]; exact hlt
      have c0 := at_ub_cell HA.out.a0 (i := j) (by rw [upd_length _ _ _ (by omega)]; exact hjb)
      have f0 := HA.out.a0.frozen j
      have HN := hid (upd_succ b (repF tab b) j hjb)
      have hF : tab.getD (b.getD j 0).toNat 0 = repF tab b j := rfl
      have hxl := (b.getD j 0).toNat_lt
      have c1 := at_ub_cell (HT.out.new_ HA.out.below) (i := (b.getD j 0).toNat) (by rw [HTL.out]; omega)
      rw [hF] at c1
      obtain ⟨y, hy⟩ : ∃ y, y = repF tab b j := ⟨_, rfl⟩
      rw [← hy] at c1 HN
      have HI := hid (fun (o : Oper) (a : Go.Act) (W : World) (h1 : o.op = .index 26 (.tmp 7) (.tmp 8)) (h2 : a.eval (.tmp 7) = .agg (ubs b).toArray) (h3 : a.eval (.tmp 8) = .int .i64 (j : Int)) => run_index_ub (o := o) (a := a) (W := W) _ 16 _ _ h1 Try.underlying26 b h2 j h3 hlt HL.out)
      obtain ⟨x1, hx1⟩ : ∃ x, x = b.getD j 0 := ⟨_, rfl⟩
      rw [← hx1] at c1 HI hxl
      obtain ⟨x2, hx2⟩ : ∃ x, x = (upd b (repF tab b) j).getD j 0 := ⟨_, rfl⟩
      rw [← hx2] at c0
      clear hF hy hx1 hx2 hjb
      go_wp2_with (refine wpList_val _ rfl (HI.out _ _ _ rfl rfl rfl) ?_)
      go_roundw
      case rel => exact ⟨j + 1, by omega, by go_num, by rw [HN.out]; exact HA.out.put j y⟩
      case measure => simp [intOf]; omega
    · obtain rfl : j = 16 := by omega
      have ha := HA.out
      rw [upd_all b _ HL.out] at ha
      have HA2 := hid (show Duo w (repL tab b) n16 wr from ha)
      clear ha HA
      go_wp2_with (first
        | (refine wpList_load_row rfl _ (.tmp 2) rfl w.heap.size rfl 26 (ubs (repL tab b)).toArray (0, 0) _ HA2.out.a0 Try.underlying26 rfl HZ.out ?_)
        | (refine wpList_store_row rfl _ (.tmp 4) (.tmp 20) rfl (w.heap.size + 1) (ubs (repL tab b)).toArray rfl rfl 26 (ubs n16).toArray HA2.out.a1 HZ.out ?e5 (ubs_all _) ?e6; rotate_right))
      case e5 => simp [ubs_length, n16_length, HLN.out]
      refine bodyPost_ret (results_cell_row rfl _ _ (w.heap.size + 1) 26 (ubs (repL tab b)).toArray (0, 0) _ rfl (setRow_heap _ _ _ _ _ _ HA2.out.a1) Try.underlying26 rfl HZ.out) rfl ?_
      exact ⟨rfl, below_setRow HA2.out.below (by omega) _⟩
/-- Rows turned k times. -/
def turF (k : Nat) (b : List UInt8) (i : Nat) : UInt8 := b.getD ((i + 4 * (i % 4) * k) % 16) 0
def turL (k : Nat) (b : List UInt8) : List UInt8 := mk16 (turF k b)
theorem turL_length (k : Nat) (b : List UInt8) : (turL k b).length = 16 := mk16_length _
set_option maxRecDepth 100000 in
set_option maxHeartbeats 1000000 in
theorem pturned_any (b : List UInt8) (k : Nat) (w : World) (hb : b.length = 16) (hk : k ≤ 3) :
    Calls Try.prog 43 #[.agg (ubs b).toArray, .int .i64 (k : Int)] w fun e w' => e = .returned (.agg (ubs (turL k b)).toArray) ∧ Below w.heap.size w w' := by
  have H0 := hid (Tri.start w b n16 n16)
  have HL := hid hb
  have hz := noughts16
  have HZ := hid (size16_of (turL_length k b))
  have HLN := hid (turL_length k b)
  clear hb
  go_enter Try.func43, Try.ntmps43
  go_wp2
  clear hz
  go_loopw [8] (fun vi wr => ∃ j : Nat, j ≤ 16 ∧ vi = .int .i64 j ∧ Tri w b n16 (upd n16 (turF k b) j) wr) (fun vi _ => 16 - (intOf vi).toNat)
  case atStart => exact ⟨0, by omega, rfl, by rw [upd_zero]; exact H0.out⟩
  case round =>
    clear H0
    obtain ⟨j, hj, rfl, hA⟩ := hrel
    have HA := hid hA
    clear hA
    by_cases hlt : j < 16
    · obtain ⟨r, hr⟩ : ∃ r, r = j % 4 := ⟨_, rfl⟩
      obtain ⟨m, hm⟩ : ∃ m, m = 4 * r * k := ⟨_, rfl⟩
      obtain ⟨i, hi⟩ : ∃ i, i = (j + m) % 16 := ⟨_, rfl⟩
      have hrl : r < 4 := by omega
      have hml : m ≤ 36 := by
        have : 4 * r * k ≤ 12 * 3 := Nat.mul_le_mul (by omega) hk
        omega
      have e1 : (j : Int) % 4 = (r : Int) := by omega
      have e2 : 4 * (r : Int) * (k : Int) = (m : Int) := by rw [hm]; simp
      have e3 : ((j : Int) + (m : Int)) % 16 = (i : Int) := by omega
      have hil : i < 16 := by omega
      have c0 := at_ub_cell HA.out.a0 (i := i) (by rw [HL.out]; exact hil)
      have c2 := at_ub_cell HA.out.a2 (i := j) (by rw [upd_length _ _ _ (by rw [n16_length]; omega), n16_length]; exact hlt)
      have f0 := HA.out.a2.frozen j
      have HN := hid (upd_succ n16 (turF k b) j (by rw [n16_length]; exact hlt))
      have hF : b.getD i 0 = turF k b j := by unfold turF; rw [hi, hm, hr]
      rw [hF] at c0
      obtain ⟨y, hy⟩ : ∃ y, y = turF k b j := ⟨_, rfl⟩
      rw [← hy] at c0 HN
      clear hF hy hm hi hr
      go_wp2
      go_roundw
      case rel => exact ⟨j + 1, by omega, by go_num, by rw [HN.out]; exact HA.out.put2 j y⟩
      case measure => simp [intOf]; omega
    · obtain rfl : j = 16 := by omega
      have ha := HA.out
      rw [upd_all n16 _ n16_length] at ha
      have HA2 := hid (show Tri w b n16 (turL k b) wr from ha)
      clear ha HA
      go_wp2_with (first
        | (refine wpList_load_row rfl _ (.tmp 5) rfl (w.heap.size + 2) rfl 26 (ubs (turL k b)).toArray (0, 0) _ HA2.out.a2 Try.underlying26 rfl HZ.out ?_)
        | (refine wpList_store_row rfl _ (.tmp 4) (.tmp 25) rfl (w.heap.size + 1) (ubs (turL k b)).toArray rfl rfl 26 (ubs n16).toArray HA2.out.a1 HZ.out ?e5 (ubs_all _) ?e6; rotate_right))
      case e5 => simp [ubs_length, n16_length, HLN.out]
      refine bodyPost_ret (results_cell_row rfl _ _ (w.heap.size + 1) 26 (ubs (turL k b)).toArray (0, 0) _ rfl (setRow_heap _ _ _ _ _ _ HA2.out.a1) Try.underlying26 rfl HZ.out) rfl ?_
      exact ⟨rfl, below_setRow HA2.out.below (by omega) _⟩
theorem run_size8 (W : World) : (sizeOf 5).run Try.prog W = .ok 1 W := by
  cases hq : Try.prog.info? 5 with
  | none => have := info8; rw [hq] at this; cases this
  | some inf =>
    have hs : inf.size = 1 := by have := info8; rw [hq] at this; simpa using this
    simp [sizeOf, typeInfo, hq, hs]
theorem arrayLen16 : Try.prog.arrayLen 26 = 16 := by kernel_rfl
theorem elem16 : Try.prog.elem 26 = 5 := by kernel_rfl
/-- Four bytes of a block. -/
theorem run_slice16 (s m m4 : Nat) (h4 : m4 = m + 4) (h16 : m4 ≤ 16) (W : World) : (Instr.sliceAt 26 (.pointer (some ⟨s, 0, none⟩)) (some (.int .i64 (m : Int))) (some (.int .i64 (m4 : Int))) none).run Try.prog W = .ok (.slice (some ⟨s, m, none⟩) 4 (16 - m)) W := by
  have h := run_sliceAt_array_lh (P := Try.prog) W 26 ⟨s, 0, none⟩ (by kernel_rfl) .i64 .i64 (m : Int) (m4 : Int) (by omega) (by omega) (by rw [arrayLen16]; omega)
  rw [h, elem16, run_size8, arrayLen16]
  simp only [Result.andThen_ok, Int.toNat_natCast, slicedAt]
  rw [if_neg (by omega), Addr.add_mid, show 0 + m * 1 = m by omega, show m4 - m = 4 by omega]
/-- Columns mixed, as the program does it. -/
def pmF (s : List UInt8) (i : Nat) : UInt8 :=
  xr (xr (xr (dbl (xr (s.getD i 0) (s.getD (4 * (i / 4) + (i + 1) % 4) 0))) (s.getD (4 * (i / 4) + (i + 1) % 4) 0)) (s.getD (4 * (i / 4) + (i + 2) % 4) 0)) (s.getD (4 * (i / 4) + (i + 3) % 4) 0)
theorem pm_mix (s : List UInt8) : mk16 (pmF s) = mixL s := by
  refine mk16_congr fun i hi => ?_
  unfold mixF pmF mix0 mix1 mix2 mix3
  simp only [xr_eq, dbl_xor]
  rcases (by omega : i % 4 = 0 ∨ i % 4 = 1 ∨ i % 4 = 2 ∨ i % 4 = 3) with e | e | e | e
  · rw [if_pos e, show (i + 1) % 4 = 1 by omega, show (i + 2) % 4 = 2 by omega, show (i + 3) % 4 = 3 by omega, show s.getD i 0 = s.getD (4 * (i / 4)) 0 by congr 1; omega]
  · rw [if_neg (by omega), if_pos e, show (i + 1) % 4 = 2 by omega, show (i + 2) % 4 = 3 by omega, show (i + 3) % 4 = 0 by omega, show s.getD i 0 = s.getD (4 * (i / 4) + 1) 0 by congr 1; omega, Nat.add_zero]
    ac_rfl
  · rw [if_neg (by omega), if_neg (by omega), if_pos e, show (i + 1) % 4 = 3 by omega, show (i + 2) % 4 = 0 by omega, show (i + 3) % 4 = 1 by omega, show s.getD i 0 = s.getD (4 * (i / 4) + 2) 0 by congr 1; omega, Nat.add_zero]
    ac_rfl
  · rw [if_neg (by omega), if_neg (by omega), if_neg (by omega), show (i + 1) % 4 = 0 by omega, show (i + 2) % 4 = 1 by omega, show (i + 3) % 4 = 2 by omega, show s.getD i 0 = s.getD (4 * (i / 4) + 3) 0 by congr 1; omega, Nat.add_zero]
    ac_rfl
set_option maxRecDepth 100000 in
set_option maxHeartbeats 1000000 in
theorem pmixed_any (b : List UInt8) (w : World) (hb : b.length = 16) :
    Calls Try.prog 45 #[.agg (ubs b).toArray] w fun e w' => e = .returned (.agg (ubs (mixL b)).toArray) ∧ Below w.heap.size w w' := by
  have H0 := hid (Tri.start w b n16 n16)
  have HL := hid hb
  have HE := hid (pm_mix b)
  have hz := noughts16
  have HZ := hid (size16_of (mixL_length b))
  have HZB := hid (size16_of hb)
  have HLN := hid (mixL_length b)
  clear hb
  go_enter Try.func45, Try.ntmps45
  go_wp2_with (refine wpList_load_row rfl _ (.tmp 1) rfl w.heap.size rfl 26 (ubs b).toArray (0, 0) _ H0.out.a0 Try.underlying26 rfl HZB.out ?_)
  clear hz
  go_loopw [11] (fun vi wr => ∃ j : Nat, j ≤ 16 ∧ vi = .int .i64 j ∧ Tri w b n16 (upd n16 (pmF b) j) wr) (fun vi _ => 16 - (intOf vi).toNat)
  case atStart => exact ⟨0, by omega, rfl, by rw [upd_zero]; exact H0.out⟩
  case round =>
    clear H0
    obtain ⟨j, hj, rfl, hA⟩ := hrel
    have HA := hid hA
    clear hA
    by_cases hlt : j < 16
    · obtain ⟨q, hq⟩ : ∃ q, q = j / 4 := ⟨_, rfl⟩
      obtain ⟨m, hm⟩ : ∃ m, m = 4 * q := ⟨_, rfl⟩
      obtain ⟨m4, hm4⟩ : ∃ m4, m4 = m + 4 := ⟨_, rfl⟩
      obtain ⟨i1, hi1⟩ : ∃ i, i = (j + 1) % 4 := ⟨_, rfl⟩
      obtain ⟨i2, hi2⟩ : ∃ i, i = (j + 2) % 4 := ⟨_, rfl⟩
      obtain ⟨i3, hi3⟩ : ∃ i, i = (j + 3) % 4 := ⟨_, rfl⟩
      have e1 : (j : Int) / 4 = (q : Int) := by omega
      have e2 : (q : Int) * 4 = (m : Int) := by omega
      have e3 : (m : Int) + 4 = (m4 : Int) := by omega
      have e4 : ((j : Int) + 1) % 4 = (i1 : Int) := by omega
      have e5 : ((j : Int) + 2) % 4 = (i2 : Int) := by omega
      have e6 : ((j : Int) + 3) % 4 = (i3 : Int) := by omega
      have l1 : i1 < 4 := by omega
      have l2 : i2 < 4 := by omega
      have l3 : i3 < 4 := by omega
      have lm : m ≤ 12 := by omega
      have hsl := run_slice16 w.heap.size m m4 hm4 (by omega)
      have c1 := at_ub_cell HA.out.a0 (i := m + i1) (by rw [HL.out]; omega)
      have c2 := at_ub_cell HA.out.a0 (i := m + i2) (by rw [HL.out]; omega)
      have c3 := at_ub_cell HA.out.a0 (i := m + i3) (by rw [HL.out]; omega)
      have d2 := at_ub_cell HA.out.a2 (i := j) (by rw [upd_length _ _ _ (by rw [n16_length]; omega), n16_length]; exact hlt)
      have f0 := HA.out.a2.frozen j
      have HN := hid (upd_succ n16 (pmF b) j (by rw [n16_length]; exact hlt))
      have hF : pmF b j = xr (xr (xr (dbl (xr (b.getD j 0) (b.getD (m + i1) 0))) (b.getD (m + i1) 0)) (b.getD (m + i2) 0)) (b.getD (m + i3) 0) := by unfold pmF; rw [hm, hq, hi1, hi2, hi3]
      rw [hF] at HN
      have HI := hid (fun (o : Oper) (a : Go.Act) (W : World) (h1 : o.op = .index 26 (.tmp 10) (.tmp 11)) (h2 : a.eval (.tmp 10) = .agg (ubs b).toArray) (h3 : a.eval (.tmp 11) = .int .i64 (j : Int)) => run_index_ub (o := o) (a := a) (W := W) _ 16 _ _ h1 Try.underlying26 b h2 j h3 hlt HL.out)
      obtain ⟨x0, hx0⟩ : ∃ x, x = b.getD j 0 := ⟨_, rfl⟩
      obtain ⟨x1, hx1⟩ : ∃ x, x = b.getD (m + i1) 0 := ⟨_, rfl⟩
      obtain ⟨x2, hx2⟩ : ∃ x, x = b.getD (m + i2) 0 := ⟨_, rfl⟩
      obtain ⟨x3, hx3⟩ : ∃ x, x = b.getD (m + i3) 0 := ⟨_, rfl⟩
      rw [← hx0, ← hx1, ← hx2, ← hx3] at HN
      rw [← hx0] at HI
      rw [← hx1] at c1
      rw [← hx2] at c2
      rw [← hx3] at c3
      have X1 := b_xr 5 x0 x1
      obtain ⟨y1, hy1⟩ : ∃ x, x = xr x0 x1 := ⟨_, rfl⟩
      rw [← hy1] at X1 HN
      have HD := hid (fun (W : World) => pdouble_any y1 W)
      obtain ⟨y2, hy2⟩ : ∃ x, x = dbl y1 := ⟨_, rfl⟩
      rw [← hy2] at HD HN
      have X2 := b_xr 5 y2 x1
      obtain ⟨y3, hy3⟩ : ∃ x, x = xr y2 x1 := ⟨_, rfl⟩
      rw [← hy3] at X2 HN
      have X3 := b_xr 5 y3 x2
      obtain ⟨y4, hy4⟩ : ∃ x, x = xr y3 x2 := ⟨_, rfl⟩
      rw [← hy4] at X3 HN
      have X4 := b_xr 5 y4 x3
      obtain ⟨y5, hy5⟩ : ∃ x, x = xr y4 x3 := ⟨_, rfl⟩
      rw [← hy5] at X4 HN
      clear hF hq hm hm4 hi1 hi2 hi3 hx0 hx1 hx2 hx3 hy1 hy2 hy3 hy4 hy5
      go_wp2_with (refine wpList_val _ rfl (HI.out _ _ _ rfl rfl rfl) ?_)
      go_quiet (fail)
      have HB := hid (HA.out.drewN nq)
      generalize wr.drewN nq = V at HB ⊢
      have g2 : V.cell? ⟨w.heap.size + 1 + 1, j, none⟩ = some (.int .u8 (((upd n16 (pmF b) j).getD j 0).toNat : Int)) := at_ub_cell HB.out.a2 (i := j) (by rw [upd_length _ _ _ (by rw [n16_length]; omega), n16_length]; exact hlt)
      have g0 : V.frozen? ⟨w.heap.size + 1 + 1, j, none⟩ = false := HB.out.a2.frozen j
      obtain ⟨y6, hy6⟩ : ∃ x, x = (upd n16 (pmF b) j).getD j 0 := ⟨_, rfl⟩
      rw [← hy6] at g2
      clear c1 c2 c3 d2 f0 hy6
      go_wp2_with (go_at_call 29; refine (HD.out _).mono ?_; rintro e w' ⟨rfl, hw⟩; rw [hw]; clear hw)
      go_roundw
      case rel => exact ⟨j + 1, by omega, by go_num, by rw [HN.out]; exact HB.out.put2 j y5⟩
      case measure => simp [intOf]; omega
    · obtain rfl : j = 16 := by omega
      have ha := HA.out
      rw [upd_all n16 _ n16_length, HE.out] at ha
      have HA2 := hid (show Tri w b n16 (mixL b) wr from ha)
      clear ha HA
      go_wp2_with (first
        | (refine wpList_load_row rfl _ (.tmp 3) rfl (w.heap.size + 2) rfl 26 (ubs (mixL b)).toArray (0, 0) _ HA2.out.a2 Try.underlying26 rfl HZ.out ?_)
        | (refine wpList_store_row rfl _ (.tmp 2) (.tmp 54) rfl (w.heap.size + 1) (ubs (mixL b)).toArray rfl rfl 26 (ubs n16).toArray HA2.out.a1 HZ.out ?e5 (ubs_all _) ?e6; rotate_right))
      case e5 => simp [ubs_length, n16_length, HLN.out]
      refine bodyPost_ret (results_cell_row rfl _ _ (w.heap.size + 1) 26 (ubs (mixL b)).toArray (0, 0) _ rfl (setRow_heap _ _ _ _ _ _ HA2.out.a1) Try.underlying26 rfl HZ.out) rfl ?_
      exact ⟨rfl, below_setRow HA2.out.below (by omega) _⟩
end Go.Proofs.Ytenlidbgllahhaa
