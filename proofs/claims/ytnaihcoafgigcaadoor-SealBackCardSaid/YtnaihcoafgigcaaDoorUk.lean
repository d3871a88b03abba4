/-
  Errors' numbers; alive of layer 7.
-/
import Derived.Test.YtnaihcoafgigcaaDoorUf
import Derived.Test.YtnaihcoafgigcaaDoorUz
import Derived.Test.YtnaihcoafgigcaaDoorSg
import Derived.Test.YtnaihcoafgigcaaDoorY1
namespace Go.Proofs.YtnaihcoafgigcaaDoor
open Go.RowKit

set_option maxRecDepth 100000 in
theorem num0_any (w : World) : Calls Tryd.prog 16 #[.nilIface] w fun e w' => e = .returned (.int .i64 0) ∧ w' = w := by
  go_enter Tryd.func16, Tryd.ntmps16
  go_wp2
  go_ret
  exact ⟨rfl, rfl⟩
set_option maxRecDepth 100000 in
theorem num4_any (w : World) :
    Calls Tryd.prog 16 #[.iface 43 (.int .i64 4)] w fun e w' => e = .returned (.int .i64 4) ∧ w' = w := by
  have hta : ∀ w : World, (Instr.typeAssert (.iface 43 (.int .i64 4)) 33 43 true).run Tryd.prog w = .ok (.tuple #[.int .i64 4, .bool true]) w := fun _ => by kernel_rfl
  go_enter Tryd.func16, Tryd.ntmps16
  go_wp2
  go_ret
  exact ⟨rfl, rfl⟩
set_option maxRecDepth 100000 in
theorem is4_any (w : World) :
    Calls Tryd.prog 12 #[.iface 43 (.int .i64 4), .int .i64 4] w fun e w' => e = .returned (.bool true) ∧ w' = w := by
  have HN := hid (num4_any w)
  go_enter Tryd.func12, Tryd.ntmps12
  go_wp2_with (go_at_call 16; refine HN.out.mono ?_; rintro e w' ⟨rfl, hw⟩; rw [hw])
  go_ret
  exact ⟨rfl, rfl⟩
/-- An error's number. -/
theorem errNum_any (k : Nat) (hk : k = 0 ∨ k = 1 ∨ k = 4) (w : World) : Calls Tryd.prog 16 #[errV k] w fun e w' => e = .returned (.int .i64 (k : Int)) ∧ w' = w := by
  rcases hk with rfl | rfl | rfl
  · exact num0_any w
  · exact num_any w
  · exact num4_any w
theorem openN_cases (key : List UInt8) (i e : Nat) (d t : List UInt8) : openN key i e d t = 0 ∨ openN key i e d t = 1 ∨ openN key i e d t = 4 := by
  unfold openN
  split
  · split <;> simp
  · simp
theorem run_build_b5 {o : Oper} {a : Go.Act} {W : World} (ho : o.op = .build 28 #[(0, .const (.int .u8 5))]) : (execOp a.eval o).run Tryd.prog W = .ok (.value (.agg (ubs b5).toArray)) W :=
  run_build_of _ _ ho _ (by kernel_rfl)
theorem right_01 : rightB 0 1 = true := by decide
theorem right_11 : rightB 1 1 = true := by decide
theorem seal_b5 : sealL n16 0 1 b5 = sv 1 (turnedL n16 0 1 b5) (tagL n16 0 1 (turnedL n16 0 1 b5)) := sealL_right _ _ _ _ right_01
theorem open_b5 : openL n16 0 1 (turnedL n16 0 1 b5) (tagL n16 0 1 (turnedL n16 0 1 b5)) = b5 ∧ openN n16 0 1 (turnedL n16 0 1 b5) (tagL n16 0 1 (turnedL n16 0 1 b5)) = 0 := by
  have h := openL_same n16 0 1 (turnedL n16 0 1 b5) (tagL n16 0 1 (turnedL n16 0 1 b5)) right_01 (by simp)
  rw [turned_twice] at h
  exact h
theorem open_b5_other : openL n16 1 1 (turnedL n16 0 1 b5) (tagL n16 0 1 (turnedL n16 0 1 b5)) = n32 ∧ openN n16 1 1 (turnedL n16 0 1 b5) (tagL n16 0 1 (turnedL n16 0 1 b5)) = 4 :=
  openL_other n16 1 1 _ _ right_11 five_other
theorem blk_stored_at (w : World) (s : List UInt8) : At ((w.alloc (.cells (ubs n32).toArray 28)).setRow w.heap.size (ubs s).toArray) w.heap.size (ubs s).toArray 28 := setRow_heap _ _ (ubs n32).toArray _ _ _ (At.new _ _ _)
theorem blk_stored_below (w : World) (s : List UInt8) : Below w.heap.size w ((w.alloc (.cells (ubs n32).toArray 28)).setRow w.heap.size (ubs s).toArray) := below_setRow ((Below.refl _ _).alloc (Nat.le_refl _) _) (Nat.le_refl _) _
/-- What holds in alive: the sealed block. -/
structure AvW (w : World) (x : List Value) (S X : Nat) (W : World) : Prop where
  s : SlA W n16 S
  x : At W X x.toArray 31
  below : Below w.heap.size w W
theorem AvW.new {w W W' : World} {x : List Value} {S X : Nat} (h : AvW w x S X W) (hb : Below W.heap.size W W') : AvW w x S X W' := ⟨h.s.new hb, h.x.new_ hb, h.below.trans (hb.mono h.below.size)⟩
set_option maxRecDepth 100000 in
set_option maxHeartbeats 2000000 in
theorem alive7_any (w : World) (hT : Tabs w) : Calls Tryd.prog 7 #[] w fun e w' => e = .returned (.bool true) ∧ Below w.heap.size w w' := by
  have HN := hid (pnew_any n16 w n16_length hT)
  have HSE := hid (fun (W : World) (S : Nat) (hs : SlA W n16 S) (h : Below w.heap.size w W) => show Calls Tryd.prog 9 #[.pointer (some ⟨S, 0, none⟩), .int .u64 0, .int .u64 1, .agg (ubs b5).toArray] W (fun r w' => r = .returned (.tuple #[.agg (sv 1 (turnedL n16 0 1 b5) (tagL n16 0 1 (turnedL n16 0 1 b5))).toArray, .nilIface]) ∧ Below W.heap.size W w') from by
    have := pseal_any n16 b5 0 1 (some ⟨S, 0, none⟩) W b5_length (by omega) (Or.inr ⟨S, rfl, hs⟩) (hT.below h)
    rw [seal_b5, right_01] at this
    exact this)
  have HO0 := hid (fun (W : World) (S : Nat) (hs : SlA W n16 S) (h : Below w.heap.size w W) => show Calls Tryd.prog 14 #[.pointer (some ⟨S, 0, none⟩), .int .u64 0, .agg (sv 1 (turnedL n16 0 1 b5) (tagL n16 0 1 (turnedL n16 0 1 b5))).toArray] W (fun r w' => r = .returned (.tuple #[.agg (ubs b5).toArray, .nilIface]) ∧ Below W.heap.size W w') from by
    have := popen_any n16 (turnedL n16 0 1 b5) (tagL n16 0 1 (turnedL n16 0 1 b5)) 0 1 (some ⟨S, 0, none⟩) W (by rw [turnedL_length, b5_length]) (tagL_length _ _ _ _) (by omega) (Or.inr ⟨S, rfl, hs⟩) (hT.below h)
    rw [open_b5.1, open_b5.2] at this
    exact this)
  have HO1 := hid (fun (W : World) (S : Nat) (hs : SlA W n16 S) (h : Below w.heap.size w W) => show Calls Tryd.prog 14 #[.pointer (some ⟨S, 0, none⟩), .int .u64 1, .agg (sv 1 (turnedL n16 0 1 b5) (tagL n16 0 1 (turnedL n16 0 1 b5))).toArray] W (fun r w' => r = .returned (.tuple #[.agg (ubs n32).toArray, .iface 43 (.int .i64 4)]) ∧ Below W.heap.size W w') from by
    have := popen_any n16 (turnedL n16 0 1 b5) (tagL n16 0 1 (turnedL n16 0 1 b5)) 1 1 (some ⟨S, 0, none⟩) W (by rw [turnedL_length, b5_length]) (tagL_length _ _ _ _) (by omega) (Or.inr ⟨S, rfl, hs⟩) (hT.below h)
    rw [open_b5_other.1, open_b5_other.2] at this
    exact this)
  have HXL := hid (sv_length 1 (turnedL n16 0 1 b5) (tagL n16 0 1 (turnedL n16 0 1 b5)) (by rw [turnedL_length, b5_length]) (tagL_length _ _ _ _))
  have HXA := hid (sv_all 1 (turnedL n16 0 1 b5) (tagL n16 0 1 (turnedL n16 0 1 b5)))
  have HIS := hid is4_any
  have HAS := hid (fun (o : Oper) (a : Go.Act) (W : World) (h : o.op = .alloc 31) => run_alloc_of (o := o) (a := a) (W := W) _ h _ zeroPs)
  have HZ0 := hid (sv_length 0 n32 n16 n32_length n16_length)
  have HB5 := hid (sizeBk_of b5_length)
  have HL5 := hid b5_length
  generalize sv 1 (turnedL n16 0 1 b5) (tagL n16 0 1 (turnedL n16 0 1 b5)) = x at HSE HO0 HO1 HXL HXA
  have hz := noughts32
  clear hT
  go_enter Tryd.func7, Tryd.ntmps7
  go_wp2_with (first
    | (refine wpList_valW (by rfl) (run_build_key7 rfl) ?_)
    | (refine wpList_valW (by rfl) (run_build_b5 rfl) ?_)
    | (refine Great.wpList_allocTo rfl _ rfl _ _ (HAS.out _ _ _ rfl) ?_)
    | (go_at_call 8; refine HN.out.mono ?_; rintro e w1 ⟨S, rfl, hs1, hb1⟩; have S1 := hid hs1; have B1 := hid hb1; clear hs1 hb1)
    | (go_at_call 9; refine (HSE.out w1 S S1.out B1.out).mono ?_; rintro e w2 ⟨rfl, hb2⟩; have S2 := hid (S1.out.new hb2); have B2 := hid (B1.out.trans (hb2.mono B1.out.size)); clear hb2)
    | (refine wpList_store_row rfl _ (.tmp 2) (.tmp 14) rfl w2.heap.size x.toArray rfl rfl 31 (sv 0 n32 n16).toArray (heap_alloc_new _ _) (sizePs_of HXL.out) ?e5 HXA.out ?e6; rotate_right; have V3 := hid (show AvW w x S w2.heap.size ((w2.alloc (.cells (sv 0 n32 n16).toArray 31)).setRow w2.heap.size x.toArray) from ⟨S2.out.new (ps_stored_below w2 x), ps_stored w2 x, B2.out.trans ((ps_stored_below w2 x).mono B2.out.size)⟩); generalize ((w2.alloc (.cells (sv 0 n32 n16).toArray 31)).setRow w2.heap.size x.toArray) = w3 at V3 ⊢; generalize w2.heap.size = X at V3 ⊢)
    | (refine wpList_load_row rfl _ (.tmp 2) rfl X rfl 31 x.toArray (0, 0) _ V3.out.x Tryd.underlying31 rfl (sizePs_of HXL.out) ?_)
    | (go_at_call 14; (with_reducible refine (HO0.out w3 S V3.out.s V3.out.below).mono ?_); rintro e w4 ⟨rfl, hb4⟩; have V4 := hid (V3.out.new hb4); clear hb4)
    | (refine wpList_store_row rfl _ (.tmp 4) (.tmp 20) rfl w4.heap.size (ubs b5).toArray rfl rfl 28 (ubs n32).toArray (heap_alloc_new _ _) HB5.out ?e7 (ubs_all _) ?e8; rotate_right; have V5 := hid (V4.out.new (blk_stored_below w4 b5)); have A5 := hid (blk_stored_at w4 b5); generalize ((w4.alloc (.cells (ubs n32).toArray 28)).setRow w4.heap.size (ubs b5).toArray) = w5 at V5 A5 ⊢; generalize w4.heap.size = Y at A5 ⊢)
    | (refine wpList_load_row rfl _ (.tmp 2) rfl X rfl 31 x.toArray (0, 0) _ V5.out.x Tryd.underlying31 rfl (sizePs_of HXL.out) ?_)
    | (go_at_call 14; (with_reducible refine (HO1.out w5 S V5.out.s V5.out.below).mono ?_); rintro e w6 ⟨rfl, hb6⟩; have V6 := hid (V5.out.new hb6); have A6 := hid (A5.out.new_ hb6); clear hb6)
    | (refine wpList_store_row rfl _ (.tmp 6) (.tmp 26) rfl w6.heap.size (ubs n32).toArray rfl rfl 28 (ubs n32).toArray (heap_alloc_new _ _) (sizeBk_of n32_length) rfl (ubs_all _) ?_; have V7 := hid (V6.out.new (blk_stored_below w6 n32)); have A7 := hid (A6.out.new_ (blk_stored_below w6 n32)); generalize ((w6.alloc (.cells (ubs n32).toArray 28)).setRow w6.heap.size (ubs n32).toArray) = w7 at V7 A7 ⊢)
    | (refine wpList_valW (by rfl) (run_loadB (.tmp 4) rfl Y 0 rfl b5 (range_whole A7.out) HL5.out) ?_)
    | (refine wpList_valW (by rfl) (run_eqlB _ (.tmp 35) (.tmp 36) rfl b5 b5 HL5.out HL5.out rfl rfl true (by simp) _) ?_)
    | (go_at_call 12; refine (HIS.out w7).mono ?_; rintro e w8 ⟨rfl, rfl⟩))
  case e5 => simp [HZ0.out, HXL.out]
  case e7 => simp [ubs_length, n32_length, HL5.out]
  go_ret
  exact ⟨rfl, V7.out.below⟩
end Go.Proofs.YtnaihcoafgigcaaDoor
