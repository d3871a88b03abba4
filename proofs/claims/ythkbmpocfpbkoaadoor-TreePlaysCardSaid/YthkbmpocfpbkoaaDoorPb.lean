/-
  The program's layer 8: hashes of leaves and of nodes; what a text is of.
-/
import Derived.Test.YthkbmpocfpbkoaaDoorPa
namespace Go.Proofs.YthkbmpocfpbkoaaDoor
open Go.RowKit

set_option maxRecDepth 100000 in
set_option maxHeartbeats 1000000 in
theorem phashOf_ok (bs : List UInt8) (A : Option Addr) (c : Nat) (w : World) (hr : Rb w w.heap.size A bs) (hl : bs.length ≤ 1000000) (hT : Tabs w) :
    Calls Tryd.prog 68 #[.slice A bs.length c, .nilIface] w fun r w' => r = .returned (.tuple #[.agg (ubs (hashL bs)).toArray, .nilIface]) ∧ Below w.heap.size w w' := by
  have hb0 : Below w.heap.size w (w.alloc (.cells (ubs n32).toArray 35)) := (Below.refl _ _).alloc (Nat.le_refl _) _
  have HS := hid (sum_any bs A c (w.alloc (.cells (ubs n32).toArray 35)) ((hr.below hb0).mono (by simp)) (by omega) (hT.below hb0))
  have H0 := hid (At.new w (ubs n32).toArray 35)
  have HB0 := hid hb0
  have HML := hid (hashL_length bs)
  have HAH := hid (fun (o : Oper) (a : Go.Act) (W : World) (h : o.op = .alloc 35) => run_alloc_of (o := o) (a := a) (W := W) _ h _ zeroH8)
  generalize hashL bs = m at HS HML ⊢
  generalize bs.length = n at HS ⊢
  clear hr hl hT hb0
  go_enter Tryd.func68, Tryd.ntmps68
  go_wp2_with (first
    | (refine Great.wpList_allocTo rfl _ rfl _ _ (HAH.out _ _ _ rfl) ?_)
    | (go_at_call 85; refine HS.out.mono ?_; rintro e1 w1 ⟨rfl, hb1⟩; have H1 := hid (H0.out.new_ hb1); have B1 := hid (HB0.out.trans (hb1.mono HB0.out.size)); clear hb1)
    | (refine wpList_store_row rfl _ (.tmp 4) (.tmp 11) rfl w.heap.size (ubs m).toArray rfl rfl 35 (ubs n32).toArray H1.out (sizeH_of HML.out) ?e5 (ubs_all _) ?e6; rotate_right))
  case e5 => simp [ubs_length, n32_length, HML.out]
  refine bodyPost_ret (results_row_tmp rfl _ _ w.heap.size 35 (ubs m).toArray (0, 0) _ rfl (setRow_heap _ _ _ _ _ _ H1.out) Tryd.underlying35 rfl (sizeH_of HML.out)) rfl ?_
  exact ⟨rfl, below_setRow B1.out (Nat.le_refl _) _⟩
set_option maxRecDepth 100000 in
set_option maxHeartbeats 1000000 in
theorem phashOf_no (v : Value) (w : World) :
    Calls Tryd.prog 68 #[v, errV 1] w fun r w' => r = .returned (.tuple #[.agg (ubs n32).toArray, errV 1]) ∧ Below w.heap.size w w' := by
  have H0 := hid (At.new w (ubs n32).toArray 35)
  have HB0 := hid ((Below.refl w.heap.size w).alloc (Nat.le_refl _) (.cells (ubs n32).toArray 35))
  have HML := hid n32_length
  have HAH := hid (fun (o : Oper) (a : Go.Act) (W : World) (h : o.op = .alloc 35) => run_alloc_of (o := o) (a := a) (W := W) _ h _ zeroH8)
  have e : errV 1 = .iface 47 (.int .i64 1) := rfl
  rw [e]
  clear e
  obtain ⟨m, hm⟩ : ∃ m, m = n32 := ⟨_, rfl⟩
  have HBH := hid (fun (o : Oper) (a : Go.Act) (W : World) (h : o.op = .build 35 #[]) => show (execOp a.eval o).run Tryd.prog W = .ok (.value (.agg (ubs m).toArray)) W by rw [hm]; exact run_build_hash0 h)
  rw [← hm] at HML ⊢
  have HNL := hid n32_length
  clear hm
  go_enter Tryd.func68, Tryd.ntmps68
  go_wp2_with (first
    | (refine Great.wpList_allocTo rfl _ rfl _ _ (HAH.out _ _ _ rfl) ?_)
    | (refine wpList_valW (by rfl) (HBH.out _ _ _ rfl) ?_)
    | (refine wpList_store_row rfl _ (.tmp 4) (.tmp 8) rfl w.heap.size (ubs m).toArray rfl rfl 35 (ubs n32).toArray H0.out (sizeH_of HML.out) ?e5 (ubs_all _) ?e6; rotate_right))
  case e5 => simp [ubs_length, HNL.out, HML.out]
  refine bodyPost_ret (results_row_tmp rfl _ _ w.heap.size 35 (ubs m).toArray (0, 0) _ rfl (setRow_heap _ _ _ _ _ _ H0.out) Tryd.underlying35 rfl (sizeH_of HML.out)) rfl ?_
  exact ⟨rfl, below_setRow HB0.out (Nat.le_refl _) _⟩
/-- A text's hash, or the error for which there is none. -/
theorem phashOf_any (g : Bool) (bs : List UInt8) (A : Option Addr) (c : Nat) (w : World) (hr : Rb w w.heap.size A bs) (hl : bs.length ≤ 1000000) (hT : Tabs w) :
    Calls Tryd.prog 68 #[.slice A bs.length c, errV (if g then 0 else 1)] w fun r w' => r = .returned (.tuple #[.agg (ubs (if g then hashL bs else n32)).toArray, errV (if g then 0 else 1)]) ∧ Below w.heap.size w w' := by
  cases g with
  | true => exact phashOf_ok bs A c w hr hl hT
  | false => exact phashOf_no _ w
set_option maxRecDepth 100000 in
set_option maxHeartbeats 1000000 in
theorem pjoin_any (h : Int) (l r : List UInt8) (w : World) (hl : l.length = 32) (hr : r.length = 32) (hT : Tabs w) :
    Calls Tryd.prog 33 #[.int .i64 h, .agg (ubs l).toArray, .agg (ubs r).toArray] w fun e w' => e = .returned (.tuple #[.agg (ubs (jnH h l r)).toArray, errV (if htB h then 0 else 1)]) ∧ Below w.heap.size w w' := by
  obtain ⟨W0, hW0⟩ : ∃ W0, W0 = ((w.alloc (.cells (ubs l).toArray 35)).alloc (.cells (ubs r).toArray 35)).alloc (.cells (ubs n32).toArray 35) := ⟨_, rfl⟩
  have HA := hid (show At W0 w.heap.size (ubs l).toArray 35 by rw [hW0]; exact ((At.new _ _ _).alloc _).alloc _)
  have HC := hid (show At W0 (w.heap.size + 1) (ubs r).toArray 35 by rw [hW0]; exact (At.new_at (by simp)).alloc _)
  have H1 := hid (show At W0 (w.heap.size + 1 + 1) (ubs n32).toArray 35 by rw [hW0]; exact At.new_at (by simp))
  have HB := hid (show Below w.heap.size w W0 by rw [hW0]; exact (((Below.refl _ _).alloc (Nat.le_refl _) _).alloc (by simp) _).alloc (by simp; omega) _)
  have HX := hid (fun W => pjoinText_any h l r W hl hr)
  have hH : (if htB h then hashL (jnT h l r) else n32) = jnH h l r := by
    rw [jnH, jnT]
    cases htB h <;> rfl
  have hll : (jnT h l r).length ≤ 1000000 := by
    rw [jnT]
    cases htB h
    · simp
    · simp [joinT_length h.toNat l r hl hr]
  have HML := hid (show (jnH h l r).length = 32 by
    rw [jnH]
    cases htB h
    · exact n32_length
    · exact hashL_length _)
  obtain ⟨kx, hkx⟩ : ∃ k, k = if htB h then 0 else 1 := ⟨_, rfl⟩
  have HS := hid (fun (W : World) (A : Option Addr) (c : Nat) (hb : Below w.heap.size w W) (hA : Rb W W.heap.size A (jnT h l r)) => show Calls Tryd.prog 68 #[.slice A (jnT h l r).length c, errV kx] W (fun e w' => e = .returned (.tuple #[.agg (ubs (jnH h l r)).toArray, errV kx]) ∧ Below W.heap.size W w') by
    have := phashOf_any (htB h) (jnT h l r) A c W hA hll (hT.below hb)
    rwa [← hkx, hH] at this)
  rw [← hkx] at HX ⊢
  have HLL := hid hl
  have HRL := hid hr
  have HAH := hid (fun (o : Oper) (a : Go.Act) (W : World) (h : o.op = .alloc 35) => run_alloc_of (o := o) (a := a) (W := W) _ h _ zeroH8)
  generalize jnH h l r = m at HS HML ⊢
  generalize jnT h l r = lt at HX HS
  generalize hln : lt.length = ln at HX HS
  clear hl hr hT hH hll hkx hln
  subst hW0
  go_enter Tryd.func33, Tryd.ntmps33
  go_wp2_with (first
    | (refine Great.wpList_allocTo rfl _ rfl _ _ (HAH.out _ _ _ rfl) ?_)
    | (refine wpList_valW (by rfl) (run_loadH (.tmp 4) rfl w.heap.size 0 rfl l (range_whole HA.out) HLL.out) ?_)
    | (refine wpList_valW (by rfl) (run_loadH (.tmp 5) rfl (w.heap.size + 1) 0 rfl r (range_whole HC.out) HRL.out) ?_)
    | (go_at_call 69; refine (HX.out _).mono ?_; rintro e1 w1 ⟨A1, c1, rfl, hA1, hb1⟩; have H2 := hid (H1.out.new_ hb1); have B2 := hid (HB.out.trans (hb1.mono HB.out.size)); have S2 := hid (HS.out w1 A1 c1 B2.out hA1); clear hA1 hb1)
    | (go_at_call 68; refine S2.out.mono ?_; rintro e2 w2 ⟨rfl, hb2⟩; have H3 := hid (H2.out.new_ hb2); have B3 := hid (B2.out.trans (hb2.mono B2.out.size)); clear hb2)
    | (refine wpList_store_row rfl _ (.tmp 6) (.tmp 15) rfl (w.heap.size + 1 + 1) (ubs m).toArray rfl rfl 35 (ubs n32).toArray H3.out (sizeH_of HML.out) ?e5 (ubs_all _) ?e6; rotate_right))
  case e5 => simp [ubs_length, n32_length, HML.out]
  refine bodyPost_ret (results_row_tmp rfl _ _ (w.heap.size + 1 + 1) 35 (ubs m).toArray (0, 0) _ rfl (setRow_heap _ _ _ _ _ _ H3.out) Tryd.underlying35 rfl (sizeH_of HML.out)) rfl ?_
  exact ⟨rfl, below_setRow B3.out (by omega) _⟩
theorem join_c (w : World) (hT : Tabs w) : JoinC w := fun W h l r hb _ _ hl hr => pjoin_any h l r W hl hr (hT.below hb)
end Go.Proofs.YthkbmpocfpbkoaaDoor
