/-
  Sealed blocks of the program's type as values: laid, stored, loaded; Document.
-/
import Derived.Test.YtfmbpdjcoopaeaaDoorSq
namespace Go.Proofs.YtfmbpdjcoopaeaaDoor
open Go.RowKit

theorem zeroPs : (Tryd.prog.info? 37).bind (·.zero) = some (.agg (sv 0 n32 n16).toArray) := by kernel_rfl
theorem sizePs : (Tryd.prog.info? 37).map (·.size) = some 49 := by kernel_rfl
theorem sizePs_of {l : List Value} (h : l.length = 49) : (Tryd.prog.info? 37).map (·.size) = some l.toArray.size := by rw [sizePs]; simp [h]
theorem ps_stored (w : World) (l : List Value) : At ((w.alloc (.cells (sv 0 n32 n16).toArray 37)).setRow w.heap.size l.toArray) w.heap.size l.toArray 37 := setRow_heap _ _ (sv 0 n32 n16).toArray _ _ _ (At.new _ _ _)
theorem ps_stored_below (w : World) (l : List Value) : Below w.heap.size w ((w.alloc (.cells (sv 0 n32 n16).toArray 37)).setRow w.heap.size l.toArray) := below_setRow ((Below.refl _ _).alloc (Nat.le_refl _) _) (Nat.le_refl _) _
set_option maxRecDepth 100000 in
set_option maxHeartbeats 1000000 in
theorem doc_any (x : List Value) (w : World) (hl : x.length = 49) (ha : x.toArray.all (·.oneCell') = true) :
    Calls Tryd.prog 23 #[.agg x.toArray] w fun r w' => r = .returned (.agg x.toArray) ∧ Below w.heap.size w w' := by
  have H0 := hid ((At.new w x.toArray 37).alloc (.cells (sv 0 n32 n16).toArray 44))
  have H1 := hid (show At ((w.alloc (.cells x.toArray 37)).alloc (.cells (sv 0 n32 n16).toArray 44)) (w.heap.size + 1) (sv 0 n32 n16).toArray 44 from At.new_at (by simp))
  have HB := hid (((Below.refl w.heap.size w).alloc (Nat.le_refl _) (.cells x.toArray 37)).alloc (by simp) (.cells (sv 0 n32 n16).toArray 44))
  have HAS := hid (fun (o : Oper) (a : Go.Act) (W : World) (h : o.op = .alloc 44) => run_alloc_of (o := o) (a := a) (W := W) _ h _ zeroSv)
  have HZ0 := hid (sv_length 0 n32 n16 n32_length n16_length)
  have HL := hid hl
  have HA := hid ha
  clear hl ha
  go_enter Tryd.func23, Tryd.ntmps23
  go_wp2_with (first
    | (refine Great.wpList_allocTo rfl _ rfl _ _ (HAS.out _ _ _ rfl) ?_; simp only [World.size_alloc])
    | (refine wpList_load_row rfl _ (.tmp 1) rfl w.heap.size rfl 37 x.toArray (0, 0) _ H0.out Tryd.underlying37 rfl (sizePs_of HL.out) ?_)
    | (refine wpList_store_row rfl _ (.tmp 2) (.tmp 3) rfl (w.heap.size + 1) x.toArray rfl rfl 44 (sv 0 n32 n16).toArray H1.out (sizeSv_of HL.out) ?e5 HA.out ?e6; rotate_right))
  case e5 => simp [HZ0.out, HL.out]
  refine bodyPost_ret (results_cell_row rfl _ _ (w.heap.size + 1) 44 x.toArray (0, 0) _ rfl (setRow_heap _ _ _ _ _ _ H1.out) Tryd.underlying44 rfl (sizeSv_of HL.out)) rfl ?_
  exact ⟨rfl, below_setRow HB.out (by omega) _⟩
end Go.Proofs.YtfmbpdjcoopaeaaDoor
