/-
  The statement's own function 'hash': bytes as a hash, as far as there are.
-/
import Derived.Test.YtmgdngpdgjdicaaW3
namespace Go.Proofs.Ytmgdngpdgjdicaa
open Go.RowKit

def z32 : List UInt8 := List.replicate 32 0
theorem sizeB : (Try.prog.info? 5).map (·.size) = some 1 := by kernel_rfl
theorem sizeH : (Try.prog.info? 44).map (·.size) = some 32 := by kernel_rfl
def hashOf (b : List UInt8) : List UInt8 := (b ++ List.replicate 32 0).take 32
theorem hashOf_length (b : List UInt8) : (hashOf b).length = 32 := by simp [hashOf]
theorem hash_row (b : List UInt8) : splice (ubs z32) 0 (ubs (b.take 32)) = ubs (hashOf b) := by
  simp only [z32, splice, ubs_drop, ← ubs_append, List.take_zero, List.nil_append, ubs_length, Nat.zero_add, List.length_take, hashOf]
  congr 1
  rw [List.take_append, List.take_replicate]
  congr 1
  rw [List.drop_replicate]
  congr 1
  omega
def HashOut (h : List UInt8) (w : World) (x : Value) (w' : World) : Prop := x = hv h ∧ Below w.heap.size w w'
theorem ubs_all (h : List UInt8) : (ubs h).toArray.all (·.oneCell') = true :=
  Array.all_eq_true_iff_forall_mem.2 (fun v hv => ubs_one h v (by simpa using hv))
theorem hashZ : #[Value.int .u8 0, .int .u8 0, .int .u8 0, .int .u8 0, .int .u8 0, .int .u8 0, .int .u8 0, .int .u8 0, .int .u8 0, .int .u8 0, .int .u8 0, .int .u8 0, .int .u8 0, .int .u8 0, .int .u8 0, .int .u8 0, .int .u8 0, .int .u8 0, .int .u8 0, .int .u8 0, .int .u8 0, .int .u8 0, .int .u8 0, .int .u8 0, .int .u8 0, .int .u8 0, .int .u8 0, .int .u8 0, .int .u8 0, .int .u8 0, .int .u8 0, .int .u8 0] = (ubs z32).toArray := rfl
set_option maxHeartbeats 400000 in
theorem hash_law (b : List UInt8) (A : Option Addr) (c : Nat) (w : World) (hx : Rb w w.heap.size A b) :
    Calls Try.prog 15 #[.slice A b.length c] w fun e w' => ∃ x, e = .returned x ∧ HashOut (hashOf b) w x w' := by
  have HX := hid hx
  clear hx
  have hz := hashZ
  go_enter Try.func15, Try.ntmps15
  go_wp2_with (first
    | (refine wpList_copy_rd rfl (.tmp 4) (.tmp 5) _ _ rfl 5 Try.underlying30 sizeB (w.heap.size + 1) 0 32 32 w.heap.size A b.length c rfl rfl (ubs z32) 44 ?c1 (ubs b) ?c2 (ubs_length _) ?c4 (ubs_one _) ?c6; rotate_right; intro w1 hg1 hb1; replace hg1 := hid hg1; replace hb1 := hid hb1)
    | (refine wpList_load_row rfl _ (.tmp 3) rfl (w.heap.size + 1) rfl 44 (ubs (hashOf b)).toArray (0, 0) _ ?d1 Try.underlying44 rfl ?d2 ?d3; rotate_right)
    | (refine wpList_store_row rfl _ (.tmp 2) (.tmp 7) rfl w.heap.size (ubs (hashOf b)).toArray rfl rfl 44 (ubs z32).toArray ?e1 ?e2 ?e3 (ubs_all _) ?e4; rotate_right))
  case c1 => exact heap_alloc2_new _ _ _
  case c2 => exact (HX.out.alloc _).alloc _
  case c4 => simp [ubs_length, z32]; omega
  case d1 => have := hg1.out; rw [ubs_take, hash_row b] at this; exact this
  case d2 => simpa [ubs_length, hashOf_length] using sizeH
  case e1 => exact (hb1.out.block w.heap.size (by simp; omega) (by omega)).trans (heap_alloc2_old _ _ _)
  case e2 => simpa [ubs_length, hashOf_length] using sizeH
  case e3 => simp [ubs_length, hashOf_length, z32]
  have e1 : w1.heap[w.heap.size]? = some (.cells (ubs z32).toArray 44 (0, 0)) := (hb1.out.block w.heap.size (by simp; omega) (by omega)).trans (heap_alloc2_old _ _ _)
  refine bodyPost_ret (results_cell_row rfl _ _ w.heap.size 44 (ubs (hashOf b)).toArray (0, 0) _ rfl (setRow_heap _ _ _ _ _ _ e1) Try.underlying44 rfl (by simpa [ubs_length, hashOf_length] using sizeH)) rfl ?_
  have hf : Fr (fun _ => False) w w1 := (((Fr.refl _ _).alloc _).alloc _).next hb1.out (fun k hk he => by omega)
  exact ⟨_, rfl, rfl, (hf.setRow (.inl (Nat.le_refl _)) _).below (fun _ h => h.elim) (Nat.le_refl _)⟩
end Go.Proofs.Ytmgdngpdgjdicaa
