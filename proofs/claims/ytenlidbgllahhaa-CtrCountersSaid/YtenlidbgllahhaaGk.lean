/-
  alive of layer 5's laws.
-/
import Derived.Test.YtenlidbgllahhaaGj
import Derived.Test.YtenlidbgllahhaaLkc
namespace Go.Proofs.Ytenlidbgllahhaa
open Go.RowKit

def fullL : List UInt8 := List.replicate 16 255
theorem fullL_length : fullL.length = 16 := rfl
theorem full_all : upd n16 (fun _ => 255) 16 = fullL := by
  rw [upd_all _ _ n16_length]
  decide +kernel
theorem next_full : nextL fullL 1 = n16 := by
  unfold nextL toBE beN n16
  decide +kernel
theorem Cip.nil (w : World) : Cip w n16 none := .inl ⟨rfl, rfl⟩
attribute [irreducible] fullL
/-- What holds in alive's loop. -/
structure AlW (w : World) (k : Nat) (W : World) : Prop where
  row : At W w.heap.size (ubs (upd n16 (fun _ => 255) k)).toArray 26
  below : Below w.heap.size w W
set_option maxRecDepth 100000 in
set_option maxHeartbeats 1000000 in
theorem alive5_any (w : World) : Calls Try.prog 21 #[] w fun e w' => e = .returned (.bool true) ∧ Below w.heap.size w w' := by
  have H0 := hid (show AlW w 0 ((w.alloc (.cells (ubs n16).toArray 26)).setRow w.heap.size (ubs n16).toArray) from ⟨by rw [upd_zero]; exact stored16_at w n16, stored16_below w n16⟩)
  have hz := noughts16
  have HZ := hid (size16_of n16_length)
  go_enter Try.func21, Try.ntmps21
  go_wp2_with (refine wpList_store_row rfl _ (.tmp 1) (.tmp 5) rfl w.heap.size (ubs n16).toArray rfl rfl 26 (ubs n16).toArray (heap_alloc_new _ _) HZ.out rfl (ubs_all _) ?_; generalize ((w.alloc (.cells (ubs n16).toArray 26)).setRow w.heap.size (ubs n16).toArray) = W0 at H0 ⊢)
  try simp only [Act.put]
  go_loopw [6] (fun vi wr => ∃ k : Nat, k ≤ 16 ∧ vi = .int .i64 k ∧ AlW w k wr) (fun vi _ => 16 - (intOf vi).toNat)
  case atStart => exact ⟨0, by omega, rfl, H0.out⟩
  case round =>
    clear H0
    obtain ⟨k, hk, rfl, hA⟩ := hrel
    have HA := hid hA
    clear hA
    by_cases hlt : k < 16
    · have c0 := at_ub_cell HA.out.row (i := k) (by rw [upd_length _ _ _ (by rw [n16_length]; omega), n16_length]; exact hlt)
      have f0 := HA.out.row.frozen k
      have HN := hid (upd_succ n16 (fun _ => 255) k (by rw [n16_length]; exact hlt))
      go_wp2
      go_roundw
      case rel => exact ⟨k + 1, by omega, by go_num, ⟨by rw [HN.out]; exact at_ub_put HA.out.row k 255, HA.out.below.setCell (Nat.le_refl _) _⟩⟩
      case measure => simp [intOf]; omega
    · obtain rfl : k = 16 := by omega
      have ha := HA.out.row
      rw [full_all] at ha
      have HF := hid ha
      have HB := hid HA.out.below
      have HSZ := hid (size16_of fullL_length)
      have HS := hid (fun W => pstream_any n16 fullL none 3 W n16_length fullL_length (Cip.nil W) (by omega))
      have HX := hid (fun W => pnext_any fullL 1 W fullL_length (by omega))
      rw [next_full] at HX
      clear ha HA
      go_wp2_with (first
        | (refine wpList_load_row rfl _ (.tmp 1) rfl w.heap.size rfl 26 (ubs fullL).toArray (0, 0) _ HF.out Try.underlying26 rfl HSZ.out ?_)
        | (go_at_call 22; refine (HS.out _).mono ?_; rintro e w1 ⟨g, rfl, -, -, hb1⟩; have B1 := hid (HB.out.trans (hb1.mono HB.out.size)); have F1 := hid (HF.out.new_ hb1); clear hb1)
        | (refine wpList_load_row rfl _ (.tmp 1) rfl w.heap.size rfl 26 (ubs fullL).toArray (0, 0) _ F1.out Try.underlying26 rfl HSZ.out ?_)
        | (go_at_call 26; refine (HX.out _).mono ?_; rintro e w2 ⟨rfl, hb2⟩; have B2 := hid (B1.out.trans (hb2.mono B1.out.size)); clear hb2)
        | (refine wpList_valW (by rfl) (run_eql_blocks _ (.tmp 18) (.tmp 19) rfl n16 n16_length rfl rfl _) ?_))
      go_ret
      exact ⟨rfl, B2.out⟩
end Go.Proofs.Ytenlidbgllahhaa
