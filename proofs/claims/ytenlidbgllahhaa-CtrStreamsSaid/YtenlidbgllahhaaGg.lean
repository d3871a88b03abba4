/-
  The program's alike and Blocks of layer 5.
-/
import Derived.Test.YtenlidbgllahhaaGe
import Derived.Test.YtenlidbgllahhaaGf
import Derived.Test.YtenlidbgllahhaaGc
import Derived.Test.YtenlidbgllahhaaFh
import Derived.Test.YtenlidbgllahhaaIn
namespace Go.Proofs.Ytenlidbgllahhaa
open Go.RowKit

set_option maxRecDepth 100000 in
set_option maxHeartbeats 1000000 in
theorem alike_any (key : List UInt8) (p : Option Addr) (w : World) (hk : key.length = 16) (hc : Cip w key p) :
    Calls Try.prog 37 #[.pointer p] w fun e w' => ∃ C, e = .returned (.pointer (some ⟨C, 0, none⟩)) ∧ w.heap.size ≤ C ∧ At w' C (ubs (rks key 11)).toArray 58 ∧ Below w.heap.size w w' := by
  have HR := hid (roundKey_in key p 0 w (by omega) hk hc)
  have HK := hid hk
  have HE := hid (rk_zero key)
  rw [HE.out] at HR
  have HN := hid (fun W => new_any key W hk)
  have hz := noughts16
  clear hk hc
  go_enter Try.func37, Try.ntmps37
  go_wp2_with (first
    | (go_at_call 17; refine HR.out.mono ?_; rintro e w1 ⟨rfl, hb1⟩; have HB1 := hid hb1; clear hb1)
    | (refine wpList_store_row rfl _ (.tmp 3) (.tmp 8) rfl w1.heap.size (ubs key).toArray rfl rfl 26 (ubs n16).toArray (At.new w1 _ _) (size16_of HK.out) ?e3 (ubs_all _) ?e4; rotate_right; have HB2 := hid (below_setRow ((Below.refl w1.heap.size w1).alloc (Nat.le_refl _) (.cells (ubs n16).toArray 26)) (Nat.le_refl _) (ubs key).toArray); have D2 := hid (setRow_heap (w1.alloc (.cells (ubs n16).toArray 26)) w1.heap.size (ubs n16).toArray (ubs key).toArray 26 (0, 0) (At.new w1 _ _)); generalize ((w1.alloc (.cells (ubs n16).toArray 26)).setRow w1.heap.size (ubs key).toArray) = W2 at HB2 D2 ⊢)
    | (refine wpList_load_row rfl _ (.tmp 3) rfl w1.heap.size rfl 26 (ubs key).toArray (0, 0) _ D2.out Try.underlying26 rfl (size16_of HK.out) ?_)
    | (go_at_call 16; refine (HN.out _).mono ?_; rintro e w3 ⟨C, rfl, hC, hA, hb3⟩; have HC := hid hC; have HA := hid hA; have HB3 := hid hb3; clear hC hA hb3))
  case e3 => simp [ubs_length, n16_length, HK.out]
  go_ret
  have h1 := HB1.out.size
  have h2 := HB2.out.size
  exact ⟨C, rfl, Nat.le_trans h1 (Nat.le_trans h2 HC.out), HA.out, HB1.out.trans ((HB2.out.mono h1).trans (HB3.out.mono (Nat.le_trans h1 h2)))⟩
/-- An iterator: its counter, its cipher's place and its cipher. -/
structure Itr (key c : List UInt8) (g D C : Nat) (W : World) : Prop where
  ctr : At W g (ubs c).toArray 26
  own : At W D #[.pointer (some ⟨C, 0, none⟩)] 31
  ciph : At W C (ubs (rks key 11)).toArray 58
theorem Itr.below {key c : List UInt8} {g D C : Nat} {W W' : World} (h : Itr key c g D C W) (hb : Below W.heap.size W W') : Itr key c g D C W' := ⟨h.ctr.new_ hb, h.own.new_ hb, h.ciph.new_ hb⟩
set_option maxRecDepth 100000 in
set_option maxHeartbeats 1000000 in
theorem pblocks_any (key c : List UInt8) (p : Option Addr) (w : World) (hk : key.length = 16) (hc : Cip w key p) :
    Calls Try.prog 28 #[.pointer p, .agg (ubs c).toArray] w fun e w' => ∃ D C, e = .returned (.func (.func 38) #[] #[.pointer (some ⟨w.heap.size, 0, none⟩), .pointer (some ⟨D, 0, none⟩)]) ∧ w.heap.size ≤ D ∧ w.heap.size ≤ C ∧ Itr key c w.heap.size D C w' ∧ Below w.heap.size w w' := by
  obtain ⟨W0, hW0⟩ : ∃ W0, W0 = w.alloc (.cells (ubs c).toArray 26) := ⟨_, rfl⟩
  have hb0 : Below w.heap.size w W0 := by rw [hW0]; exact (Below.refl _ _).alloc (Nat.le_refl _) _
  have HB0 := hid hb0
  have HAT := hid (show At W0 w.heap.size (ubs c).toArray 26 by rw [hW0]; exact At.new _ _ _)
  have HAL := hid (alike_any key p W0 hk (hc.below hb0))
  clear hk hc hb0
  subst hW0
  go_enter Try.func28, Try.ntmps28
  go_wp2_with (go_at_call 37; refine HAL.out.mono ?_; rintro e w1 ⟨C, rfl, hC, hA, hb1⟩; have HC := hid hC; have HA := hid hA; have HB1 := hid hb1; clear hC hA hb1)
  go_ret
  have h0 := HB0.out.size
  have h1 := HB1.out.size
  exact ⟨w1.heap.size, C, rfl, Nat.le_trans h0 h1, Nat.le_trans h0 HC.out, ⟨(HAT.out.new_ HB1.out).alloc _, At.new _ _ _, HA.out.alloc _⟩, (HB0.out.trans (HB1.out.mono h0)).alloc (Nat.le_trans h0 h1) _⟩
end Go.Proofs.Ytenlidbgllahhaa
