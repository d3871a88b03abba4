/-
  Layer 12: StepGrows: the root behind any growing step.
-/
import Derived.Test.YtdegmcfcbndelaaDoorL6
namespace Go.Proofs.YtdegmcfcbndelaaDoor
open Go.RowKit

set_option maxRecDepth 100000 in
set_option maxHeartbeats 2000000 in
theorem stepGrows_law {w : World} (hA : Alive12C w) (root : List UInt8) (was blocks : Nat) (hl : root.length = 32) (h1 : was < 18446744073709551616) (h2 : blocks < 18446744073709551616) (hT : Tabs w) (hR : Tabr w) (hI : Tab w 1 IV.l) :
    Calls Tryd.prog 9 #[.agg (ubs root).toArray, .int .u64 (was : Int), .int .u64 (blocks : Int)] w fun r w' => r = .returned (.bool true) ∧ Below w.heap.size w w' := by
  have HAH := hid (fun (o : Oper) (a : Go.Act) (W : World) (h : o.op = .alloc 25) => run_alloc_of (o := o) (a := a) (W := W) _ h _ zeroH8)
  have HNL := hid n32_length
  have HAL := hid (fun (V : World) (b : Below w.heap.size w V) => hA V b)
  have HXL := hid hl
  have HNUM := hid (fun (k : Nat) V => enum_any k V)
  have HPG := hid (fun (V : World) (b : Below w.heap.size w V) => pgrow12_any root was blocks V hl h1 h2 (hT.below b))
  have HRG := hid (fun (V : World) (b : Below w.heap.size w V) => growR_any root was blocks V hl (hR.below b) (Tab.below (x := IV.a) (xs := [IV.b, IV.c, IV.d, IV.e, IV.f, IV.g, IV.h]) hI b))
  have HYL := hid (grE_length (was := was) (blocks := blocks) hl)
  have B0 := hid ((Below.refl w.heap.size w).alloc (Nat.le_refl _) (.cells (ubs root).toArray 25))
  have R0 := hid (show At (w.alloc (.cells (ubs root).toArray 25)) w.heap.size (ubs root).toArray 25 from At.new _ _ _)
  generalize grE root was blocks = y at HPG HRG HYL
  generalize (if hgB was blocks then 0 else 1 : Nat) = kx at HPG HRG
  clear hA hl h1 h2 hT hR hI
  go_enter Tryd.func9, Tryd.ntmps9
  go_wp2_with (first
    | (generalize (w.alloc (.cells (ubs root).toArray 25)) = w0 at B0 R0 ⊢; go_at_call 40; refine (HAL.out w0 B0.out).mono ?_; rintro r1 w1 ⟨rfl, hb1⟩; have B1 := hid (B0.out.trans (hb1.mono B0.out.size)); have R1 := hid (R0.out.new_ hb1); clear hb1)
    | (refine wpList_valW (by rfl) (run_loadH (.tmp 3) rfl w.heap.size 0 rfl root (range_whole R1.out) HXL.out) ?_; go_wp2_with (first
      | (go_at_call 50; refine (HPG.out w1 B1.out).mono ?_; rintro r2 w2 ⟨rfl, hb2⟩; have B2 := hid (B1.out.trans (hb2.mono B1.out.size)); have R2 := hid (R1.out.new_ hb2); clear hb2)
      | (refine Great.wpList_allocTo rfl _ rfl _ _ (HAH.out _ _ _ rfl) ?_)
      | (refine wpList_store_row rfl _ (.tmp 7) (.tmp 18) rfl w2.heap.size (ubs y).toArray rfl rfl 25 (ubs n32).toArray (At.new _ _ _) (sizeH_of HYL.out) (by simp [ubs_length, HNL.out, HYL.out]) (ubs_all _) ?_; have Bx3 := hid (show Below w2.heap.size w2 ((w2.alloc (.cells (ubs n32).toArray 25)).setRow w2.heap.size (ubs y).toArray) from below_setRow ((Below.refl _ _).alloc (Nat.le_refl _) _) (Nat.le_refl _) _); have X3 := hid (show At ((w2.alloc (.cells (ubs n32).toArray 25)).setRow w2.heap.size (ubs y).toArray) w2.heap.size (ubs y).toArray 25 from setRow_heap _ _ _ _ _ _ (At.new w2 (ubs n32).toArray 25)); have B3 := hid (B2.out.trans (Bx3.out.mono B2.out.size)); have R3 := hid (R2.out.new_ Bx3.out); clear Bx3; generalize ((w2.alloc (.cells (ubs n32).toArray 25)).setRow w2.heap.size (ubs y).toArray) = w3 at X3 B3 R3 ⊢; generalize w2.heap.size = G3 at X3 ⊢)
      | (refine wpList_valW (by rfl) (run_loadH (.tmp 3) rfl w.heap.size 0 rfl root (range_whole R3.out) HXL.out) ?_)
      | (go_at_call 51; refine (HRG.out w3 B3.out).mono ?_; rintro r4 w4 ⟨rfl, hb4⟩; have B4 := hid (B3.out.trans (hb4.mono B3.out.size)); have X4 := hid (X3.out.new_ hb4); clear hb4)
      | (refine wpList_store_row rfl _ (.tmp 9) (.tmp 25) rfl w4.heap.size (ubs y).toArray rfl rfl 25 (ubs n32).toArray (At.new _ _ _) (sizeH_of HYL.out) (by simp [ubs_length, HNL.out, HYL.out]) (ubs_all _) ?_; have Bx5 := hid (show Below w4.heap.size w4 ((w4.alloc (.cells (ubs n32).toArray 25)).setRow w4.heap.size (ubs y).toArray) from below_setRow ((Below.refl _ _).alloc (Nat.le_refl _) _) (Nat.le_refl _) _); have Y5 := hid (show At ((w4.alloc (.cells (ubs n32).toArray 25)).setRow w4.heap.size (ubs y).toArray) w4.heap.size (ubs y).toArray 25 from setRow_heap _ _ _ _ _ _ (At.new w4 (ubs n32).toArray 25)); have B5 := hid (B4.out.trans (Bx5.out.mono B4.out.size)); have X5 := hid (X4.out.new_ Bx5.out); clear Bx5; generalize ((w4.alloc (.cells (ubs n32).toArray 25)).setRow w4.heap.size (ubs y).toArray) = w5 at Y5 B5 X5 ⊢; generalize w4.heap.size = G5 at Y5 ⊢)
      | (refine wpList_valW (by rfl) (run_loadH (.tmp 7) rfl G3 0 rfl y (range_whole X5.out) HYL.out) ?_)
      | (refine wpList_valW (by rfl) (run_loadH (.tmp 9) rfl G5 0 rfl y (range_whole Y5.out) HYL.out) ?_)
      | (refine wpList_valW (by rfl) (run_eqlH _ (.tmp 27) (.tmp 28) rfl y y HYL.out HYL.out rfl rfl true (by simp) _) ?_)
      | (go_at_call 44; refine (HNUM.out kx _).mono ?_; rintro r6 w6 ⟨rfl, hw6⟩; rw [← hw6]; clear hw6))))
  go_ret
  exact ⟨rfl, B5.out⟩
end Go.Proofs.YtdegmcfcbndelaaDoor
