/-
  ShaBlocks, walked.
-/
import Derived.Test.YtnhkfmjmjhbjgaaDoorCe
import Derived.Test.YtnhkfmjmjhbjgaaDoorRc
import Derived.Test.YtnhkfmjmjhbjgaaDoorReg
namespace Go.Proofs.YtnhkfmjmjhbjgaaDoor
open Go.RowKit

/-- The two arguments as they lie. -/
structure LbW (w : World) (s : S8) (bs : List UInt8) (W : World) : Prop where
  st : At W w.heap.size (us s.l).toArray 33
  blk : At W (w.heap.size + 1) (ubs bs).toArray 34
  below : Below w.heap.size w W
theorem LbW.next {w W W' : World} {s : S8} {bs : List UInt8} (h : LbW w s bs W) (hb : Below W.heap.size W W') : LbW w s bs W' :=
  ⟨h.st.new_ hb, h.blk.new_ hb, h.below.trans (hb.mono h.below.size)⟩
theorem LbW.drew {w W : World} {s : S8} {bs : List UInt8} (h : LbW w s bs W) : LbW w s bs W.drew := ⟨h.st, h.blk, ⟨h.below.os, h.below.tape, h.below.output, h.below.size, h.below.block⟩⟩
set_option maxRecDepth 100000 in
set_option maxHeartbeats 4000000 in
theorem blocks_law (s : S8) (bs : List UInt8) (w : World) (hl : bs.length = 64) (hT : Tabs w) :
    Calls Tryd.prog 5 #[.agg (us s.l).toArray, .agg (ubs bs).toArray] w fun e w' => e = .returned (.bool true) ∧ Below w.heap.size w w' := by
  obtain ⟨W0, hW0⟩ : ∃ W0, W0 = (w.alloc (.cells (us s.l).toArray 33)).alloc (.cells (ubs bs).toArray 34) := ⟨_, rfl⟩
  have h0 : LbW w s bs W0 := by
    rw [hW0]
    exact ⟨(At.new _ _ _).alloc _, At.new_at (by simp), ((Below.refl _ _).alloc (Nat.le_refl _) _).alloc (by simp) _⟩
  have HT := hid hT
  have HT0 := hid (hT.below h0.below)
  have H0 := hid h0
  have HL := hid hl
  have HZ := hid (show (Tryd.prog.info? 34).map (·.size) = some (ubs bs).toArray.size by rw [sizeB64]; simp [ubs_length, hl])
  have HS := hid (show (Tryd.prog.info? 33).map (·.size) = some (us s.l).toArray.size by rw [sizeSt]; simp [us_length, l_length])
  clear hT h0 hl
  subst hW0
  go_enter Tryd.func5, Tryd.ntmps5
  go_wp2_with (go_at_call 7; refine (alive_any _ HT0.out).mono ?_; rintro e w1 ⟨rfl, hb1⟩; have H1 := hid (H0.out.next hb1); clear hb1)
  have H1d := hid H1.out.drew
  refine wp_region_upto (LbW w s bs) 8 8 (by kernel_rfl) (by kernel_rfl) ?_
  refine wpUpto_take (i := 0) (v := .agg (us s.l).toArray) rfl (by kernel_rfl) (by kernel_rfl) (by kernel_rfl) (by kernel_rfl) (by decide) (fun _ _ _ h => h) (Or.inl ⟨by rfl, ?_⟩) H1d.out ?_
  · (intro W hSW; refine run_load_row _ (.tmp 2) ?_ w.heap.size ?_ 33 (us s.l).toArray _ hSW.st Tryd.underlying33 rfl HS.out <;> rfl)
  refine wpUpto_take (i := 1) (v := .agg (ubs bs).toArray) rfl (by kernel_rfl) (by kernel_rfl) (by kernel_rfl) (by kernel_rfl) (by decide) (fun _ _ _ h => h) (Or.inl ⟨by rfl, ?_⟩) H1d.out ?_
  · (intro W hSW; refine run_load_row _ (.tmp 3) ?_ (w.heap.size + 1) ?_ 34 (ubs bs).toArray _ hSW.blk Tryd.underlying34 rfl HZ.out <;> rfl)
  refine wpUpto_take (i := 3) (v := .agg (us s.l).toArray) rfl (by kernel_rfl) (by kernel_rfl) (by kernel_rfl) (by kernel_rfl) (by decide) (fun _ _ _ h => h) (Or.inl ⟨by rfl, ?_⟩) H1d.out ?_
  · (intro W hSW; refine run_load_row _ (.tmp 2) ?_ w.heap.size ?_ 33 (us s.l).toArray _ hSW.st Tryd.underlying33 rfl HS.out <;> rfl)
  refine wpUpto_take (i := 4) (v := ?_) rfl (by kernel_rfl) (by kernel_rfl) (by kernel_rfl) (by kernel_rfl) (by decide) (fun _ _ _ h => h) (Or.inl ⟨by rfl, ?_⟩) H1d.out ?_
  rotate_left
  · (intro W hSW; go_simp; rfl)
  simp only [Act.put, List.setIfInBounds_toArray]
  refine wpUpto_one (i := 2) rfl (by kernel_rfl) rfl ?_
  intro K hK
  go_simp
  go_at_call 14
  refine (compress_any s bs _ HL.out (HT.out.below H1d.out.below)).mono ?_
  rintro e w4 ⟨rfl, hb4⟩
  have H4 := hid (H1d.out.next hb4)
  clear hb4
  refine hK.out _ _ (fun _ => H4.out) ?_
  clear hK K
  refine wpUpto_one (i := 5) rfl (by kernel_rfl) rfl ?_
  intro K hK
  go_simp
  go_at_call 15
  refine (compressR_any s bs (some ⟨w.heap.size + 1, 0, none⟩) 64 _ HL.out (Rd.of_at H4.out.blk 0 (fun j u hj => by rw [Nat.zero_add, List.getElem?_toArray]; exact hj) H4.out.blk.lt) (HT.out.below H4.out.below)).mono ?_
  rintro e w5 ⟨rfl, hb5⟩
  have H5 := hid (H4.out.next hb5)
  clear hb5
  refine hK.out _ _ (fun _ => H5.out) ?_
  clear hK K
  refine wpUpto_take (i := 6) (v := .bool true) rfl (by kernel_rfl) (by kernel_rfl) (by kernel_rfl) (by kernel_rfl) (by decide) (fun _ _ _ h => h) (Or.inl ⟨by rfl, ?_⟩) H5.out ?_
  · (intro W _; exact run_eql_op _ _ (.tmp 9) (.tmp 12) rfl _ _ rfl rfl guardS8 true W (eql_state W (comp s bs).l (l_length _)))
  refine wpUpto_take (i := 7) (v := .bool true) rfl (by kernel_rfl) (by kernel_rfl) (by kernel_rfl) (by kernel_rfl) (by decide) (fun _ _ _ h => h) (Or.inl ⟨by rfl, ?_⟩) H5.out ?_
  · (intro W hSW; go_simp)
  refine wpUpto_done (by kernel_rfl) ?_ _
  go_simp
  go_wp2
  go_ret
  exact ⟨rfl, H5.out.below⟩
end Go.Proofs.YtnhkfmjmjhbjgaaDoor
