/-
  The program's layer 7: a block turned.
-/
import Derived.Test.YtnaihcoafgigcaaDoorUc
import Derived.Test.YtnaihcoafgigcaaDoorUb
import Derived.Test.YtnaihcoafgigcaaDoorGi
import Derived.Test.YtnaihcoafgigcaaDoorSe
namespace Go.Proofs.YtnaihcoafgigcaaDoor
open Go.RowKit

theorem run_arrayAt32 (D : Nat) (W : World) : (Instr.arrayAt 28 (.slice (some ⟨D, 0, none⟩) 32 32)).run Tryd.prog W = .ok (.pointer (some ⟨D, 0, none⟩)) W := by
  simp [Instr.arrayAt, run_underlying Tryd.underlying28]
/-- What holds in turned: the block, the result, the counter, the sealer. -/
structure PtW (w : World) (b c r t : List UInt8) (C S : Nat) (W : World) : Prop where
  blk : At W w.heap.size (ubs b).toArray 28
  res : At W (w.heap.size + 1) (ubs n32).toArray 28
  ctr : At W (w.heap.size + 2) (ubs c).toArray 22
  ci : At W C (ubs r).toArray 94
  sl : At W S (slv C t).toArray 68
  below : Below w.heap.size w W
section
variable {w W W' : World} {b c r t : List UInt8} {C S : Nat}
theorem PtW.new (h : PtW w b c r t C S W) (hb : Below W.heap.size W W') : PtW w b c r t C S W' := ⟨h.blk.new_ hb, h.res.new_ hb, h.ctr.new_ hb, h.ci.new_ hb, h.sl.new_ hb, h.below.trans (hb.mono h.below.size)⟩
theorem PtW.drew (h : PtW w b c r t C S W) : PtW w b c r t C S W.drew := ⟨h.blk, h.res, h.ctr, h.ci, h.sl, h.below.drew⟩
theorem PtW.start (b : List UInt8) (h1 : At w C (ubs r).toArray 94) (h2 : At w S (slv C t).toArray 68) :
    PtW w b n16 r t C S (((w.alloc (.cells (ubs b).toArray 28)).alloc (.cells (ubs n32).toArray 28)).alloc (.cells (ubs n16).toArray 22)) :=
  ⟨((At.new _ _ _).alloc _).alloc _, (At.new_at (by simp)).alloc _, At.new_at (by simp), ((h1.alloc _).alloc _).alloc _, ((h2.alloc _).alloc _).alloc _, (((Below.refl w.heap.size w).alloc (Nat.le_refl _) _).alloc (by simp) _).alloc (by simp; omega) _⟩
theorem PtW.fill {d : List UInt8} (h : PtW w b c r t C S W) (hC : C < w.heap.size) (hS : S < w.heap.size) (hA : At W' (w.heap.size + 2) (ubs d).toArray 22) (hF : Fr (fun k => k = w.heap.size + 2) W W') : PtW w b d r t C S W' :=
  ⟨h.blk.fr hF (by omega), h.res.fr hF (by omega), hA, h.ci.fr hF (by omega), h.sl.fr hF (by omega), ((Fr.of_below (S := fun k => w.heap.size ≤ k) h.below (fun _ _ h => h)).next hF (fun k hk e => by omega)).below (fun _ h => h) (Nat.le_refl _)⟩
theorem sl_ptr (h : At W S (slv C t).toArray 68) : W.cell? ⟨S, 0, none⟩ = some (.pointer (some ⟨C, 0, none⟩)) := by
  rw [h.cell]
  rfl
theorem sl_rb (h : At W S (slv C t).toArray 68) : Rb W W.heap.size (some ⟨S, 1, none⟩) t := fun _ => ⟨S, 1, rfl, h.lt, range_vals (a := [.pointer (some ⟨C, 0, none⟩)]) (m := ubs t) (z := []) h (by simp [slv])⟩
end
/-- What turned's last region yields. -/
def ptF (w : World) (c u : List UInt8) (C S : Nat) (i : Nat) (v : Value) (W : World) : Prop :=
  match i with
  | 0 => v = .pointer (some ⟨S, 0, none⟩)
  | 1 => v = .pointer (some ⟨S, 0, none⟩)
  | 2 => v = .pointer (some ⟨S, 0, none⟩)
  | 3 => v = .pointer (some ⟨C, 0, none⟩)
  | 4 => v = .agg (ubs c).toArray
  | 5 => v = .slice (some ⟨w.heap.size, 0, none⟩) 32 32
  | 6 => ∃ g, v = .slice (some ⟨g, 0, none⟩) 32 32 ∧ At W g (ubs u).toArray 5
  | 7 => ∃ g, v = .pointer (some ⟨g, 0, none⟩) ∧ At W g (ubs u).toArray 5
  | _ => v = .agg (ubs u).toArray
theorem ptF_new {w : World} {c u : List UInt8} {C S i : Nat} {v : Value} {W W' : World} (h : ptF w c u C S i v W) (hb : Below W.heap.size W W') : ptF w c u C S i v W' := by
  rcases i with _ | _ | _ | _ | _ | _ | _ | _ | i
  iterate 6 exact h
  · obtain ⟨C, h1, h2⟩ := h; exact ⟨C, h1, h2.new_ hb⟩
  · obtain ⟨C, h1, h2⟩ := h; exact ⟨C, h1, h2.new_ hb⟩
  · exact h
set_option maxRecDepth 100000 in
set_option maxHeartbeats 1000000 in
theorem psturned_any (key b : List UInt8) (i e S : Nat) (A : Option Addr) (cc : Nat) (w : World) (hb : b.length = 32) (hS : SlA w key S) (hA : Rb w w.heap.size A (placeL i e)) :
    Calls Tryd.prog 25 #[.pointer (some ⟨S, 0, none⟩), .slice A 12 cc, .agg (ubs b).toArray] w fun r w' => r = .returned (.agg (ubs (turnedL key i e b)).toArray) ∧ Below w.heap.size w w' := by
  obtain ⟨C, h1, h2⟩ := hS
  have H0 := hid (PtW.start b h1 h2)
  have HC := hid h1.lt
  have HS := hid h2.lt
  have HR := hid (((hA.below (((Below.refl w.heap.size w).alloc (Nat.le_refl _) (.cells (ubs b).toArray 28)).alloc (by simp) (.cells (ubs n32).toArray 28))).alloc (.cells (ubs n16).toArray 22)).mono (B' := w.heap.size + 3) (by omega))
  have HTR := hid (fun (W : World) (h : PtW w b (placeC i e) (rks (keyEnc key) 11) (keyTag key) C S W) => pturn_any (keyEnc key) (placeC i e) b (some ⟨C, 0, none⟩) (some ⟨w.heap.size, 0, none⟩) 32 W (keyEnc_length key) (placeC_length i e) (Or.inr ⟨C, rfl, h.ci⟩) (rb_at h.blk) (by omega))
  rw [hb] at HTR
  have HSP := hid (splice_place i e)
  have HPL := hid (placeL_length i e)
  have HCL := hid (placeC_length i e)
  have HUL := hid (show (turnedL key i e b).length = 32 by rw [turnedL_length, hb])
  have HUD := hid (show turnL (rks (keyEnc key) 11) (placeC i e) b = turnedL key i e b from rfl)
  rw [HUD.out] at HTR
  have hz := noughts32
  have hz16 := noughts16
  generalize turnedL key i e b = u at HTR HUL ⊢
  generalize rks (keyEnc key) 11 = r at H0 HTR
  generalize keyTag key = t at H0 HTR
  generalize placeC i e = c at HTR HSP HCL
  clear hb h1 h2 hA HUD
  go_enter Tryd.func25, Tryd.ntmps25
  go_upto_region 3 with (first
    | (refine wpList_copy_rd rfl (.tmp 8) (.tmp 9) _ _ rfl 5 Tryd.underlying55 sizeU8 (w.heap.size + 2) 0 16 16 (w.heap.size + 3) A 12 cc rfl rfl (ubs n16) 22 H0.out.ctr (ubs (placeL i e)) HR.out (by rw [ubs_length, HPL.out]) (by rw [ubs_length, n16_length]; omega) (ubs_one _) ?_; intro w2 hA2 hF2; rw [HSP.out] at hA2; have H1 := hid (H0.out.fill HC.out HS.out hA2 hF2); clear hA2 hF2))
  clear H0 HR
  refine wp_region_facts 9 10 [11, 12, 13, 14, 15, 16, 17, 18, 19] (ptF w c u C S) (PtW w b c r t C S) (by kernel_rfl) (by kernel_rfl)
    (fun W W' h hb => h.new hb) (fun _ _ _ _ h hb => ptF_new h hb) (H1.out.drew) ?_ ?_
  · intro i hi vals W K hB hn hK
    simp only [frm_cons, frm_nil, List.set_cons_succ, List.set_cons_zero, Nat.reduceAdd] at hK ⊢
    rcases (by omega : i = 0 ∨ i = 1 ∨ i = 2 ∨ i = 3 ∨ i = 4 ∨ i = 5 ∨ i = 6 ∨ i = 7 ∨ i = 8) with rfl | rfl | rfl | rfl | rfl | rfl | rfl | rfl | rfl
    · refine wpOp_plain rfl rfl (wp_val (w' := W) (v := .pointer (some ⟨S, 0, none⟩)) (by go_simp) ?_)
      exact hK _ _ rfl (Below.refl _ _)
    · have h0 := hn 0 (by decide +kernel)
      simp only [ptF] at h0
      simp only [h0] at hK ⊢
      refine wpOp_plain rfl rfl (wp_val (w' := W) (v := .pointer (some ⟨S, 0, none⟩)) (by go_simp) ?_)
      exact hK _ _ rfl (Below.refl _ _)
    · have h1 := hn 1 (by decide +kernel)
      simp only [ptF] at h1
      simp only [h1] at hK ⊢
      refine wpOp_plain rfl rfl (wp_val (w' := W) (v := .pointer (some ⟨S, 0, none⟩)) (by go_simp) ?_)
      exact hK _ _ rfl (Below.refl _ _)
    · have h2 := hn 2 (by decide +kernel)
      simp only [ptF] at h2
      simp only [h2] at hK ⊢
      have q := sl_ptr hB.sl
      refine wpOp_plain rfl rfl (wp_val (w' := W) (v := .pointer (some ⟨C, 0, none⟩)) (by go_simp) ?_)
      exact hK _ _ rfl (Below.refl _ _)
    · refine wpOp_plain rfl rfl (wp_val (run_load16 (.tmp 7) rfl (w.heap.size + 2) 0 rfl c (range_whole hB.ctr) HCL.out) ?_)
      exact hK _ _ rfl (Below.refl _ _)
    · refine wpOp_plain rfl rfl (wp_val (w' := W) (v := .slice (some ⟨w.heap.size, 0, none⟩) 32 32) (by go_simp) ?_)
      exact hK _ _ rfl (Below.refl _ _)
    · have h3 := hn 3 (by decide +kernel)
      have h4 := hn 4 (by decide +kernel)
      have h5 := hn 5 (by decide +kernel)
      simp only [ptF] at h3 h4 h5
      simp only [h3, h4, h5] at hK ⊢
      refine wpOp_plain rfl rfl ?_
      go_simp
      go_at_call 42
      refine (HTR.out W hB).mono ?_
      rintro e W' ⟨g, rfl, -, hA, hb⟩
      exact hK _ _ ⟨g, rfl, hA⟩ hb
    · have h6 := hn 6 (by decide +kernel)
      obtain ⟨g6, e6, A6⟩ := h6
      simp only [e6] at hK ⊢
      have hu := run_arrayAt32 g6 W
      refine wpOp_plain rfl rfl (wp_val (w' := W) (v := .pointer (some ⟨g6, 0, none⟩)) (by go_simp) ?_)
      exact hK _ _ ⟨g6, rfl, A6⟩ (Below.refl _ _)
    · have h7 := hn 7 (by decide +kernel)
      obtain ⟨g7, e7, A7⟩ := h7
      simp only [e7] at hK ⊢
      refine wpOp_plain rfl rfl (wp_val (run_loadB (.tmp 18) rfl g7 0 rfl u (range_whole A7) HUL.out) ?_)
      exact hK _ _ rfl (Below.refl _ _)
  · intro vals W hB hF
    have h0 := hF 0 (by omega)
    have h1 := hF 1 (by omega)
    have h2 := hF 2 (by omega)
    have h3 := hF 3 (by omega)
    have h4 := hF 4 (by omega)
    have h5 := hF 5 (by omega)
    have h6 := hF 6 (by omega)
    have h7 := hF 7 (by omega)
    have h8 := hF 8 (by omega)
    simp only [ptF] at h0 h1 h2 h3 h4 h5 h8
    obtain ⟨g6, e6, A6⟩ := h6
    obtain ⟨g7, e7, A7⟩ := h7
    simp only [frm_cons, frm_nil, List.set_cons_succ, List.set_cons_zero, Nat.reduceAdd, h0, h1, h2, h3, h4, h5, e6, e7, h8]
    have HE := hid hB
    clear hB hF A6 A7
    refine wpUpto_one (i := 9) rfl (by decide +kernel) rfl ?_
    intro Q0 hQ0
    refine wp_store_row 28 (.tmp 6) (.tmp 19) rfl (w.heap.size + 1) (ubs u).toArray rfl rfl 28 (ubs n32).toArray HE.out.res (sizeBk_of HUL.out) (by simp [ubs_length, n32_length, HUL.out]) (ubs_all _) ?_
    refine hQ0.out _ _ (fun _ => trivial) ?_
    clear hQ0 Q0
    refine wpUpto_done (by decide +kernel) ?_ _
    go_simp
    go_wp2
    refine bodyPost_ret (results_cell_row rfl _ _ (w.heap.size + 1) 28 (ubs u).toArray (0, 0) _ rfl (setRow_heap _ _ _ _ _ _ HE.out.res) Tryd.underlying28 rfl (sizeBk_of HUL.out)) rfl ?_
    exact ⟨rfl, below_setRow HE.out.below (by omega) _⟩
end Go.Proofs.YtnaihcoafgigcaaDoor
