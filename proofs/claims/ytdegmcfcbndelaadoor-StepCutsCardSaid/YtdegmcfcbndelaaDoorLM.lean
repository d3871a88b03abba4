/-
  Layer 12: StepCuts, one of its ways.
  Layer 12: StepCuts, one of its ways.
-/
import Derived.Test.YtdegmcfcbndelaaDoorYj
namespace Go.Proofs.YtdegmcfcbndelaaDoor
open Go.RowKit

set_option maxRecDepth 100000 in
set_option maxHeartbeats 4000000 in
theorem stepCuts_Zy {w : World} (hA : Alive12C w) (leaf path : List UInt8) (n c a b cr : Nat) (A AR : Option Addr) (hl : leaf.length = 32) (h1 : a < 18446744073709551616) (h2 : b < 18446744073709551616) (hc : n ≤ c) (hp : path.length = 32 * n) (hr : Rd w w.heap.size A (ubs path)) (hT : Tabs w) (hR : Tabr w) (hI : Tab w 1 IV.l) (hn : n ≤ 60) (hb : b = 0) (ht : ftB a n = true) :
    Calls Tryd.prog 8 #[.agg (cutV leaf A n c).toArray, .agg #[.int .u64 (a : Int), .int .u64 (b : Int)], .slice AR 0 cr] w fun r w' => r = .returned (.bool true) ∧ Below w.heap.size w w' := by
  have HFL := hid hl
  have d5 : decide (0 < (b : Int)) = false := by simp; omega
  have d5n : decide (0 < b) = false := by simp; omega
  obtain ⟨C, hC⟩ : ∃ C, C = cutV leaf A n c := ⟨_, rfl⟩
  obtain ⟨S, hS⟩ : ∃ S : Array Value, S = #[.int .u64 (a : Int), .int .u64 (b : Int)] := ⟨_, rfl⟩
  have HC := hid hC
  have K0 := hid (ScW.start (W := w) (leaf := leaf) (A := A) (n := n) (c := c) (a := a) (b := b))
  rw [← hC, ← hS] at K0
  rw [← hC, ← hS]
  have HAL := hid (fun (V : World) (b : Below w.heap.size w V) => hA V b)
  have HRL := hid h3_length
  have HF2 := hid (fun (V : World) => show Calls Tryd.prog 45 #[.int .u64 (a : Int), .int .i64 (n : Int)] V (fun r V' => r = .returned (.bool true) ∧ V' = V) from by
    have := fitsR_any a n h1 (by omega) V
    rw [ht] at this
    exact this)
  have HAF := hid (fun (V : World) (k : Below w.heap.size w V) => pcutAfter_any leaf h3 path n c a b A V HRL.out hl h1 h2 hc hp ((hr.below k).mono k.size) (hT.below k))
  have HRC := hid (fun (V : World) (k : Below w.heap.size w V) => cutR_any h3 leaf path n c a b A V HRL.out hl h2 hp ((hr.below k).mono k.size) (hR.below k) (Tab.below (x := IV.a) (xs := [IV.b, IV.c, IV.d, IV.e, IV.f, IV.g, IV.h]) hI k))
  have HPC := hid (fun (V : World) (k : Below w.heap.size w V) => show Calls Tryd.prog 49 #[.agg (ubs leaf).toArray, .int .u64 (a : Int), .slice A n c] V (fun r V' => r = .returned (.tuple #[.agg (ubs (climbH leaf path a n)).toArray, .nilIface]) ∧ Below V.heap.size V V') from by
    have := pClimb_any leaf path a n c A V hl h1 hp ((hr.below k).mono k.size) (hT.below k)
    unfold clE at this
    rw [ht] at this
    exact this)
  have ha32 : n ≤ 32 := by unfold ftB at ht; simp at ht; omega
  have HRX := hid (fun (V : World) (k : Below w.heap.size w V) => climbR12_any leaf path a n c A V hl ha32 h1 hp ((hr.below k).mono k.size) (hR.below k) (Tab.below (x := IV.a) (xs := [IV.b, IV.c, IV.d, IV.e, IV.f, IV.g, IV.h]) hI k))
  have HXL := hid (climbH_length (path := path) (i := a) hl n)
  generalize climbH leaf path a n = x at HPC HRX HXL
  have HYL := hid (ctE_length (root := h3) (path := path) (n := n) (was := a) (blocks := b) hl)
  generalize ctE h3 leaf path n a b = y at HAF HRC HYL
  generalize ctN h3 leaf path n a b = ky at HAF HRC
  rw [← hC] at HAF
  have HSZC := hid (show C.length = 33 by rw [hC]; exact cutV_length hl)
  have HAH := hid (fun (o : Oper) (a : Go.Act) (W : World) (h : o.op = .alloc 25) => run_alloc_of (o := o) (a := a) (W := W) _ h _ zeroH8)
  have HNL := hid n32_length
  have HNUM := hid (fun (k : Nat) V => enum_any k V)
  have HKC := hid (fun (V : World) (k : ScW w leaf A n c a b V) => show At V w.heap.size C.toArray 83 from by rw [hC]; exact k.cu)
  have H3L := hid h3_length
  have d1 : decide (60 < (n : Int)) = false := by simp; omega
  have d1n : decide (60 < n) = false := by simp; omega
  clear hC hS hA hl h1 h2 hc hp hr hT hR hI hn ht hb ha32
  go_enter Tryd.func8, Tryd.ntmps8
  go_upto_region 3 with (first
    | (generalize ((w.alloc (.cells C.toArray 83)).alloc (.cells S 84)) = w0 at K0 ⊢; go_at_call 40; refine (HAL.out w0 K0.out.bl).mono ?_; rintro r1 w1 ⟨rfl, hb1⟩; have K1 := hid (K0.out.new hb1); clear hb1; have sA := K1.out.s0; have sB := K1.out.s1; have sC := cutV_cell K1.out.cu HFL.out))
  go_upto_region 5 with fail
  go_upto_region 6 with (first
    | (refine wpList_valW (by rfl) (run_build_h3 rfl) ?_)
    | (refine Great.wpList_allocTo rfl _ rfl _ _ (HAH.out _ _ _ rfl) ?_)
    | (refine wpList_store_row rfl _ (.tmp 7) (.tmp 24) rfl w1.heap.size (ubs h3).toArray rfl rfl 25 (ubs n32).toArray (At.new _ _ _) (sizeH_of H3L.out) (by simp [ubs_length, HNL.out, H3L.out]) (ubs_all _) ?_; have Bx := hid (show Below w1.heap.size w1 ((w1.alloc (.cells (ubs n32).toArray 25)).setRow w1.heap.size (ubs h3).toArray) from below_setRow ((Below.refl _ _).alloc (Nat.le_refl _) _) (Nat.le_refl _) _); have X2 := hid (show At ((w1.alloc (.cells (ubs n32).toArray 25)).setRow w1.heap.size (ubs h3).toArray) w1.heap.size (ubs h3).toArray 25 from setRow_heap _ _ _ _ _ _ (At.new w1 (ubs n32).toArray 25)); have K2 := hid (K1.out.new Bx.out); have LX2 := hid (K1.out.far); clear Bx sA sB sC; generalize ((w1.alloc (.cells (ubs n32).toArray 25)).setRow w1.heap.size (ubs h3).toArray) = w2 at X2 K2 ⊢; generalize w1.heap.size = G at X2 LX2 ⊢; have sA := K2.out.s0; have sB := K2.out.s1; have sC := cutV_cell K2.out.cu HFL.out))
  go_upto_region 8 with fail
  go_upto_region 10 with fail
  go_upto_region 11 with (first
    | (refine wpList_valW (by rfl) (run_loadC12 (.tmp 3) rfl w.heap.size rfl C (HKC.out _ K2.out) HSZC.out) ?_)
    | (refine wpList_valW (by rfl) (run_loadH (.tmp 7) rfl G 0 rfl h3 (range_whole X2.out) HRL.out) ?_)
    | (go_at_call 47; refine (HAF.out w2 K2.out.bl).mono ?_; rintro r5 w5 ⟨rfl, hb5⟩; have K5 := hid (K2.out.new hb5); have X5 := hid (X2.out.new_ hb5); clear hb5 sA sB sC; have sA := K5.out.s0; have sB := K5.out.s1; have sC := cutV_cell K5.out.cu HFL.out)
    | (refine Great.wpList_allocTo rfl _ rfl _ _ (HAH.out _ _ _ rfl) ?_)
    | (refine wpList_store_row rfl _ (.tmp 8) (.tmp 59) rfl w5.heap.size (ubs y).toArray rfl rfl 25 (ubs n32).toArray (At.new _ _ _) (sizeH_of HYL.out) (by simp [ubs_length, HNL.out, HYL.out]) (ubs_all _) ?_; have Bx := hid (show Below w5.heap.size w5 ((w5.alloc (.cells (ubs n32).toArray 25)).setRow w5.heap.size (ubs y).toArray) from below_setRow ((Below.refl _ _).alloc (Nat.le_refl _) _) (Nat.le_refl _) _); have Y6 := hid (show At ((w5.alloc (.cells (ubs n32).toArray 25)).setRow w5.heap.size (ubs y).toArray) w5.heap.size (ubs y).toArray 25 from setRow_heap _ _ _ _ _ _ (At.new w5 (ubs n32).toArray 25)); have K6 := hid (K5.out.new Bx.out); have LY6 := hid (K5.out.far); have X6 := hid (X5.out.new_ Bx.out); clear Bx sA sB sC; generalize ((w5.alloc (.cells (ubs n32).toArray 25)).setRow w5.heap.size (ubs y).toArray) = w6 at Y6 K6 X6 ⊢; generalize w5.heap.size = G8 at Y6 LY6 ⊢; have sA := K6.out.s0; have sB := K6.out.s1; have sC := cutV_cell K6.out.cu HFL.out))
  go_upto_region 12 with (first
    | (refine wpList_valW (by rfl) (run_loadH (.tmp 7) rfl G 0 rfl h3 (range_whole X6.out) HRL.out) ?_)
    | (refine wpList_valW (by rfl) (run_loadH (.tmp 63) rfl w.heap.size 0 rfl leaf (cutV_range K6.out.cu) HFL.out) ?_)
    | (go_at_call 48; refine (HRC.out w6 K6.out.bl).mono ?_; rintro r7 w7 ⟨rfl, hb7⟩; have K7 := hid (K6.out.new hb7); have Y7 := hid (Y6.out.new_ hb7); clear hb7 sA sB sC; have sA := K7.out.s0; have sB := K7.out.s1; have sC := cutV_cell K7.out.cu HFL.out)
    | (refine Great.wpList_allocTo rfl _ rfl _ _ (HAH.out _ _ _ rfl) ?_)
    | (refine wpList_store_row rfl _ (.tmp 10) (.tmp 72) rfl w7.heap.size (ubs y).toArray rfl rfl 25 (ubs n32).toArray (At.new _ _ _) (sizeH_of HYL.out) (by simp [ubs_length, HNL.out, HYL.out]) (ubs_all _) ?_; have Bx := hid (show Below w7.heap.size w7 ((w7.alloc (.cells (ubs n32).toArray 25)).setRow w7.heap.size (ubs y).toArray) from below_setRow ((Below.refl _ _).alloc (Nat.le_refl _) _) (Nat.le_refl _) _); have Z8 := hid (show At ((w7.alloc (.cells (ubs n32).toArray 25)).setRow w7.heap.size (ubs y).toArray) w7.heap.size (ubs y).toArray 25 from setRow_heap _ _ _ _ _ _ (At.new w7 (ubs n32).toArray 25)); have K8 := hid (K7.out.new Bx.out); have LZ8 := hid (K7.out.far); have Y8 := hid (Y7.out.new_ Bx.out); clear Bx sA sB sC; generalize ((w7.alloc (.cells (ubs n32).toArray 25)).setRow w7.heap.size (ubs y).toArray) = w8 at Z8 K8 Y8 ⊢; generalize w7.heap.size = G10 at Z8 LZ8 ⊢; have sA := K8.out.s0; have sB := K8.out.s1; have sC := cutV_cell K8.out.cu HFL.out))
  go_upto_region 14 with (first
    | (refine wpList_valW (by rfl) (run_loadH (.tmp 8) rfl G8 0 rfl y (range_whole Y8.out) HYL.out) ?_)
    | (refine wpList_valW (by rfl) (run_loadH (.tmp 10) rfl G10 0 rfl y (range_whole Z8.out) HYL.out) ?_)
    | (refine wpList_valW (by rfl) (run_neqH _ (.tmp 74) (.tmp 75) rfl y y HYL.out HYL.out rfl rfl false (by simp) _) ?_)
    | (go_at_call 44; refine (HNUM.out ky _).mono ?_; rintro rn wn ⟨rfl, hwn⟩; rw [← hwn]; clear hwn))
  go_upto_region 15 with (first
    | (refine wpList_valW (by rfl) (run_loadH (.tmp 84) rfl w.heap.size 0 rfl leaf (cutV_range K8.out.cu) HFL.out) ?_)
    | (go_at_call 49; refine (HPC.out w8 K8.out.bl).mono ?_; rintro r9 w9 ⟨rfl, hb9⟩; have K9 := hid (K8.out.new hb9); clear hb9 sA sB sC; have sA := K9.out.s0; have sB := K9.out.s1; have sC := cutV_cell K9.out.cu HFL.out)
    | (refine Great.wpList_allocTo rfl _ rfl _ _ (HAH.out _ _ _ rfl) ?_)
    | (refine wpList_store_row rfl _ (.tmp 12) (.tmp 91) rfl w9.heap.size (ubs x).toArray rfl rfl 25 (ubs n32).toArray (At.new _ _ _) (sizeH_of HXL.out) (by simp [ubs_length, HNL.out, HXL.out]) (ubs_all _) ?_; have Bx := hid (show Below w9.heap.size w9 ((w9.alloc (.cells (ubs n32).toArray 25)).setRow w9.heap.size (ubs x).toArray) from below_setRow ((Below.refl _ _).alloc (Nat.le_refl _) _) (Nat.le_refl _) _); have Xa := hid (show At ((w9.alloc (.cells (ubs n32).toArray 25)).setRow w9.heap.size (ubs x).toArray) w9.heap.size (ubs x).toArray 25 from setRow_heap _ _ _ _ _ _ (At.new w9 (ubs n32).toArray 25)); have Ka := hid (K9.out.new Bx.out); have LXa := hid (K9.out.far); clear Bx sA sB sC; generalize ((w9.alloc (.cells (ubs n32).toArray 25)).setRow w9.heap.size (ubs x).toArray) = wa at Xa Ka ⊢; generalize w9.heap.size = G12 at Xa LXa ⊢; have sA := Ka.out.s0; have sB := Ka.out.s1; have sC := cutV_cell Ka.out.cu HFL.out))
  go_upto_region 17 with (first
    | (go_at_call 45; with_reducible (refine (HF2.out wa).mono ?_); rintro rf wf ⟨rfl, hwf⟩; rw [hwf]; clear hwf))
  go_wp2
  have XD := hid (show At wa.drew G12 (ubs x).toArray 25 from Xa.out)
  try simp only [Act.put, List.setIfInBounds_toArray, List.set_cons_succ, List.set_cons_zero]
  refine wp_region_facts 14 14 [107, 108, 109, 110, 111, 112, 113, 114, 115, 116, 117, 118, 119, 6] (fun j z _ => z = sc12 w.heap.size A n c a leaf x j) (fun V => ScW w leaf A n c a b V ∧ At V G12 (ubs x).toArray 25) (by kernel_rfl) (by kernel_rfl)
    (fun V V' h hb => ⟨h.1.new hb, h.2.new_ hb⟩) (fun _ _ _ _ h _ => h) (⟨Ka.out.drew, XD.out⟩) ?_ ?_
  · intro k hk vals W1 K hB hn hK
    simp only [frm_cons, frm_nil, List.set_cons_succ, List.set_cons_zero, Nat.reduceAdd] at hK ⊢
    rcases (by omega : k = 0 ∨ k = 1 ∨ k = 2 ∨ k = 3 ∨ k = 4 ∨ k = 5 ∨ k = 6 ∨ k = 7 ∨ k = 8 ∨ k = 9 ∨ k = 10 ∨ k = 11 ∨ k = 12 ∨ k = 13) with rfl | rfl | rfl | rfl | rfl | rfl | rfl | rfl | rfl | rfl | rfl | rfl | rfl | rfl
    · refine wpOp_plain rfl rfl (wp_val (w' := W1) (v := .nilIface) (by go_simp) ?_)
      exact hK _ _ rfl (Below.refl _ _)
    · have h0 := hn 0 (by decide +kernel)
      simp only [sc12] at h0
      simp only [h0] at hK ⊢
      refine wpOp_plain rfl rfl (wp_val (w' := W1) (v := .bool true) (by go_simp) ?_)
      exact hK _ _ rfl (Below.refl _ _)
    · have h1 := hn 1 (by decide +kernel)
      simp only [sc12] at h1
      simp only [h1] at hK ⊢
      refine wpOp_plain rfl rfl (wp_val (w' := W1) (v := .bool true) (by go_simp) ?_)
      exact hK _ _ rfl (Below.refl _ _)
    · have h2 := hn 2 (by decide +kernel)
      simp only [sc12] at h2
      simp only [h2] at hK ⊢
      refine wpOp_on rfl (by rfl) (wp_val (run_loadH (.tmp 12) rfl G12 0 rfl x (range_whole hB.2) HXL.out) ?_)
      exact hK _ _ rfl (Below.refl _ _)
    · have h2 := hn 2 (by decide +kernel)
      simp only [sc12] at h2
      simp only [h2] at hK ⊢
      refine wpOp_on rfl (by rfl) (wp_val (w' := W1) (v := .pointer (some ⟨w.heap.size, 0, none⟩)) (by go_simp) ?_)
      exact hK _ _ rfl (Below.refl _ _)
    · have h2 := hn 2 (by decide +kernel)
      have h4 := hn 4 (by decide +kernel)
      simp only [sc12] at h2 h4
      simp only [h2, h4] at hK ⊢
      refine wpOp_on rfl (by rfl) (wp_val (run_loadH (.tmp 111) rfl w.heap.size 0 rfl leaf (cutV_range hB.1.cu) HFL.out) ?_)
      exact hK _ _ rfl (Below.refl _ _)
    · have h2 := hn 2 (by decide +kernel)
      simp only [sc12] at h2
      simp only [h2] at hK ⊢
      refine wpOp_on rfl (by rfl) (wp_val (w' := W1) (v := .pointer (some ⟨w.heap.size + 1, 0, none⟩)) (by go_simp) ?_)
      exact hK _ _ rfl (Below.refl _ _)
    · have h2 := hn 2 (by decide +kernel)
      have h6 := hn 6 (by decide +kernel)
      simp only [sc12] at h2 h6
      simp only [h2, h6] at hK ⊢
      have sA := hB.1.s0
      have sC := cutV_cell hB.1.cu HFL.out
      refine wpOp_on rfl (by rfl) (wp_val (w' := W1) (v := .int .u64 (a : Int)) (by go_simp) ?_)
      exact hK _ _ rfl (Below.refl _ _)
    · have h2 := hn 2 (by decide +kernel)
      simp only [sc12] at h2
      simp only [h2] at hK ⊢
      refine wpOp_on rfl (by rfl) (wp_val (w' := W1) (v := .pointer (some ⟨w.heap.size, 32, none⟩)) (by go_simp) ?_)
      exact hK _ _ rfl (Below.refl _ _)
    · have h2 := hn 2 (by decide +kernel)
      have h8 := hn 8 (by decide +kernel)
      simp only [sc12] at h2 h8
      simp only [h2, h8] at hK ⊢
      have sA := hB.1.s0
      have sC := cutV_cell hB.1.cu HFL.out
      refine wpOp_on rfl (by rfl) (wp_val (w' := W1) (v := .slice A n c) (by go_simp) ?_)
      exact hK _ _ rfl (Below.refl _ _)
    · have h2 := hn 2 (by decide +kernel)
      have h5 := hn 5 (by decide +kernel)
      have h7 := hn 7 (by decide +kernel)
      have h9 := hn 9 (by decide +kernel)
      simp only [sc12] at h2 h5 h7 h9
      simp only [h2, h5, h7, h9] at hK ⊢
      refine wpOp_on rfl (by rfl) ?_
      go_simp
      go_at_call 46
      refine (HRX.out W1 hB.1.bl).mono ?_
      rintro e W' ⟨rfl, hb⟩
      exact hK _ _ rfl hb
    · have h2 := hn 2 (by decide +kernel)
      have h3 := hn 3 (by decide +kernel)
      have h10 := hn 10 (by decide +kernel)
      simp only [sc12] at h2 h3 h10
      simp only [h2, h3, h10] at hK ⊢
      refine wpOp_on rfl (by rfl) (wp_val (run_eqlH _ (.tmp 110) (.tmp 117) rfl x x HXL.out HXL.out rfl rfl true (by simp) W1) ?_)
      exact hK _ _ rfl (Below.refl _ _)
    · have h2 := hn 2 (by decide +kernel)
      have h11 := hn 11 (by decide +kernel)
      simp only [sc12] at h2 h11
      simp only [h2, h11] at hK ⊢
      refine wpOp_plain rfl rfl (wp_val (w' := W1) (v := .bool true) (by go_simp) ?_)
      exact hK _ _ rfl (Below.refl _ _)
    · have h12 := hn 12 (by decide +kernel)
      simp only [sc12] at h12
      simp only [h12] at hK ⊢
      refine wpOp_plain rfl rfl (wp_val (w' := W1) (v := .bool true) (by go_simp) ?_)
      exact hK _ _ rfl (Below.refl _ _)
  · intro vals W1 hB hF
    have h13 := hF 13 (by omega)
    simp only [sc12] at h13
    simp only [frm_cons, frm_nil, List.set_cons_succ, List.set_cons_zero, Nat.reduceAdd, h13]
    refine wpUpto_done (by decide +kernel) ?_ _
    have NX := hid hB.1.bl
    clear hB hF h13
    go_simp
    go_wp2
    go_ret
    exact ⟨rfl, NX.out⟩
end Go.Proofs.YtdegmcfcbndelaaDoor

namespace Go.Proofs.YtdegmcfcbndelaaDoor
open Go.RowKit

set_option maxRecDepth 100000 in
set_option maxHeartbeats 4000000 in
theorem stepCuts_Zn {w : World} (hA : Alive12C w) (leaf path : List UInt8) (n c a b cr : Nat) (A AR : Option Addr) (hl : leaf.length = 32) (h1 : a < 18446744073709551616) (h2 : b < 18446744073709551616) (hc : n ≤ c) (hp : path.length = 32 * n) (hr : Rd w w.heap.size A (ubs path)) (hT : Tabs w) (hR : Tabr w) (hI : Tab w 1 IV.l) (hn : n ≤ 60) (hb : b = 0) (ht : ftB a n = false) :
    Calls Tryd.prog 8 #[.agg (cutV leaf A n c).toArray, .agg #[.int .u64 (a : Int), .int .u64 (b : Int)], .slice AR 0 cr] w fun r w' => r = .returned (.bool true) ∧ Below w.heap.size w w' := by
  have HFL := hid hl
  have d5 : decide (0 < (b : Int)) = false := by simp; omega
  have d5n : decide (0 < b) = false := by simp; omega
  obtain ⟨C, hC⟩ : ∃ C, C = cutV leaf A n c := ⟨_, rfl⟩
  obtain ⟨S, hS⟩ : ∃ S : Array Value, S = #[.int .u64 (a : Int), .int .u64 (b : Int)] := ⟨_, rfl⟩
  have HC := hid hC
  have K0 := hid (ScW.start (W := w) (leaf := leaf) (A := A) (n := n) (c := c) (a := a) (b := b))
  rw [← hC, ← hS] at K0
  rw [← hC, ← hS]
  have HAL := hid (fun (V : World) (b : Below w.heap.size w V) => hA V b)
  have HRL := hid h3_length
  have HF2 := hid (fun (V : World) => show Calls Tryd.prog 45 #[.int .u64 (a : Int), .int .i64 (n : Int)] V (fun r V' => r = .returned (.bool false) ∧ V' = V) from by
    have := fitsR_any a n h1 (by omega) V
    rw [ht] at this
    exact this)
  have HAF := hid (fun (V : World) (k : Below w.heap.size w V) => pcutAfter_any leaf h3 path n c a b A V HRL.out hl h1 h2 hc hp ((hr.below k).mono k.size) (hT.below k))
  have HRC := hid (fun (V : World) (k : Below w.heap.size w V) => cutR_any h3 leaf path n c a b A V HRL.out hl h2 hp ((hr.below k).mono k.size) (hR.below k) (Tab.below (x := IV.a) (xs := [IV.b, IV.c, IV.d, IV.e, IV.f, IV.g, IV.h]) hI k))
  have HPC := hid (fun (V : World) (k : Below w.heap.size w V) => show Calls Tryd.prog 49 #[.agg (ubs leaf).toArray, .int .u64 (a : Int), .slice A n c] V (fun r V' => r = .returned (.tuple #[.agg (ubs n32).toArray, .iface 42 (.int .i64 1)]) ∧ Below V.heap.size V V') from by
    have := pClimb_any leaf path a n c A V hl h1 hp ((hr.below k).mono k.size) (hT.below k)
    unfold clE at this
    rw [ht] at this
    exact this)
  have HXL := hid n32_length
  have HIS := hid (fun V => show Calls Tryd.prog 16 #[.iface 42 (.int .i64 1), .int .i64 1] V (fun e w' => e = .returned (.bool true) ∧ V = w') from by
    have := eis_any 1 1 V
    exact this)
  have HYL := hid (ctE_length (root := h3) (path := path) (n := n) (was := a) (blocks := b) hl)
  generalize ctE h3 leaf path n a b = y at HAF HRC HYL
  generalize ctN h3 leaf path n a b = ky at HAF HRC
  rw [← hC] at HAF
  have HSZC := hid (show C.length = 33 by rw [hC]; exact cutV_length hl)
  have HAH := hid (fun (o : Oper) (a : Go.Act) (W : World) (h : o.op = .alloc 25) => run_alloc_of (o := o) (a := a) (W := W) _ h _ zeroH8)
  have HNL := hid n32_length
  have HNUM := hid (fun (k : Nat) V => enum_any k V)
  have HKC := hid (fun (V : World) (k : ScW w leaf A n c a b V) => show At V w.heap.size C.toArray 83 from by rw [hC]; exact k.cu)
  have H3L := hid h3_length
  have d1 : decide (60 < (n : Int)) = false := by simp; omega
  have d1n : decide (60 < n) = false := by simp; omega
  clear hC hS hA hl h1 h2 hc hp hr hT hR hI hn ht hb
  go_enter Tryd.func8, Tryd.ntmps8
  go_upto_region 3 with (first
    | (generalize ((w.alloc (.cells C.toArray 83)).alloc (.cells S 84)) = w0 at K0 ⊢; go_at_call 40; refine (HAL.out w0 K0.out.bl).mono ?_; rintro r1 w1 ⟨rfl, hb1⟩; have K1 := hid (K0.out.new hb1); clear hb1; have sA := K1.out.s0; have sB := K1.out.s1; have sC := cutV_cell K1.out.cu HFL.out))
  go_upto_region 5 with fail
  go_upto_region 6 with (first
    | (refine wpList_valW (by rfl) (run_build_h3 rfl) ?_)
    | (refine Great.wpList_allocTo rfl _ rfl _ _ (HAH.out _ _ _ rfl) ?_)
    | (refine wpList_store_row rfl _ (.tmp 7) (.tmp 24) rfl w1.heap.size (ubs h3).toArray rfl rfl 25 (ubs n32).toArray (At.new _ _ _) (sizeH_of H3L.out) (by simp [ubs_length, HNL.out, H3L.out]) (ubs_all _) ?_; have Bx := hid (show Below w1.heap.size w1 ((w1.alloc (.cells (ubs n32).toArray 25)).setRow w1.heap.size (ubs h3).toArray) from below_setRow ((Below.refl _ _).alloc (Nat.le_refl _) _) (Nat.le_refl _) _); have X2 := hid (show At ((w1.alloc (.cells (ubs n32).toArray 25)).setRow w1.heap.size (ubs h3).toArray) w1.heap.size (ubs h3).toArray 25 from setRow_heap _ _ _ _ _ _ (At.new w1 (ubs n32).toArray 25)); have K2 := hid (K1.out.new Bx.out); have LX2 := hid (K1.out.far); clear Bx sA sB sC; generalize ((w1.alloc (.cells (ubs n32).toArray 25)).setRow w1.heap.size (ubs h3).toArray) = w2 at X2 K2 ⊢; generalize w1.heap.size = G at X2 LX2 ⊢; have sA := K2.out.s0; have sB := K2.out.s1; have sC := cutV_cell K2.out.cu HFL.out))
  go_upto_region 8 with fail
  go_upto_region 10 with fail
  go_upto_region 11 with (first
    | (refine wpList_valW (by rfl) (run_loadC12 (.tmp 3) rfl w.heap.size rfl C (HKC.out _ K2.out) HSZC.out) ?_)
    | (refine wpList_valW (by rfl) (run_loadH (.tmp 7) rfl G 0 rfl h3 (range_whole X2.out) HRL.out) ?_)
    | (go_at_call 47; refine (HAF.out w2 K2.out.bl).mono ?_; rintro r5 w5 ⟨rfl, hb5⟩; have K5 := hid (K2.out.new hb5); have X5 := hid (X2.out.new_ hb5); clear hb5 sA sB sC; have sA := K5.out.s0; have sB := K5.out.s1; have sC := cutV_cell K5.out.cu HFL.out)
    | (refine Great.wpList_allocTo rfl _ rfl _ _ (HAH.out _ _ _ rfl) ?_)
    | (refine wpList_store_row rfl _ (.tmp 8) (.tmp 59) rfl w5.heap.size (ubs y).toArray rfl rfl 25 (ubs n32).toArray (At.new _ _ _) (sizeH_of HYL.out) (by simp [ubs_length, HNL.out, HYL.out]) (ubs_all _) ?_; have Bx := hid (show Below w5.heap.size w5 ((w5.alloc (.cells (ubs n32).toArray 25)).setRow w5.heap.size (ubs y).toArray) from below_setRow ((Below.refl _ _).alloc (Nat.le_refl _) _) (Nat.le_refl _) _); have Y6 := hid (show At ((w5.alloc (.cells (ubs n32).toArray 25)).setRow w5.heap.size (ubs y).toArray) w5.heap.size (ubs y).toArray 25 from setRow_heap _ _ _ _ _ _ (At.new w5 (ubs n32).toArray 25)); have K6 := hid (K5.out.new Bx.out); have LY6 := hid (K5.out.far); have X6 := hid (X5.out.new_ Bx.out); clear Bx sA sB sC; generalize ((w5.alloc (.cells (ubs n32).toArray 25)).setRow w5.heap.size (ubs y).toArray) = w6 at Y6 K6 X6 ⊢; generalize w5.heap.size = G8 at Y6 LY6 ⊢; have sA := K6.out.s0; have sB := K6.out.s1; have sC := cutV_cell K6.out.cu HFL.out))
  go_upto_region 12 with (first
    | (refine wpList_valW (by rfl) (run_loadH (.tmp 7) rfl G 0 rfl h3 (range_whole X6.out) HRL.out) ?_)
    | (refine wpList_valW (by rfl) (run_loadH (.tmp 63) rfl w.heap.size 0 rfl leaf (cutV_range K6.out.cu) HFL.out) ?_)
    | (go_at_call 48; refine (HRC.out w6 K6.out.bl).mono ?_; rintro r7 w7 ⟨rfl, hb7⟩; have K7 := hid (K6.out.new hb7); have Y7 := hid (Y6.out.new_ hb7); clear hb7 sA sB sC; have sA := K7.out.s0; have sB := K7.out.s1; have sC := cutV_cell K7.out.cu HFL.out)
    | (refine Great.wpList_allocTo rfl _ rfl _ _ (HAH.out _ _ _ rfl) ?_)
    | (refine wpList_store_row rfl _ (.tmp 10) (.tmp 72) rfl w7.heap.size (ubs y).toArray rfl rfl 25 (ubs n32).toArray (At.new _ _ _) (sizeH_of HYL.out) (by simp [ubs_length, HNL.out, HYL.out]) (ubs_all _) ?_; have Bx := hid (show Below w7.heap.size w7 ((w7.alloc (.cells (ubs n32).toArray 25)).setRow w7.heap.size (ubs y).toArray) from below_setRow ((Below.refl _ _).alloc (Nat.le_refl _) _) (Nat.le_refl _) _); have Z8 := hid (show At ((w7.alloc (.cells (ubs n32).toArray 25)).setRow w7.heap.size (ubs y).toArray) w7.heap.size (ubs y).toArray 25 from setRow_heap _ _ _ _ _ _ (At.new w7 (ubs n32).toArray 25)); have K8 := hid (K7.out.new Bx.out); have LZ8 := hid (K7.out.far); have Y8 := hid (Y7.out.new_ Bx.out); clear Bx sA sB sC; generalize ((w7.alloc (.cells (ubs n32).toArray 25)).setRow w7.heap.size (ubs y).toArray) = w8 at Z8 K8 Y8 ⊢; generalize w7.heap.size = G10 at Z8 LZ8 ⊢; have sA := K8.out.s0; have sB := K8.out.s1; have sC := cutV_cell K8.out.cu HFL.out))
  go_upto_region 14 with (first
    | (refine wpList_valW (by rfl) (run_loadH (.tmp 8) rfl G8 0 rfl y (range_whole Y8.out) HYL.out) ?_)
    | (refine wpList_valW (by rfl) (run_loadH (.tmp 10) rfl G10 0 rfl y (range_whole Z8.out) HYL.out) ?_)
    | (refine wpList_valW (by rfl) (run_neqH _ (.tmp 74) (.tmp 75) rfl y y HYL.out HYL.out rfl rfl false (by simp) _) ?_)
    | (go_at_call 44; refine (HNUM.out ky _).mono ?_; rintro rn wn ⟨rfl, hwn⟩; rw [← hwn]; clear hwn))
  go_upto_region 15 with (first
    | (refine wpList_valW (by rfl) (run_loadH (.tmp 84) rfl w.heap.size 0 rfl leaf (cutV_range K8.out.cu) HFL.out) ?_)
    | (go_at_call 49; refine (HPC.out w8 K8.out.bl).mono ?_; rintro r9 w9 ⟨rfl, hb9⟩; have K9 := hid (K8.out.new hb9); clear hb9 sA sB sC; have sA := K9.out.s0; have sB := K9.out.s1; have sC := cutV_cell K9.out.cu HFL.out)
    | (refine Great.wpList_allocTo rfl _ rfl _ _ (HAH.out _ _ _ rfl) ?_)
    | (refine wpList_store_row rfl _ (.tmp 12) (.tmp 91) rfl w9.heap.size (ubs n32).toArray rfl rfl 25 (ubs n32).toArray (At.new _ _ _) (sizeH_of HXL.out) (Eq.refl _) (ubs_all _) ?_; have Bx := hid (show Below w9.heap.size w9 ((w9.alloc (.cells (ubs n32).toArray 25)).setRow w9.heap.size (ubs n32).toArray) from below_setRow ((Below.refl _ _).alloc (Nat.le_refl _) _) (Nat.le_refl _) _); have Xa := hid (show At ((w9.alloc (.cells (ubs n32).toArray 25)).setRow w9.heap.size (ubs n32).toArray) w9.heap.size (ubs n32).toArray 25 from setRow_heap _ _ _ _ _ _ (At.new w9 (ubs n32).toArray 25)); have Ka := hid (K9.out.new Bx.out); have LXa := hid (K9.out.far); clear Bx sA sB sC; generalize ((w9.alloc (.cells (ubs n32).toArray 25)).setRow w9.heap.size (ubs n32).toArray) = wa at Xa Ka ⊢; generalize w9.heap.size = G12 at Xa LXa ⊢; have sA := Ka.out.s0; have sB := Ka.out.s1; have sC := cutV_cell Ka.out.cu HFL.out))
  go_upto_region 16 with (first
    | (go_at_call 45; with_reducible (refine (HF2.out wa).mono ?_); rintro rf wf ⟨rfl, hwf⟩; rw [hwf]; clear hwf))
  go_wp2_with (first
    | (go_at_call 16; refine (HIS.out _).mono ?_; rintro ri wi ⟨rfl, hwi⟩; rw [← hwi]; clear hwi)
    | (refine wpList_valW (by rfl) (run_loadH (.tmp 12) rfl G12 0 rfl n32 (range_whole Xa.out) HNL.out) ?_)
    | (refine wpList_valW (by rfl) (run_build_hash0 rfl) ?_)
    | (refine wpList_valW (by rfl) (run_eqlH _ (.tmp 103) (.tmp 104) rfl n32 n32 HNL.out HNL.out rfl rfl true (by simp) _) ?_))
  go_ret
  exact ⟨rfl, Ka.out.bl⟩
end Go.Proofs.YtdegmcfcbndelaaDoor
