/-
  The program's layer 7: Open.
-/
import Derived.Test.YtnaihcoafgigcaaDoorUe
import Derived.Test.YtnaihcoafgigcaaDoorSf
namespace Go.Proofs.YtnaihcoafgigcaaDoor
open Go.RowKit

/-- What holds in Open: what is sealed, the result. -/
structure PoW (w : World) (x : List Value) (W : World) : Prop where
  x : At W w.heap.size x.toArray 31
  res : At W (w.heap.size + 1) (ubs n32).toArray 28
  below : Below w.heap.size w W
theorem PoW.new {w W W' : World} {x : List Value} (h : PoW w x W) (hb : Below W.heap.size W W') : PoW w x W' := ⟨h.x.new_ hb, h.res.new_ hb, h.below.trans (hb.mono h.below.size)⟩
theorem PoW.drew {w W : World} {x : List Value} (h : PoW w x W) : PoW w x W.drew := ⟨h.x, h.res, h.below.drew⟩
theorem PoW.start (w : World) (x : List Value) : PoW w x ((w.alloc (.cells x.toArray 31)).alloc (.cells (ubs n32).toArray 28)) :=
  ⟨(At.new _ _ _).alloc _, At.new_at (by simp), ((Below.refl w.heap.size w).alloc (Nat.le_refl _) _).alloc (by simp) _⟩
/-- Beside: the sealer, the place's bytes. -/
structure PpW (w : World) (x : List Value) (r t pl : List UInt8) (A : Option Addr) (C S : Nat) (W : World) : Prop where
  po : PoW w x W
  ci : At W C (ubs r).toArray 94
  sl : At W S (slv C t).toArray 68
  rd : Rb W W.heap.size A pl
section
variable {w W W' : World} {x : List Value} {r t pl : List UInt8} {A : Option Addr} {C S : Nat}
theorem PpW.new (h : PpW w x r t pl A C S W) (hb : Below W.heap.size W W') : PpW w x r t pl A C S W' := ⟨h.po.new hb, h.ci.new_ hb, h.sl.new_ hb, (h.rd.below hb).mono hb.size⟩
theorem PpW.drew (h : PpW w x r t pl A C S W) : PpW w x r t pl A C S W.drew := ⟨h.po.drew, h.ci, h.sl, h.rd⟩
end
/-- What Open's comparing region yields. -/
def soF (w : World) (q : Bool) (A : Option Addr) (cc S : Nat) (i : Nat) (v : Value) (W : World) : Prop :=
  match i with
  | 0 => v = .pointer (some ⟨w.heap.size, 33, none⟩)
  | 1 => v = .slice (some ⟨w.heap.size, 33, none⟩) 16 16
  | 2 => v = .pointer (some ⟨S, 0, none⟩)
  | 3 => v = .pointer (some ⟨S, 0, none⟩)
  | 4 => v = .pointer (some ⟨S, 1, none⟩)
  | 5 => v = .slice (some ⟨S, 1, none⟩) 32 32
  | 6 => v = .slice A 12 cc
  | 7 => v = .pointer (some ⟨w.heap.size, 1, none⟩)
  | 8 => v = .slice (some ⟨w.heap.size, 1, none⟩) 32 32
  | 9 => ∃ g, v = .slice (some ⟨g, 0, none⟩) 2 2 ∧ At W g #[.slice A 12 cc, .slice (some ⟨w.heap.size, 1, none⟩) 32 32] 55
  | 10 => v = .bool q
  | _ => v = .bool (!q)
theorem soF_new {w : World} {q : Bool} {A : Option Addr} {cc S i : Nat} {v : Value} {W W' : World} (h : soF w q A cc S i v W) (hb : Below W.heap.size W W') : soF w q A cc S i v W' := by
  rcases i with _ | _ | _ | _ | _ | _ | _ | _ | _ | _ | _ | i
  iterate 9 exact h
  · obtain ⟨C, h1, h2⟩ := h; exact ⟨C, h1, h2.new_ hb⟩
  · exact h
  · exact h
/-- The tag checked. -/
theorem pp_check {w : World} {key r d t : List UInt8} {A : Option Addr} {C S i e cc : Nat} {W : World} (h : PpW w (sv e d t) r (keyTag key) (placeL i e) A C S W) (hd : d.length = 32) (ht : t.length = 16) (hT : Tabs W) {g : Nat} (hg : At W g #[.slice A 12 cc, .slice (some ⟨w.heap.size, 1, none⟩) 32 32] 55) :
    Calls Tryd.prog 28 #[.slice (some ⟨w.heap.size, 33, none⟩) 16 16, .slice (some ⟨S, 1, none⟩) 32 32, .slice (some ⟨g, 0, none⟩) 2 2] W fun e' w' => e' = .returned (.bool (t == tagL key i e d)) ∧ Below W.heap.size W w' := by
  have := check_any t (some ⟨w.heap.size, 33, none⟩) 16 (keyTag key) (some ⟨S, 1, none⟩) 32 [⟨A, placeL i e, cc⟩, ⟨some ⟨w.heap.size, 1, none⟩, d, 32⟩] (some ⟨g, 0, none⟩) 2 W (sv_rb_tag h.po.x hd) (by omega)
    ⟨sl_rb h.sl, by rw [part2 _ _ _ _ _ _ 12 32 (placeL_length i e) hd]; exact rd_row hg, by
      intro p hp
      simp only [List.mem_cons, List.not_mem_nil, or_false] at hp
      rcases hp with rfl | rfl
      · exact h.rd
      · exact sv_rb_data h.po.x, by rw [keyTag_length]; omega, by rw [joined_two]; simp [placeL_length, hd], by simp, hT⟩
  rw [keyTag_length, joined_two, ht, ← isTag_short _ _ (macL_length _ _) ht] at this
  exact this
set_option maxRecDepth 100000 in
set_option maxHeartbeats 2000000 in
theorem popen_any (key d t : List UInt8) (i e : Nat) (p : Option Addr) (w : World) (hd : d.length = 32) (ht : t.length = 16) (he : e < 18446744073709551616) (hs : Slp w key p) (hT : Tabs w) :
    Calls Tryd.prog 14 #[.pointer p, .int .u64 (i : Int), .agg (sv e d t).toArray] w fun r w' => r = .returned (.tuple #[.agg (ubs (openL key i e d t)).toArray, errV (openN key i e d t)]) ∧ Below w.heap.size w w' := by
  have H0 := hid (PoW.start w (sv e d t))
  have E0 := hid (fun (W : World) (h : PoW w (sv e d t) W) => sv_epoch h.x)
  have HRI := hid (fun W => pright_any i e W he)
  have HZN := hid (sizeBk_of n32_length)
  have q0 := E0.out _ H0.out
  have hz := noughts32
  cases hr : rightB i e with
  | false =>
    rw [(openL_wrong key i e d t hr).1, (openL_wrong key i e d t hr).2]
    rw [hr] at HRI
    rw [show errV 1 = .iface 43 (.int .i64 1) from rfl]
    generalize sv e d t = x at H0 q0 ⊢
    clear hd ht he hT hr hs E0
    go_enter Tryd.func14, Tryd.ntmps14
    go_wp2_with (first
      | (refine wpList_valW (by rfl) (run_build_block0 rfl) ?_)
      | (go_at_call 11; refine (HRI.out _).mono ?_; rintro e1 w1 ⟨rfl, rfl⟩)
      | (refine wpList_store_row rfl _ (.tmp 6) (.tmp 14) rfl (w.heap.size + 1) (ubs n32).toArray rfl rfl 28 (ubs n32).toArray H0.out.res HZN.out rfl (ubs_all _) ?_))
    refine bodyPost_ret (results_row_tmp rfl _ _ (w.heap.size + 1) 28 (ubs n32).toArray (0, 0) _ rfl (setRow_heap _ _ _ _ _ _ H0.out.res) Tryd.underlying28 rfl HZN.out) rfl ?_
    exact ⟨rfl, below_setRow H0.out.below (by omega) _⟩
  | true =>
    rw [hr] at HRI
    have HI := hid (rightB_le7 hr)
    have HOZ := hid (fun (W : World) (h : Below w.heap.size w W) => porZ_any key p W (hs.new h) (hT.below h))
    have HPP := hid (fun (W : World) => pplace_any i e W HI.out he)
    have HTD := hid (fun (W : World) (S C : Nat) (A : Option Addr) (cc : Nat) (h : PpW w (sv e d t) (rks (keyEnc key) 11) (keyTag key) (placeL i e) A C S W) => psturned_any key d i e S A cc W hd ⟨C, h.ci, h.sl⟩ h.rd)
    have HDL := hid hd
    have HTL := hid ht
    have HUL := hid (show (turnedL key i e d).length = 32 by rw [turnedL_length, hd])
    have HCK := hid (fun (W : World) (A : Option Addr) (C S cc g : Nat) (h : PpW w (sv e d t) (rks (keyEnc key) 11) (keyTag key) (placeL i e) A C S W) (hg : At W g #[.slice A 12 cc, .slice (some ⟨w.heap.size, 1, none⟩) 32 32] 55) => pp_check h hd ht (hT.below h.po.below) hg)
    have HPQ := hid (fun (W : World) (S : Nat) (A : Option Addr) (h0 : PoW w (sv e d t) W) (h1 : SlA W key S) (h2 : Rb W W.heap.size A (placeL i e)) => show ∃ C, PpW w (sv e d t) (rks (keyEnc key) 11) (keyTag key) (placeL i e) A C S W by
      obtain ⟨C, c1, c2⟩ := h1
      exact ⟨C, h0, c1, c2, h2⟩)
    have SD := hid (fun (W : World) (h : PoW w (sv e d t) W) => sv_data h.x)
    have HOO := hid (openL_other key i e d t hr)
    have HOS := hid (openL_same key i e d t hr)
    generalize tagL key i e d = g0 at HCK HOO HOS
    generalize turnedL key i e d = u0 at HTD HUL HOS
    generalize openL key i e d t = ol at HOO HOS ⊢
    generalize openN key i e d t = on at HOO HOS ⊢
    generalize placeL i e = pl at HPP HTD HCK HPQ
    generalize rks (keyEnc key) 11 = r0 at HTD HCK HPQ
    generalize keyTag key = t0 at HTD HCK HPQ
    generalize sv e d t = x at H0 q0 E0 SD HTD HCK HPQ ⊢
    clear hd ht he hT hr hs
    go_enter Tryd.func14, Tryd.ntmps14
    go_upto_region 5 with (first
      | (go_at_call 11; refine (HRI.out _).mono ?_; rintro e1 w1 ⟨rfl, rfl⟩)
      | (go_at_call 23; refine (HOZ.out _ H0.out.below).mono ?_; rintro e1 w1 ⟨S, rfl, hS1, hb1⟩; have H1 := hid (H0.out.new hb1); have S1 := hid hS1; have q1 := E0.out _ (H0.out.new hb1); clear hb1 hS1)
      | (go_at_call 24; refine (HPP.out w1).mono ?_; rintro e2 w2 ⟨A, cc, rfl, hR2, hb2⟩; have H2 := hid (H1.out.new hb2); have S2 := hid (S1.out.new hb2); have Q2 := hid (HPQ.out w2 S A (H1.out.new hb2) (S1.out.new hb2) hR2); clear hb2 hR2))
    obtain ⟨C, q4⟩ := Q2.out
    have H4 := hid q4
    clear H0 H1 S1 H2 S2 q4 Q2 HPP HOZ HRI HPQ q0 q1
    try simp only [Act.put, List.setIfInBounds_toArray, List.set_cons_succ, List.set_cons_zero]
    obtain ⟨r, hr⟩ : ∃ r : Bool, (t == g0) = r := ⟨(t == g0), rfl⟩
    rw [hr] at HCK
    refine wp_region_facts 12 12 [22, 23, 24, 25, 26, 27, 28, 29, 30, 31, 32, 33] (soF w r A cc S) (PpW w x r0 t0 pl A C S) (by kernel_rfl) (by kernel_rfl)
      (fun W W' h hb => h.new hb) (fun _ _ _ _ h hb => soF_new h hb) (H4.out.drew) ?_ ?_
    · intro i hi vals W K hB hn hK
      simp only [frm_cons, frm_nil, List.set_cons_succ, List.set_cons_zero, Nat.reduceAdd] at hK ⊢
      rcases (by omega : i = 0 ∨ i = 1 ∨ i = 2 ∨ i = 3 ∨ i = 4 ∨ i = 5 ∨ i = 6 ∨ i = 7 ∨ i = 8 ∨ i = 9 ∨ i = 10 ∨ i = 11) with rfl | rfl | rfl | rfl | rfl | rfl | rfl | rfl | rfl | rfl | rfl | rfl
      · refine wpOp_plain rfl rfl (wp_val (w' := W) (v := .pointer (some ⟨w.heap.size, 33, none⟩)) (by go_simp) ?_)
        exact hK _ _ rfl (Below.refl _ _)
      · have h0 := hn 0 (by decide +kernel)
        simp only [soF] at h0
        simp only [h0] at hK ⊢
        refine wpOp_plain rfl rfl (wp_val (w' := W) (v := .slice (some ⟨w.heap.size, 33, none⟩) 16 16) (by go_simp) ?_)
        exact hK _ _ rfl (Below.refl _ _)
      · refine wpOp_plain rfl rfl (wp_val (w' := W) (v := .pointer (some ⟨S, 0, none⟩)) (by go_simp) ?_)
        exact hK _ _ rfl (Below.refl _ _)
      · have h2 := hn 2 (by decide +kernel)
        simp only [soF] at h2
        simp only [h2] at hK ⊢
        refine wpOp_plain rfl rfl (wp_val (w' := W) (v := .pointer (some ⟨S, 0, none⟩)) (by go_simp) ?_)
        exact hK _ _ rfl (Below.refl _ _)
      · have h3 := hn 3 (by decide +kernel)
        simp only [soF] at h3
        simp only [h3] at hK ⊢
        refine wpOp_plain rfl rfl (wp_val (w' := W) (v := .pointer (some ⟨S, 1, none⟩)) (by go_simp) ?_)
        exact hK _ _ rfl (Below.refl _ _)
      · have h4 := hn 4 (by decide +kernel)
        simp only [soF] at h4
        simp only [h4] at hK ⊢
        refine wpOp_plain rfl rfl (wp_val (w' := W) (v := .slice (some ⟨S, 1, none⟩) 32 32) (by go_simp) ?_)
        exact hK _ _ rfl (Below.refl _ _)
      · refine wpOp_plain rfl rfl (wp_val (w' := W) (v := .slice A 12 cc) (by go_simp) ?_)
        exact hK _ _ rfl (Below.refl _ _)
      · refine wpOp_plain rfl rfl (wp_val (w' := W) (v := .pointer (some ⟨w.heap.size, 1, none⟩)) (by go_simp) ?_)
        exact hK _ _ rfl (Below.refl _ _)
      · have h7 := hn 7 (by decide +kernel)
        simp only [soF] at h7
        simp only [h7] at hK ⊢
        refine wpOp_plain rfl rfl (wp_val (w' := W) (v := .slice (some ⟨w.heap.size, 1, none⟩) 32 32) (by go_simp) ?_)
        exact hK _ _ rfl (Below.refl _ _)
      · have h6 := hn 6 (by decide +kernel)
        have h8 := hn 8 (by decide +kernel)
        simp only [soF] at h6 h8
        simp only [h6, h8] at hK ⊢
        refine wpOp_plain rfl rfl (wp_val (w' := W.alloc (.cells #[.slice A 12 cc, .slice (some ⟨w.heap.size, 1, none⟩) 32 32] 55)) (v := .slice (some ⟨W.heap.size, 0, none⟩) 2 2) (by go_simp) ?_)
        exact hK _ _ ⟨_, rfl, At.new _ _ _⟩ ((Below.refl _ _).alloc (Nat.le_refl _) _)
      · have h1 := hn 1 (by decide +kernel)
        have h5 := hn 5 (by decide +kernel)
        have h9 := hn 9 (by decide +kernel)
        simp only [soF] at h1 h5
        obtain ⟨g9, e9, A9⟩ := h9
        simp only [h1, h5, e9] at hK ⊢
        refine wpOp_plain rfl rfl ?_
        go_simp
        go_at_call 28
        refine (HCK.out W A C S cc g9 hB A9).mono ?_
        rintro e W' ⟨rfl, hb⟩
        exact hK _ _ rfl hb
      · have h10 := hn 10 (by decide +kernel)
        simp only [soF] at h10
        simp only [h10] at hK ⊢
        refine wpOp_plain rfl rfl (wp_val (w' := W) (v := .bool (!r)) (by go_simp) ?_)
        exact hK _ _ rfl (Below.refl _ _)
    · intro vals W hB hF
      have h0 := hF 0 (by omega)
      have h1 := hF 1 (by omega)
      have h2 := hF 2 (by omega)
      have h3 := hF 3 (by omega)
      have h4 := hF 4 (by omega)
      have h5 := hF 5 (by omega)
      have h6 := hF 6 (by omega)
      have h7 := hF 7 (by omega)
      have h8 := hF 8 (by omega)
      have h9 := hF 9 (by omega)
      have h10 := hF 10 (by omega)
      have h11 := hF 11 (by omega)
      simp only [soF] at h0 h1 h2 h3 h4 h5 h6 h7 h8 h10 h11
      obtain ⟨g9, e9, A9⟩ := h9
      simp only [frm_cons, frm_nil, List.set_cons_succ, List.set_cons_zero, Nat.reduceAdd, h0, h1, h2, h3, h4, h5, h6, h7, h8, e9, h10, h11]
      refine wpUpto_done (by decide +kernel) ?_ _
      have H5 := hid hB
      have SDW := hid (SD.out _ hB.po)
      clear hB hF H4 E0 SD A9 HCK
      go_simp
      cases r
      · obtain rfl : ol = n32 := (HOO.out hr).1
        obtain rfl : on = 4 := (HOO.out hr).2
        clear hr HOO HOS HTD SDW
        go_wp2_with (first
          | (refine wpList_valW (by rfl) (run_build_block0 rfl) ?_)
          | (refine wpList_store_row rfl _ (.tmp 6) (.tmp 34) rfl (w.heap.size + 1) (ubs n32).toArray rfl rfl 28 (ubs n32).toArray H5.out.po.res HZN.out rfl (ubs_all _) ?_))
        refine bodyPost_ret (results_row_tmp rfl _ _ (w.heap.size + 1) 28 (ubs n32).toArray (0, 0) _ rfl (setRow_heap _ _ _ _ _ _ H5.out.po.res) Tryd.underlying28 rfl HZN.out) rfl ?_
        exact ⟨rfl, below_setRow H5.out.po.below (by omega) _⟩
      · obtain rfl : u0 = ol := (HOS.out hr).1.symm
        obtain rfl : on = 0 := (HOS.out hr).2
        clear hr HOO HOS
        go_wp2_with (first
          | (refine wpList_valW (by rfl) (run_loadB (.tmp 38) rfl w.heap.size 1 rfl d SDW.out HDL.out) ?_)
          | (go_at_call 25; refine (HTD.out _ S C A cc H5.out).mono ?_; rintro e1 w6 ⟨rfl, hb6⟩; have H6 := hid (H5.out.new hb6); clear hb6)
          | (refine wpList_store_row rfl _ (.tmp 6) (.tmp 40) rfl (w.heap.size + 1) (ubs u0).toArray rfl rfl 28 (ubs n32).toArray H6.out.po.res (sizeBk_of HUL.out) ?e5 (ubs_all _) ?e6; rotate_right))
        case e5 => simp [ubs_length, n32_length, HUL.out]
        refine bodyPost_ret (results_row_tmp rfl _ _ (w.heap.size + 1) 28 (ubs u0).toArray (0, 0) _ rfl (setRow_heap _ _ _ _ _ _ H6.out.po.res) Tryd.underlying28 rfl (sizeBk_of HUL.out)) rfl ?_
        exact ⟨rfl, below_setRow H6.out.po.below (by omega) _⟩
end Go.Proofs.YtnaihcoafgigcaaDoor
