/-
  The document's layer 7: Open.
-/
import Derived.Test.YtnaihcoafgigcaaDoorSe
import Derived.Test.YtnaihcoafgigcaaDoorZ4
namespace Go.Proofs.YtnaihcoafgigcaaDoor
open Go.RowKit

theorem run_neq16 {o : Oper} {a : Go.Act} (t2 : TypeId) (x y : Operand) (ho : o.op = .binOp .neq 22 x y t2) (u v : List UInt8) (hu : u.length = 16) (hv : v.length = 16) (hx : a.eval x = .agg (ubs u).toArray) (hy : a.eval y = .agg (ubs v).toArray) (r : Bool) (hr : (u == v) = !r) (w : World) :
    (execOp a.eval o).run Tryd.prog w = .ok (.value (.bool r)) w :=
  run_neq_op _ _ x y ho _ _ hx hy guard16 r w (by rw [run_neq_struct, run_eq_block w u v hu hv 9998, hr]; cases r <;> rfl)
/-- What holds in Open: the key, what is sealed, the result. -/
structure OeW (w : World) (key : List UInt8) (x : List Value) (W : World) : Prop where
  k : At W w.heap.size (ubs key).toArray 23
  x : At W (w.heap.size + 1) x.toArray 38
  r : At W (w.heap.size + 2) (ubs n32).toArray 28
  below : Below w.heap.size w W
theorem OeW.new {w W W' : World} {key : List UInt8} {x : List Value} (h : OeW w key x W) (hb : Below W.heap.size W W') : OeW w key x W' := ⟨h.k.new_ hb, h.x.new_ hb, h.r.new_ hb, h.below.trans (hb.mono h.below.size)⟩
theorem OeW.drew {w W : World} {key : List UInt8} {x : List Value} (h : OeW w key x W) : OeW w key x W.drew := ⟨h.k, h.x, h.r, h.below.drew⟩
theorem OeW.start (w : World) (key : List UInt8) (x : List Value) : OeW w key x (((w.alloc (.cells (ubs key).toArray 23)).alloc (.cells x.toArray 38)).alloc (.cells (ubs n32).toArray 28)) :=
  ⟨((At.new _ _ _).alloc _).alloc _, (At.new_at (by simp)).alloc _, At.new_at (by simp), (((Below.refl w.heap.size w).alloc (Nat.le_refl _) _).alloc (by simp) _).alloc (by simp; omega) _⟩
/-- What Open answers: the block; the error's number. -/
def openL (key : List UInt8) (i e : Nat) (d t : List UInt8) : List UInt8 := if rightB i e && t == tagL key i e d then turnedL key i e d else n32
def openN (key : List UInt8) (i e : Nat) (d t : List UInt8) : Nat := if rightB i e then (if t == tagL key i e d then 0 else 4) else 1
theorem openL_wrong (key : List UInt8) (i e : Nat) (d t : List UInt8) (h : rightB i e = false) : openL key i e d t = n32 ∧ openN key i e d t = 1 := by simp [openL, openN, h]
theorem openL_other (key : List UInt8) (i e : Nat) (d t : List UInt8) (h : rightB i e = true) (h2 : (t == tagL key i e d) = false) : openL key i e d t = n32 ∧ openN key i e d t = 4 := by simp [openL, openN, h, h2]
theorem openL_same (key : List UInt8) (i e : Nat) (d t : List UInt8) (h : rightB i e = true) (h2 : (t == tagL key i e d) = true) : openL key i e d t = turnedL key i e d ∧ openN key i e d t = 0 := by simp [openL, openN, h, h2]
theorem openL_length (key : List UInt8) (i e : Nat) (d t : List UInt8) (hd : d.length = 32) : (openL key i e d t).length = 32 := by
  unfold openL
  split
  · rw [turnedL_length, hd]
  · exact n32_length
set_option maxRecDepth 100000 in
set_option maxHeartbeats 2000000 in
theorem openR_any (key d t : List UInt8) (i e : Nat) (w : World) (hk : key.length = 16) (hd : d.length = 32) (ht : t.length = 16) (hi : i < 18446744073709551616) (he : e < 18446744073709551616) (hT : Tabr w) (hI : Tab w 0 IV.l) :
    Calls Tryd.prog 15 #[.agg (ubs key).toArray, .int .u64 (i : Int), .agg (sv e d t).toArray] w fun r w' => r = .returned (.tuple #[.agg (ubs (openL key i e d t)).toArray, .int .i64 (openN key i e d t : Int)]) ∧ Below w.heap.size w w' := by
  have H0 := hid (OeW.start w key (sv e d t))
  have E0 := hid (fun (W : World) (h : OeW w key (sv e d t) W) => sv_epoch h.x)
  have HRI := hid (rightR_any i e)
  have HIB := hid (fun (W : World) (h : Below w.heap.size w W) => Tab.below (x := IV.a) (xs := [IV.b, IV.c, IV.d, IV.e, IV.f, IV.g, IV.h]) hI h)
  have HTD := hid (fun (W : World) (h : Below w.heap.size w W) => turnedR_any key d i e W hk hd hi he (hT.below h) (HIB.out W h))
  have HTG := hid (fun (W : World) (h : Below w.heap.size w W) => tagR_any key d i e W hk hd hi he (hT.below h) (HIB.out W h))
  have HZK := hid (show (Tryd.prog.info? 23).map (·.size) = some (ubs key).toArray.size from sizeKey_of hk)
  have HZN := hid (sizeBk_of n32_length)
  have q0 := E0.out _ H0.out
  have hz := noughts32
  cases hr : rightB i e with
  | false =>
    rw [(openL_wrong key i e d t hr).1, (openL_wrong key i e d t hr).2]
    rw [hr] at HRI
    generalize sv e d t = x at H0 q0 ⊢
    clear hk hd ht hi he hT hI hr HTD HTG E0
    go_enter Tryd.func15, Tryd.ntmps15
    go_wp2_with (first
      | (refine wpList_valW (by rfl) (run_build_block0 rfl) ?_)
      | (go_at_call 17; refine (HRI.out _).mono ?_; rintro e1 w1 ⟨rfl, rfl⟩)
      | (refine wpList_store_row rfl _ (.tmp 6) (.tmp 13) rfl (w.heap.size + 2) (ubs n32).toArray rfl rfl 28 (ubs n32).toArray H0.out.r HZN.out rfl (ubs_all _) ?_))
    refine bodyPost_ret (results_row_tmp rfl _ _ (w.heap.size + 2) 28 (ubs n32).toArray (0, 0) _ rfl (setRow_heap _ _ _ _ _ _ H0.out.r) Tryd.underlying28 rfl HZN.out) rfl ?_
    exact ⟨rfl, below_setRow H0.out.below (by omega) _⟩
  | true =>
    rw [hr] at HRI
    have HDL := hid hd
    have HTL := hid ht
    have HGL := hid (tagL_length key i e d)
    have HKL := hid hk
    have HUL := hid (show (turnedL key i e d).length = 32 by rw [turnedL_length, hd])
    have SD := hid (fun (W : World) (h : OeW w key (sv e d t) W) => sv_data h.x)
    have ST := hid (fun (W : World) (h : OeW w key (sv e d t) W) => sv_tag h.x hd)
    have HOO := hid (openL_other key i e d t hr)
    have HOS := hid (openL_same key i e d t hr)
    generalize tagL key i e d = g0 at HTG HGL HOO HOS
    generalize turnedL key i e d = u0 at HTD HUL HOS
    generalize openL key i e d t = ol at HOO HOS ⊢
    generalize openN key i e d t = on at HOO HOS ⊢
    generalize sv e d t = x at H0 q0 E0 SD ST ⊢
    clear hk hd ht hi he hT hI hr
    go_enter Tryd.func15, Tryd.ntmps15
    go_upto_region 3 with (first
      | (go_at_call 17; refine (HRI.out _).mono ?_; rintro e1 w1 ⟨rfl, rfl⟩))
    generalize (((w.alloc (.cells (ubs key).toArray 23)).alloc (.cells x.toArray 38)).alloc (.cells (ubs n32).toArray 28)) = w2 at H0 q0 ⊢
    clear HRI q0
    obtain ⟨r, hr⟩ : ∃ r : Bool, (t == g0) = !r := ⟨!(t == g0), by simp⟩
    refine wp_region_facts 10 10 [14, 15, 16, 17, 18, 19, 20, 21, 22, 23] (fun j v _ => match j with | 0 => v = .pointer (some ⟨w.heap.size + 1, 33, none⟩) | 1 => v = .agg (ubs t).toArray | 2 => v = .agg (ubs key).toArray | 3 => v = .int .u64 (i : Int) | 4 => v = .pointer (some ⟨w.heap.size + 1, 0, none⟩) | 5 => v = .int .u64 (e : Int) | 6 => v = .pointer (some ⟨w.heap.size + 1, 1, none⟩) | 7 => v = .agg (ubs d).toArray | 8 => v = .agg (ubs g0).toArray | _ => v = .bool r) (fun W => OeW w key x W) (by kernel_rfl) (by kernel_rfl)
      (fun W W' h hb => h.new hb) (fun _ _ _ _ h _ => h) (H0.out.drew) ?_ ?_
    · intro i hi vals W K hB hn hK
      simp only [frm_cons, frm_nil, List.set_cons_succ, List.set_cons_zero, Nat.reduceAdd] at hK ⊢
      rcases (by omega : i = 0 ∨ i = 1 ∨ i = 2 ∨ i = 3 ∨ i = 4 ∨ i = 5 ∨ i = 6 ∨ i = 7 ∨ i = 8 ∨ i = 9) with rfl | rfl | rfl | rfl | rfl | rfl | rfl | rfl | rfl | rfl
      · refine wpOp_plain rfl rfl (wp_val (w' := W) (v := .pointer (some ⟨w.heap.size + 1, 33, none⟩)) (by go_simp) ?_)
        exact hK _ _ rfl (Below.refl _ _)
      · have h0 := hn 0 (by decide +kernel)
        simp only [] at h0
        simp only [h0] at hK ⊢
        refine wpOp_plain rfl rfl (wp_val (run_load16 (.tmp 14) rfl (w.heap.size + 1) 33 rfl t (ST.out W hB) HTL.out) ?_)
        exact hK _ _ rfl (Below.refl _ _)
      · refine wpOp_plain rfl rfl (wp_val (run_loadK (.tmp 3) rfl w.heap.size 0 rfl key (range_whole hB.k) HKL.out) ?_)
        exact hK _ _ rfl (Below.refl _ _)
      · refine wpOp_plain rfl rfl (wp_val (w' := W) (v := .int .u64 (i : Int)) (by go_simp) ?_)
        exact hK _ _ rfl (Below.refl _ _)
      · refine wpOp_plain rfl rfl (wp_val (w' := W) (v := .pointer (some ⟨w.heap.size + 1, 0, none⟩)) (by go_simp) ?_)
        exact hK _ _ rfl (Below.refl _ _)
      · have h4 := hn 4 (by decide +kernel)
        simp only [] at h4
        simp only [h4] at hK ⊢
        have q := E0.out W hB
        refine wpOp_plain rfl rfl (wp_val (w' := W) (v := .int .u64 (e : Int)) (by go_simp) ?_)
        exact hK _ _ rfl (Below.refl _ _)
      · refine wpOp_plain rfl rfl (wp_val (w' := W) (v := .pointer (some ⟨w.heap.size + 1, 1, none⟩)) (by go_simp) ?_)
        exact hK _ _ rfl (Below.refl _ _)
      · have h6 := hn 6 (by decide +kernel)
        simp only [] at h6
        simp only [h6] at hK ⊢
        refine wpOp_plain rfl rfl (wp_val (run_loadB (.tmp 20) rfl (w.heap.size + 1) 1 rfl d (SD.out W hB) HDL.out) ?_)
        exact hK _ _ rfl (Below.refl _ _)
      · have h2 := hn 2 (by decide +kernel)
        have h3 := hn 3 (by decide +kernel)
        have h5 := hn 5 (by decide +kernel)
        have h7 := hn 7 (by decide +kernel)
        simp only [] at h2 h3 h5 h7
        simp only [h2, h3, h5, h7] at hK ⊢
        refine wpOp_plain rfl rfl ?_
        go_simp
        go_at_call 18
        refine (HTG.out W hB.below).mono ?_
        rintro e W' ⟨rfl, hb⟩
        exact hK _ _ rfl hb
      · have h1 := hn 1 (by decide +kernel)
        have h8 := hn 8 (by decide +kernel)
        simp only [] at h1 h8
        simp only [h1, h8] at hK ⊢
        refine wpOp_plain rfl rfl (wp_val (run_neq16 _ (.tmp 15) (.tmp 22) rfl t g0 HTL.out HGL.out rfl rfl r hr W) ?_)
        exact hK _ _ rfl (Below.refl _ _)
    · intro vals W hB hF
      have h0 := hF 0 (by omega)
      have h1 := hF 1 (by omega)
      have h2 := hF 2 (by omega)
      have h3 := hF 3 (by omega)
      have h4 := hF 4 (by omega)
      have h5 := hF 5 (by omega)
      have h6 := hF 6 (by omega)
      have h7 := hF 7 (by omega)
      have h8 := hF 8 (by omega)
      have h9 := hF 9 (by omega)
      simp only [] at h0 h1 h2 h3 h4 h5 h6 h7 h8 h9
      simp only [frm_cons, frm_nil, List.set_cons_succ, List.set_cons_zero, Nat.reduceAdd, h0, h1, h2, h3, h4, h5, h6, h7, h8, h9]
      refine wpUpto_done (by decide +kernel) ?_ _
      have H1 := hid hB
      have q0 := E0.out _ hB
      have SDW := hid (SD.out _ hB)
      clear hB hF h0 h1 h2 h3 h4 h5 h6 h7 h8 h9 H0 E0 SD ST
      go_simp
      cases r
      · obtain rfl : u0 = ol := (HOS.out hr).1.symm
        obtain rfl : on = 0 := (HOS.out hr).2
        clear hr HOO HOS HTG
        go_wp2_with (first
          | (refine wpList_load_row rfl _ (.tmp 3) rfl w.heap.size rfl 23 (ubs key).toArray (0, 0) _ H1.out.k Tryd.underlying23 rfl HZK.out ?_)
          | (refine wpList_valW (by rfl) (run_loadB (.tmp 29) rfl (w.heap.size + 1) 1 rfl d SDW.out HDL.out) ?_)
          | (go_at_call 27; refine (HTD.out _ H1.out.below).mono ?_; rintro e1 w3 ⟨rfl, hb3⟩; have H3 := hid (H1.out.new hb3); clear hb3)
          | (refine wpList_store_row rfl _ (.tmp 6) (.tmp 31) rfl (w.heap.size + 2) (ubs u0).toArray rfl rfl 28 (ubs n32).toArray H3.out.r (sizeBk_of HUL.out) ?e5 (ubs_all _) ?e6; rotate_right))
        case e5 => simp [ubs_length, n32_length, HUL.out]
        refine bodyPost_ret (results_row_tmp rfl _ _ (w.heap.size + 2) 28 (ubs u0).toArray (0, 0) _ rfl (setRow_heap _ _ _ _ _ _ H3.out.r) Tryd.underlying28 rfl (sizeBk_of HUL.out)) rfl ?_
        exact ⟨rfl, below_setRow H3.out.below (by omega) _⟩
      · obtain rfl : ol = n32 := (HOO.out hr).1
        obtain rfl : on = 4 := (HOO.out hr).2
        clear hr HOO HOS HTG HTD SDW
        go_wp2_with (first
          | (refine wpList_valW (by rfl) (run_build_block0 rfl) ?_)
          | (refine wpList_store_row rfl _ (.tmp 6) (.tmp 24) rfl (w.heap.size + 2) (ubs n32).toArray rfl rfl 28 (ubs n32).toArray H1.out.r HZN.out rfl (ubs_all _) ?_))
        refine bodyPost_ret (results_row_tmp rfl _ _ (w.heap.size + 2) 28 (ubs n32).toArray (0, 0) _ rfl (setRow_heap _ _ _ _ _ _ H1.out.r) Tryd.underlying28 rfl HZN.out) rfl ?_
        exact ⟨rfl, below_setRow H1.out.below (by omega) _⟩
end Go.Proofs.YtnaihcoafgigcaaDoor
