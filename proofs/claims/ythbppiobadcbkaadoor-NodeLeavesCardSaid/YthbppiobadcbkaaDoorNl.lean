/-
  NodeLeaves, walked.
-/
import Derived.Test.YthbppiobadcbkaaDoorNl0
namespace Go.Proofs.YthbppiobadcbkaaDoor
open Go.RowKit

/-- What holds in the law: the sealed block; the hash; the text. -/
structure LnW (w : World) (x : List Value) (H : Nat) (lh : List UInt8) (A : Option Addr) (tx : List UInt8) (W : World) : Prop where
  x : At W w.heap.size x.toArray 27
  h : At W H (ubs lh).toArray 29
  b : Rb W W.heap.size A tx
  below : Below w.heap.size w W
section
variable {w W W' : World} {x : List Value} {H : Nat} {lh : List UInt8} {A : Option Addr} {tx : List UInt8}
theorem LnW.new (h : LnW w x H lh A tx W) (hb : Below W.heap.size W W') : LnW w x H lh A tx W' := ⟨h.x.new_ hb, h.h.new_ hb, (h.b.below hb).mono hb.size, h.below.trans (hb.mono h.below.size)⟩
theorem LnW.drew (h : LnW w x H lh A tx W) : LnW w x H lh A tx W.drew := ⟨h.x, h.h, h.b, h.below.drew⟩
end
/-- What the law's last region yields. -/
def lnF (i : Nat) (x : List Value) (lh tx : List UInt8) (A : Option Addr) (c : Nat) (k : Nat) (v : Value) (W : World) : Prop :=
  match k with
  | 0 => v = .nilIface
  | 3 => v = .nilIface
  | 7 => v = .agg (ubs lh).toArray
  | 8 => v = .int .u64 (i : Int)
  | 9 => v = .agg x.toArray
  | 10 => v = .agg (ubs lh).toArray
  | 14 => v = .slice A 61 c
  | 15 => v = .int .u64 (i : Int)
  | 16 => v = .agg x.toArray
  | 17 => ∃ B c', v = .slice B 61 c' ∧ Rb W W.heap.size B tx
  | 21 => v = .slice A 61 c
  | 22 => v = .int .i64 2
  | _ => v = .bool true
theorem lnF_new {i : Nat} {x : List Value} {lh tx : List UInt8} {A : Option Addr} {c : Nat} {k : Nat} {v : Value} {W W' : World} (h : lnF i x lh tx A c k v W) (hb : Below W.heap.size W W') : lnF i x lh tx A c k v W' := by
  by_cases e : k = 17
  · subst e
    obtain ⟨B, c', e, r⟩ := h
    exact ⟨B, c', e, (r.below hb).mono hb.size⟩
  · unfold lnF at h ⊢
    split <;> simp_all
set_option maxRecDepth 100000 in
set_option maxHeartbeats 4000000 in
theorem nodeLeaves_law (d t : List UInt8) (i e : Nat) (w : World) (hd : d.length = 32) (ht : t.length = 16) (hi : i < 18446744073709551616) (he : e < 18446744073709551616) (hAL : Alive8C w) (hLF : LeafC w) (hLT : LeafTextC w) (hKI : KindC w) (hR : Tabr w) (hI : Tab w 0 IV.l) :
    Calls Tryd.prog 3 #[.int .u64 (i : Int), .agg (sv e d t).toArray] w fun r w' => r = .returned (.bool true) ∧ Below w.heap.size w w' := by
  have HAL := hid hAL
  have HIB := hid (fun (W : World) (h : Below w.heap.size w W) => Tab.below (x := IV.a) (xs := [IV.b, IV.c, IV.d, IV.e, IV.f, IV.g, IV.h]) hI h)
  have HAH := hid (fun (o : Oper) (a : Go.Act) (W : World) (h : o.op = .alloc 29) => run_alloc_of (o := o) (a := a) (W := W) _ h _ zeroH8)
  have HAR := hid (fun (o : Oper) (a : Go.Act) (W : World) (h : o.op = .alloc 39) => run_alloc_of (o := o) (a := a) (W := W) _ h _ zeroSv)
  have HZ0 := hid (sv_length 0 n32 n16 n32_length n16_length)
  have HNL := hid n32_length
  have HXL := hid (sv_length e d t hd ht)
  have HXA := hid (sv_all e d t)
  have HDO := hid (fun W => doc_any (sv e d t) W HXL.out HXA.out)
  have H0x := hid (At.new w (sv e d t).toArray 27)
  have H0b := hid ((Below.refl w.heap.size w).alloc (Nat.le_refl _) (.cells (sv e d t).toArray 27))
  have HLF := hid (fun (W : World) (h : Below w.heap.size w W) => hLF W i e d t h hi he hd ht)
  have HLT := hid (fun (W : World) (h : Below w.heap.size w W) => hLT W i e d t h hi he hd ht)
  have HRL := hid (fun (W : World) (h : Below w.heap.size w W) => leafR_any d t i e W hd ht hi he (hR.below h) (HIB.out W h))
  have HRT := hid (fun W => leafTextR_any d t i e W hd ht hi he)
  cases hx : ixB i with
  | false =>
    have hl1 : lfH i e d t = n32 := by unfold lfH; rw [hx]; rfl
    have hl2 : lfT i e d t = [] := by unfold lfT; rw [hx]; rfl
    have c0 : decide (4294967295 < (i : Int)) = true := by unfold ixB at hx; simp at hx ⊢; omega
    have HF := hid (fun (W : World) (h : Below w.heap.size w W) => show Calls Tryd.prog 8 #[.int .u64 (i : Int), .agg (sv e d t).toArray] W (fun r w' => r = .returned (.tuple #[.agg (ubs n32).toArray, .iface 38 (.int .i64 1)]) ∧ Below W.heap.size W w') from by
      have := HLF.out W h
      rw [hl1, hx] at this
      exact this)
    have HT := hid (fun (W : World) (h : Below w.heap.size w W) => show Calls Tryd.prog 9 #[.int .u64 (i : Int), .agg (sv e d t).toArray] W (fun r w' => ∃ A c, r = .returned (.tuple #[.slice A 0 c, .iface 38 (.int .i64 1)]) ∧ Below W.heap.size W w') from by
      have := HLT.out W h
      rw [hl2, hx] at this
      refine this.mono ?_
      rintro r w' ⟨A, n, c, e1, rfl, -, e4⟩
      exact ⟨A, c, e1, e4⟩)
    have HIS := hid is_any
    generalize sv e d t = x at HF HT HXL HXA H0x H0b ⊢
    clear hd ht hi he hAL hLF hLT hKI hR hI HLF HLT HRL HRT HDO HIB hl1 hl2 hx
    go_enter Tryd.func3, Tryd.ntmps3
    go_wp2_with (first
      | (go_at_call 7; refine (HAL.out _ H0b.out).mono ?_; rintro r1 w1 ⟨rfl, hb1⟩; have X1 := hid (H0x.out.new_ hb1); have B1 := hid (H0b.out.trans (hb1.mono H0b.out.size)); clear hb1)
      | (refine wpList_valW (by rfl) (run_loadPs (.tmp 3) rfl w.heap.size rfl x _ X1.out HXL.out) ?_)
      | (go_at_call 8; refine (HF.out w1 B1.out).mono ?_; rintro r2 w2 ⟨rfl, hb2⟩; have X2 := hid (X1.out.new_ hb2); have B2 := hid (B1.out.trans (hb2.mono B1.out.size)); clear hb2)
      | (refine Great.wpList_allocTo rfl _ rfl _ _ (HAH.out _ _ _ rfl) ?_)
      | (refine wpList_store_row rfl _ (.tmp 5) (.tmp 16) rfl w2.heap.size (ubs n32).toArray rfl rfl 29 (ubs n32).toArray (heap_alloc_new _ _) (sizeH_of HNL.out) rfl (ubs_all _) ?_; have X3 := hid (X2.out.new_ (stored_below w2 n32)); have A3 := hid (stored_at w2 n32); have B3 := hid (B2.out.trans ((stored_below w2 n32).mono B2.out.size)); generalize ((w2.alloc (.cells (ubs n32).toArray 29)).setRow w2.heap.size (ubs n32).toArray) = w3 at X3 A3 B3 ⊢; generalize w2.heap.size = H at A3 ⊢)
      | (refine wpList_valW (by rfl) (run_loadPs (.tmp 3) rfl w.heap.size rfl x _ X3.out HXL.out) ?_)
      | (go_at_call 9; refine (HT.out w3 B3.out).mono ?_; rintro r4 w4 ⟨A, c, rfl, hb4⟩; have A4 := hid (A3.out.new_ hb4); have B4 := hid (B3.out.trans (hb4.mono B3.out.size)); clear hb4)
      | (go_at_call 10; refine (HIS.out _).mono ?_; rintro r5 w5 ⟨rfl, rfl⟩)
      | (refine wpList_valW (by rfl) (run_loadH (.tmp 5) rfl H 0 rfl n32 (range_whole A4.out) HNL.out) ?_)
      | (refine wpList_valW (by rfl) (run_build_hash0 rfl) ?_)
      | (refine wpList_valW (by rfl) (run_eqlH _ (.tmp 33) (.tmp 34) rfl n32 n32 HNL.out HNL.out rfl rfl true (by simp) _) ?_))
    go_ret
    exact ⟨rfl, B4.out⟩
  | true =>
    have hl1 : lfH i e d t = hashL (leafT i e d t) := by unfold lfH; rw [hx]; rfl
    have hl2 : lfT i e d t = leafT i e d t := by unfold lfT; rw [hx]; rfl
    have hi2 : i ≤ 4294967295 := of_decide_eq_true hx
    have c0 : decide (4294967295 < (i : Int)) = false := by simp; omega
    have HTL := hid (leafT_length i e d t hd ht)
    have HF := hid (fun (W : World) (h : Below w.heap.size w W) => show Calls Tryd.prog 8 #[.int .u64 (i : Int), .agg (sv e d t).toArray] W (fun r w' => r = .returned (.tuple #[.agg (ubs (hashL (leafT i e d t))).toArray, .nilIface]) ∧ Below W.heap.size W w') from by
      have := HLF.out W h
      rw [hl1, hx] at this
      exact this)
    have HT := hid (fun (W : World) (h : Below w.heap.size w W) => show Calls Tryd.prog 9 #[.int .u64 (i : Int), .agg (sv e d t).toArray] W (fun r w' => ∃ A c, r = .returned (.tuple #[.slice A 61 c, .nilIface]) ∧ Rb w' w'.heap.size A (leafT i e d t) ∧ Below W.heap.size W w') from by
      have := HLT.out W h
      rw [hl2, hx, HTL.out] at this
      refine this.mono ?_
      rintro r w' ⟨A, n, c, e1, rfl, e3, e4⟩
      exact ⟨A, c, e1, e3, e4⟩)
    have HKI := hid (fun (W : World) (A : Option Addr) (c : Nat) (h : Below w.heap.size w W) (r : Rb W W.heap.size A (leafT i e d t)) => show Calls Tryd.prog 15 #[.slice A 61 c] W (fun r w' => r = .returned (.int .i64 2) ∧ Below W.heap.size W w') from by
      have := hKI W _ A c h r (by rw [HTL.out]; omega)
      rw [kind_leaf i e d t hd ht, HTL.out] at this
      exact this)
    have HBY := hid (fun (W : World) (A B : Option Addr) (c c' : Nat) (h1 : Rb W W.heap.size A (leafT i e d t)) (h2 : Rb W W.heap.size B (leafT i e d t)) => show Calls Tryd.prog 13 #[.slice A 61 c, .slice B 61 c'] W (fun e w' => e = .returned (.bool true) ∧ W = w') from by
      have := bytes_any _ _ A B c c' W h1 h2
      rw [HTL.out] at this
      simpa using this)
    have HHL := hid (hashL_length (leafT i e d t))
    generalize hashL (leafT i e d t) = lh at HF HRL HHL
    generalize leafT i e d t = tx at HT HKI HBY HRT HTL
    generalize sv e d t = x at HF HT HXL HXA H0x H0b HRL HRT HDO ⊢
    clear hd ht hi he hAL hLF hLT hKI hR hI HLF HLT HIB hl1 hl2 hx hi2
    go_enter Tryd.func3, Tryd.ntmps3
    go_wp2_with (first
      | (go_at_call 7; refine (HAL.out _ H0b.out).mono ?_; rintro r1 w1 ⟨rfl, hb1⟩; have X1 := hid (H0x.out.new_ hb1); have B1 := hid (H0b.out.trans (hb1.mono H0b.out.size)); clear hb1)
      | (refine wpList_valW (by rfl) (run_loadPs (.tmp 3) rfl w.heap.size rfl x _ X1.out HXL.out) ?_)
      | (go_at_call 8; refine (HF.out w1 B1.out).mono ?_; rintro r2 w2 ⟨rfl, hb2⟩; have X2 := hid (X1.out.new_ hb2); have B2 := hid (B1.out.trans (hb2.mono B1.out.size)); clear hb2)
      | (refine Great.wpList_allocTo rfl _ rfl _ _ (HAH.out _ _ _ rfl) ?_)
      | (refine Great.wpList_allocTo rfl _ rfl _ _ (HAR.out _ _ _ rfl) ?_)
      | (refine wpList_store_row rfl _ (.tmp 5) (.tmp 16) rfl w2.heap.size (ubs lh).toArray rfl rfl 29 (ubs n32).toArray (heap_alloc_new _ _) (sizeH_of HHL.out) ?e5 (ubs_all _) ?e6; rotate_right; have X3 := hid (X2.out.new_ (stored_below w2 lh)); have A3 := hid (stored_at w2 lh); have B3 := hid (B2.out.trans ((stored_below w2 lh).mono B2.out.size)); generalize ((w2.alloc (.cells (ubs n32).toArray 29)).setRow w2.heap.size (ubs lh).toArray) = w3 at X3 A3 B3 ⊢; generalize w2.heap.size = H at A3 ⊢)
      | (refine wpList_valW (by rfl) (run_loadPs (.tmp 3) rfl w.heap.size rfl x _ X3.out HXL.out) ?_)
      | (go_at_call 9; refine (HT.out w3 B3.out).mono ?_; rintro r4 w4 ⟨A, c, rfl, hr4, hb4⟩; have H4 := hid (show LnW w x H lh A tx w4 from ⟨X3.out.new_ hb4, A3.out.new_ hb4, hr4, B3.out.trans (hb4.mono B3.out.size)⟩); clear hb4 hr4)
      | (refine wpList_valW (by rfl) (run_loadPs (.tmp 3) rfl w.heap.size rfl x _ H4.out.x HXL.out) ?_)
      | (go_at_call 11; refine (HDO.out w4).mono ?_; rintro r5 w5 ⟨rfl, hb5⟩; have H5 := hid (H4.out.new hb5); clear hb5)
      | (refine wpList_store_row rfl _ (.tmp 9) (.tmp 43) rfl w5.heap.size x.toArray rfl rfl 39 (sv 0 n32 n16).toArray (heap_alloc_new _ _) (sizeSv_of HXL.out) ?e7 HXA.out ?e8; rotate_right; have H6 := hid (H5.out.new (sv_stored_below w5 x)); have Y6 := hid (sv_stored w5 x); generalize ((w5.alloc (.cells (sv 0 n32 n16).toArray 39)).setRow w5.heap.size x.toArray) = w6 at H6 Y6 ⊢; generalize w5.heap.size = Y at Y6 ⊢))
    case e5 => simp [ubs_length, n32_length, HHL.out]
    case e7 => simp [HZ0.out, HXL.out]
    clear X1 X2 X3 A3 B1 B2 B3 H4 H5
    try simp only [Act.put, List.setIfInBounds_toArray, List.set_cons_succ, List.set_cons_zero]
    refine wp_region_facts 26 26 [44, 45, 46, 47, 48, 49, 50, 51, 52, 53, 54, 55, 56, 57, 58, 59, 60, 61, 62, 63, 64, 65, 66, 67, 68, 4] (lnF i x lh tx A c) (fun W => LnW w x H lh A tx W ∧ At W Y x.toArray 39) (by kernel_rfl) (by kernel_rfl)
      (fun W W' h hb => ⟨h.1.new hb, h.2.new_ hb⟩) (fun _ _ _ _ h hb => lnF_new h hb) (⟨H6.out.drew, Y6.out⟩) ?_ ?_
    · intro i hi vals W K hB hn hK
      simp only [frm_cons, frm_nil, List.set_cons_succ, List.set_cons_zero, Nat.reduceAdd] at hK ⊢
      rcases (by omega : i = 0 ∨ i = 1 ∨ i = 2 ∨ i = 3 ∨ i = 4 ∨ i = 5 ∨ i = 6 ∨ i = 7 ∨ i = 8 ∨ i = 9 ∨ i = 10 ∨ i = 11 ∨ i = 12 ∨ i = 13 ∨ i = 14 ∨ i = 15 ∨ i = 16 ∨ i = 17 ∨ i = 18 ∨ i = 19 ∨ i = 20 ∨ i = 21 ∨ i = 22 ∨ i = 23 ∨ i = 24 ∨ i = 25) with rfl | rfl | rfl | rfl | rfl | rfl | rfl | rfl | rfl | rfl | rfl | rfl | rfl | rfl | rfl | rfl | rfl | rfl | rfl | rfl | rfl | rfl | rfl | rfl | rfl | rfl
      · refine wpOp_plain rfl rfl (wp_val (w' := W) (v := .nilIface) (by go_simp) ?_)
        exact hK _ _ rfl (Below.refl _ _)
      · have h0 := hn 0 (by decide +kernel)
        simp only [lnF] at h0
        simp only [h0] at hK ⊢
        refine wpOp_plain rfl rfl (wp_val (w' := W) (v := .bool true) (by go_simp) ?_)
        exact hK _ _ rfl (Below.refl _ _)
      · have h1 := hn 1 (by decide +kernel)
        simp only [lnF] at h1
        simp only [h1] at hK ⊢
        refine wpOp_plain rfl rfl (wp_val (w' := W) (v := .bool true) (by go_simp) ?_)
        exact hK _ _ rfl (Below.refl _ _)
      · have h2 := hn 2 (by decide +kernel)
        simp only [lnF] at h2
        simp only [h2] at hK ⊢
        refine wpOp_on rfl (by rfl) (wp_val (w' := W) (v := .nilIface) (by go_simp) ?_)
        exact hK _ _ rfl (Below.refl _ _)
      · have h2 := hn 2 (by decide +kernel)
        have h3 := hn 3 (by decide +kernel)
        simp only [lnF] at h2 h3
        simp only [h2, h3] at hK ⊢
        refine wpOp_on rfl (by rfl) (wp_val (w' := W) (v := .bool true) (by go_simp) ?_)
        exact hK _ _ rfl (Below.refl _ _)
      · have h2 := hn 2 (by decide +kernel)
        have h4 := hn 4 (by decide +kernel)
        simp only [lnF] at h2 h4
        simp only [h2, h4] at hK ⊢
        refine wpOp_plain rfl rfl (wp_val (w' := W) (v := .bool true) (by go_simp) ?_)
        exact hK _ _ rfl (Below.refl _ _)
      · have h5 := hn 5 (by decide +kernel)
        simp only [lnF] at h5
        simp only [h5] at hK ⊢
        refine wpOp_plain rfl rfl (wp_val (w' := W) (v := .bool true) (by go_simp) ?_)
        exact hK _ _ rfl (Below.refl _ _)
      · have h6 := hn 6 (by decide +kernel)
        simp only [lnF] at h6
        simp only [h6] at hK ⊢
        refine wpOp_on rfl (by rfl) (wp_val (run_loadH (.tmp 5) rfl H 0 rfl lh (range_whole hB.1.h) HHL.out) ?_)
        exact hK _ _ rfl (Below.refl _ _)
      · have h6 := hn 6 (by decide +kernel)
        simp only [lnF] at h6
        simp only [h6] at hK ⊢
        refine wpOp_on rfl (by rfl) (wp_val (w' := W) (v := .int .u64 (i : Int)) (by go_simp) ?_)
        exact hK _ _ rfl (Below.refl _ _)
      · have h6 := hn 6 (by decide +kernel)
        simp only [lnF] at h6
        simp only [h6] at hK ⊢
        refine wpOp_on rfl (by rfl) (wp_val (run_loadSv (.tmp 9) rfl Y rfl x _ hB.2 HXL.out) ?_)
        exact hK _ _ rfl (Below.refl _ _)
      · have h6 := hn 6 (by decide +kernel)
        have h8 := hn 8 (by decide +kernel)
        have h9 := hn 9 (by decide +kernel)
        simp only [lnF] at h6 h8 h9
        simp only [h6, h8, h9] at hK ⊢
        refine wpOp_on rfl (by rfl) ?_
        go_simp
        go_at_call 12
        refine (HRL.out W hB.1.below).mono ?_
        rintro e W' ⟨rfl, hb⟩
        exact hK _ _ rfl hb
      · have h6 := hn 6 (by decide +kernel)
        have h7 := hn 7 (by decide +kernel)
        have h10 := hn 10 (by decide +kernel)
        simp only [lnF] at h6 h7 h10
        simp only [h6, h7, h10] at hK ⊢
        refine wpOp_on rfl (by rfl) (wp_val (run_eqlH _ (.tmp 51) (.tmp 54) rfl lh lh HHL.out HHL.out rfl rfl true (by simp) W) ?_)
        exact hK _ _ rfl (Below.refl _ _)
      · have h6 := hn 6 (by decide +kernel)
        have h11 := hn 11 (by decide +kernel)
        simp only [lnF] at h6 h11
        simp only [h6, h11] at hK ⊢
        refine wpOp_plain rfl rfl (wp_val (w' := W) (v := .bool true) (by go_simp) ?_)
        exact hK _ _ rfl (Below.refl _ _)
      · have h12 := hn 12 (by decide +kernel)
        simp only [lnF] at h12
        simp only [h12] at hK ⊢
        refine wpOp_plain rfl rfl (wp_val (w' := W) (v := .bool true) (by go_simp) ?_)
        exact hK _ _ rfl (Below.refl _ _)
      · have h13 := hn 13 (by decide +kernel)
        simp only [lnF] at h13
        simp only [h13] at hK ⊢
        refine wpOp_on rfl (by rfl) (wp_val (w' := W) (v := .slice A 61 c) (by go_simp) ?_)
        exact hK _ _ rfl (Below.refl _ _)
      · have h13 := hn 13 (by decide +kernel)
        simp only [lnF] at h13
        simp only [h13] at hK ⊢
        refine wpOp_on rfl (by rfl) (wp_val (w' := W) (v := .int .u64 (i : Int)) (by go_simp) ?_)
        exact hK _ _ rfl (Below.refl _ _)
      · have h13 := hn 13 (by decide +kernel)
        simp only [lnF] at h13
        simp only [h13] at hK ⊢
        refine wpOp_on rfl (by rfl) (wp_val (run_loadSv (.tmp 9) rfl Y rfl x _ hB.2 HXL.out) ?_)
        exact hK _ _ rfl (Below.refl _ _)
      · have h13 := hn 13 (by decide +kernel)
        have h15 := hn 15 (by decide +kernel)
        have h16 := hn 16 (by decide +kernel)
        simp only [lnF] at h13 h15 h16
        simp only [h13, h15, h16] at hK ⊢
        refine wpOp_on rfl (by rfl) ?_
        go_simp
        go_at_call 14
        refine (HRT.out W).mono ?_
        rintro e W' ⟨B, c', rfl, hr, hb⟩
        exact hK _ _ ⟨B, c', rfl, hr⟩ hb
      · have h13 := hn 13 (by decide +kernel)
        have h14 := hn 14 (by decide +kernel)
        have h17 := hn 17 (by decide +kernel)
        simp only [lnF] at h13 h14
        obtain ⟨B17, c17, e17, R17⟩ := h17
        simp only [h13, h14, e17] at hK ⊢
        refine wpOp_on rfl (by rfl) ?_
        go_simp
        go_at_call 13
        refine (HBY.out W A B17 c c17 hB.1.b R17).mono ?_
        rintro e W' ⟨rfl, rfl⟩
        exact hK _ _ rfl (Below.refl _ _)
      · have h13 := hn 13 (by decide +kernel)
        have h18 := hn 18 (by decide +kernel)
        simp only [lnF] at h13 h18
        simp only [h13, h18] at hK ⊢
        refine wpOp_plain rfl rfl (wp_val (w' := W) (v := .bool true) (by go_simp) ?_)
        exact hK _ _ rfl (Below.refl _ _)
      · have h19 := hn 19 (by decide +kernel)
        simp only [lnF] at h19
        simp only [h19] at hK ⊢
        refine wpOp_plain rfl rfl (wp_val (w' := W) (v := .bool true) (by go_simp) ?_)
        exact hK _ _ rfl (Below.refl _ _)
      · have h20 := hn 20 (by decide +kernel)
        simp only [lnF] at h20
        simp only [h20] at hK ⊢
        refine wpOp_on rfl (by rfl) (wp_val (w' := W) (v := .slice A 61 c) (by go_simp) ?_)
        exact hK _ _ rfl (Below.refl _ _)
      · have h20 := hn 20 (by decide +kernel)
        have h21 := hn 21 (by decide +kernel)
        simp only [lnF] at h20 h21
        simp only [h20, h21] at hK ⊢
        refine wpOp_on rfl (by rfl) ?_
        go_simp
        go_at_call 15
        refine (HKI.out W A c hB.1.below hB.1.b).mono ?_
        rintro e W' ⟨rfl, hb⟩
        exact hK _ _ rfl hb
      · have h20 := hn 20 (by decide +kernel)
        have h22 := hn 22 (by decide +kernel)
        simp only [lnF] at h20 h22
        simp only [h20, h22] at hK ⊢
        refine wpOp_on rfl (by rfl) (wp_val (w' := W) (v := .bool true) (by go_simp) ?_)
        exact hK _ _ rfl (Below.refl _ _)
      · have h20 := hn 20 (by decide +kernel)
        have h23 := hn 23 (by decide +kernel)
        simp only [lnF] at h20 h23
        simp only [h20, h23] at hK ⊢
        refine wpOp_plain rfl rfl (wp_val (w' := W) (v := .bool true) (by go_simp) ?_)
        exact hK _ _ rfl (Below.refl _ _)
      · have h24 := hn 24 (by decide +kernel)
        simp only [lnF] at h24
        simp only [h24] at hK ⊢
        refine wpOp_plain rfl rfl (wp_val (w' := W) (v := .bool true) (by go_simp) ?_)
        exact hK _ _ rfl (Below.refl _ _)
    · intro vals W hB hF
      have h25 := hF 25 (by omega)
      simp only [lnF] at h25
      simp only [frm_cons, frm_nil, List.set_cons_succ, List.set_cons_zero, Nat.reduceAdd, h25]
      refine wpUpto_done (by decide +kernel) ?_ _
      have HE := hid hB.1.below
      clear hB hF h25 H6 Y6
      go_simp
      go_wp2
      go_ret
      exact ⟨rfl, HE.out⟩
end Go.Proofs.YthbppiobadcbkaaDoor
