/-
  The document's layer 7: a block turned.
-/
import Derived.Test.YtnaihcoafgigcaaDoorSa
import Derived.Test.YtnaihcoafgigcaaDoorZ4
import Derived.Deep.Cut
namespace Go.Proofs.YtnaihcoafgigcaaDoor
open Go.RowKit

/-- The document's round keys as a row. -/
theorem keysR_row7 (key : List UInt8) (w : World) (hk : key.length = 16) :
    Calls Tryd.prog 45 #[.agg (ubs key).toArray] w fun e w' => ∃ g cap, e = .returned (.slice (some ⟨g, 0, none⟩) 176 cap) ∧ Rb w' w'.heap.size (some ⟨g, 0, none⟩) (rks key 11) ∧ Below w.heap.size w w' := by
  refine (keysR_any key w hk).mono ?_
  rintro e w' ⟨v, rfl, ho, _, hb⟩
  rw [keys_rks key hk] at ho
  obtain ⟨A, c, rfl, h1, _, h3, _, h5⟩ := own_form ho
  rcases A with _ | ad
  · have := (h3 rfl).1
    omega
  · obtain ⟨e1, e2, _, _⟩ := h5 ad rfl
    obtain ⟨b, off, spot⟩ := ad
    simp only at e1 e2
    subst e1 e2
    exact ⟨b, c, rfl, Rd.of_own ho, hb⟩
/-- A place as a counter; a block turned. -/
def placeC (i e : Nat) : List UInt8 := placeL i e ++ [0, 0, 0, 0]
theorem placeC_length (i e : Nat) : (placeC i e).length = 16 := by rw [placeC, List.length_append, placeL_length]; rfl
def turnedL (key : List UInt8) (i e : Nat) (b : List UInt8) : List UInt8 := turnL (rks (keyEnc key) 11) (placeC i e) b
theorem turnedL_length (key : List UInt8) (i e : Nat) (b : List UInt8) : (turnedL key i e b).length = b.length := turnL_length _ _ _
theorem splice_place (i e : Nat) : splice (ubs n16) 0 ((ubs (placeL i e)).take 16) = ubs (placeC i e) := by
  have hl := placeL_length i e
  rw [List.take_of_length_le (by rw [ubs_length, hl]; omega)]
  unfold splice placeC
  rw [List.take_zero, List.nil_append, ubs_append, ubs_length, hl]
  rfl
theorem splice_whole (x y : List UInt8) (n : Nat) (hx : x.length = n) (hy : y.length = n) : splice (ubs x) 0 ((ubs y).take n) = ubs y := by
  rw [List.take_of_length_le (by rw [ubs_length, hy]; exact Nat.le_refl _)]
  unfold splice
  rw [List.take_zero, List.nil_append, List.drop_eq_nil_of_le (by rw [ubs_length, ubs_length, hx, hy]; omega), List.append_nil]
/-- What holds in Turned. -/
structure TdW (w : World) (key b c : List UInt8) (W : World) : Prop where
  k : At W w.heap.size (ubs key).toArray 23
  b : At W (w.heap.size + 1) (ubs b).toArray 28
  r : At W (w.heap.size + 2) (ubs n32).toArray 28
  c : At W (w.heap.size + 3) (ubs c).toArray 22
  size : w.heap.size + 4 ≤ W.heap.size
  below : Below w.heap.size w W
theorem TdW.new {w W W' : World} {key b c : List UInt8} (h : TdW w key b c W) (hb : Below W.heap.size W W') : TdW w key b c W' := ⟨h.k.new_ hb, h.b.new_ hb, h.r.new_ hb, h.c.new_ hb, Nat.le_trans h.size hb.size, h.below.trans (hb.mono h.below.size)⟩
theorem TdW.drew {w W : World} {key b c : List UInt8} (h : TdW w key b c W) : TdW w key b c W.drew := ⟨h.k, h.b, h.r, h.c, h.size, below_drewN h.below 1⟩
theorem TdW.fr {w W W' : World} {key b c : List UInt8} {g : Nat} (h : TdW w key b c W) (hF : Fr (fun k => k = g) W W') (hg : w.heap.size + 4 ≤ g) : TdW w key b c W' :=
  ⟨h.k.fr hF (by omega), h.b.fr hF (by omega), h.r.fr hF (by omega), h.c.fr hF (by omega), Nat.le_trans h.size hF.size, ((Fr.of_below (S := fun k => w.heap.size ≤ k) h.below (fun _ _ h => h)).next hF (fun k hk e => by omega)).below (fun _ h => h) (Nat.le_refl _)⟩
theorem TdW.fill {w W W' : World} {key b c d : List UInt8} (h : TdW w key b c W) (hA : At W' (w.heap.size + 3) (ubs d).toArray 22) (hF : Fr (fun k => k = w.heap.size + 3) W W') : TdW w key b d W' :=
  ⟨h.k.fr hF (by omega), h.b.fr hF (by omega), h.r.fr hF (by omega), hA, Nat.le_trans h.size hF.size, ((Fr.of_below (S := fun k => w.heap.size ≤ k) h.below (fun _ _ h => h)).next hF (fun k hk e => by omega)).below (fun _ h => h) (Nat.le_refl _)⟩
theorem TdW.start (w : World) (key b : List UInt8) : TdW w key b n16 ((((w.alloc (.cells (ubs key).toArray 23)).alloc (.cells (ubs b).toArray 28)).alloc (.cells (ubs n32).toArray 28)).alloc (.cells (ubs n16).toArray 22)) :=
  ⟨(((At.new _ _ _).alloc _).alloc _).alloc _, ((At.new_at (by simp)).alloc _).alloc _, (At.new_at (by simp)).alloc _, At.new_at (by simp), by simp,
    ((((Below.refl w.heap.size w).alloc (Nat.le_refl _) _).alloc (by simp) _).alloc (by simp; omega) _).alloc (by simp; omega) _⟩
structure TeW (w : World) (key b c x : List UInt8) (D : Nat) (W : World) : Prop where
  t : TdW w key b c W
  d : At W D (ubs x).toArray 28
  far : w.heap.size + 4 ≤ D
theorem TeW.new {w W W' : World} {key b c x : List UInt8} {D : Nat} (h : TeW w key b c x D W) (hb : Below W.heap.size W W') : TeW w key b c x D W' := ⟨h.t.new hb, h.d.new_ hb, h.far⟩
theorem TeW.drew {w W : World} {key b c x : List UInt8} {D : Nat} (h : TeW w key b c x D W) : TeW w key b c x D W.drew := ⟨h.t.drew, h.d, h.far⟩
theorem sizeBk : (Tryd.prog.info? 28).map (·.size) = some 32 := by kernel_rfl
theorem sizeBk_of {l : List UInt8} (h : l.length = 32) : (Tryd.prog.info? 28).map (·.size) = some (ubs l).toArray.size := by rw [sizeBk]; simp [ubs_length, h]
set_option maxRecDepth 100000 in
set_option maxHeartbeats 2000000 in
theorem turnedR_any (key b : List UInt8) (i e : Nat) (w : World) (hk : key.length = 16) (hb : b.length = 32) (hi : i < 18446744073709551616) (he : e < 18446744073709551616) (hT : Tabr w) (hI : Tab w 0 IV.l) :
    Calls Tryd.prog 27 #[.agg (ubs key).toArray, .int .u64 (i : Int), .int .u64 (e : Int), .agg (ubs b).toArray] w fun r w' => r = .returned (.agg (ubs (turnedL key i e b)).toArray) ∧ Below w.heap.size w w' := by
  have H0 := hid (TdW.start w key b)
  have HP := hid (fun W => placeR_any i e W hi he)
  have HE := hid (fun (W : World) (h : Below w.heap.size w W) => refEnc_any key W hk (hT.below h) (Tab.below (x := IV.a) (xs := [IV.b, IV.c, IV.d, IV.e, IV.f, IV.g, IV.h]) hI h))
  have HKR := hid (fun W => keysR_row7 (keyEnc key) W (keyEnc_length key))
  have HTR := hid (fun (W : World) (g cap : Nat) (hr : Rb W W.heap.size (some ⟨g, 0, none⟩) (rks (keyEnc key) 11)) (hB : Rb W W.heap.size (some ⟨w.heap.size + 1, 0, none⟩) b) => turnR_any (rks (keyEnc key) 11) (placeC i e) b (some ⟨g, 0, none⟩) (some ⟨w.heap.size + 1, 0, none⟩) cap 32 W (placeC_length i e) (by rw [rks_length _ (keyEnc_length key)]) hr hB (by omega))
  rw [hb] at HTR
  have HCL := hid (placeC_length i e)
  have HPL := hid (placeL_length i e)
  have HSP := hid (splice_place i e)
  have HBL := hid hb
  have HKL := hid hk
  have HTL := hid (show (turnedL key i e b).length = 32 by rw [turnedL_length, hb])
  have HTD := hid (show turnL (rks (keyEnc key) 11) (placeC i e) b = turnedL key i e b from rfl)
  have hz32 := noughts32
  have hz16 := noughts16
  obtain ⟨c, hc⟩ : ∃ c, c = placeC i e := ⟨_, rfl⟩
  rw [← hc] at HTR HCL HSP HTD
  obtain ⟨t, ht⟩ : ∃ t, t = turnedL key i e b := ⟨_, rfl⟩
  rw [← ht] at HTL HTD ⊢
  rw [HTD.out] at HTR
  clear hk hb hi he hT hI hc ht
  go_enter Tryd.func27, Tryd.ntmps27
  go_upto_region 2 with (fail)
  have H1 := hid (H0.out.drew)
  clear H0
  refine wp_region_upto (fun _ => True) 5 5 (by kernel_rfl) (by kernel_rfl) ?_
  generalize ((((w.alloc (.cells (ubs key).toArray 23)).alloc (.cells (ubs b).toArray 28)).alloc (.cells (ubs n32).toArray 28)).alloc (.cells (ubs n16).toArray 22)).drew = V0 at H1 ⊢
  refine wpUpto_takeL (i := 0) (v := .slice (some ⟨w.heap.size + 3, 0, none⟩) 16 16) rfl rfl (by decide +kernel) (by decide +kernel) (by decide +kernel) (by decide +kernel) (by decide) (fun _ _ _ h => h) (Or.inl ⟨by rfl, ?_⟩) trivial ?_
  · (intro W hSW; go_simp)
  simp only [List.set_cons_succ, List.set_cons_zero]
  refine wpUpto_takeL (i := 1) (v := .int .u64 (i : Int)) rfl rfl (by decide +kernel) (by decide +kernel) (by decide +kernel) (by decide +kernel) (by decide) (fun _ _ _ h => h) (Or.inl ⟨by rfl, ?_⟩) trivial ?_
  · (intro W hSW; go_simp)
  simp only [List.set_cons_succ, List.set_cons_zero]
  refine wpUpto_takeL (i := 2) (v := .int .u64 (e : Int)) rfl rfl (by decide +kernel) (by decide +kernel) (by decide +kernel) (by decide +kernel) (by decide) (fun _ _ _ h => h) (Or.inl ⟨by rfl, ?_⟩) trivial ?_
  · (intro W hSW; go_simp)
  simp only [List.set_cons_succ, List.set_cons_zero]
  refine wpUpto_one (i := 3) rfl (by decide +kernel) rfl ?_
  intro Q0 hQ0
  go_simp
  go_at_call 31
  refine (HP.out V0).mono ?_
  rintro e1 w1 ⟨A1, c1, rfl, hO1⟩
  have H2 := hid (H1.out.new hO1.below)
  have R2 := hid (Rd.of_own hO1.own)
  clear hO1
  refine hQ0.out _ _ (fun _ => trivial) ?_
  clear hQ0 Q0
  refine wpUpto_one (i := 4) rfl (by decide +kernel) rfl ?_
  intro Q0 hQ0
  refine wp_copy_rd (.tmp 11) (.tmp 14) _ _ rfl 5 Tryd.underlying55 sizeU8 (w.heap.size + 3) 0 16 16 w1.heap.size A1 12 c1 rfl rfl (ubs n16) 22 H2.out.c (ubs (placeL i e)) R2.out (by rw [ubs_length, HPL.out]) (by rw [ubs_length, n16_length]; omega) (ubs_one _) ?_
  intro w2 hA2 hF2
  rw [HSP.out] at hA2
  have H3 := hid (H2.out.fill hA2 hF2)
  clear hA2 hF2
  refine hQ0.out _ _ (fun _ => trivial) ?_
  clear hQ0 Q0
  refine wpUpto_done (by decide +kernel) ?_ _
  go_simp
  clear H1 H2 R2
  go_upto_region 4 with (fail)
  have H4 := hid (show TeW w key b c n32 w2.heap.size (w2.alloc (.cells (ubs n32).toArray 28)).drew from TeW.drew ⟨H3.out.new ((Below.refl _ _).alloc (Nat.le_refl _) _), At.new _ _ _, H3.out.size⟩)
  clear H3
  refine wp_region_upto (TdW w key b c) 8 8 (by kernel_rfl) (by kernel_rfl) ?_
  generalize (w2.alloc (.cells (ubs n32).toArray 28)).drew = V1 at H4 ⊢
  generalize w2.heap.size = D at H4 ⊢
  refine wpUpto_takeL (i := 0) (v := .slice (some ⟨D, 0, none⟩) 32 32) rfl rfl (by decide +kernel) (by decide +kernel) (by decide +kernel) (by decide +kernel) (by decide) (fun _ _ _ h => h) (Or.inl ⟨by rfl, ?_⟩) H4.out.t ?_
  · (intro W hSW; go_simp)
  simp only [List.set_cons_succ, List.set_cons_zero]
  refine wpUpto_takeL (i := 1) (v := .agg (ubs key).toArray) rfl rfl (by decide +kernel) (by decide +kernel) (by decide +kernel) (by decide +kernel) (by decide) (fun _ _ _ h => h) (Or.inl ⟨by rfl, ?_⟩) H4.out.t ?_
  · (intro W hSW; exact run_load_part 23 (.tmp 4) rfl w.heap.size 0 rfl (ubs key) _ (range_at (a := []) (m := key) (z := []) hSW.k (by simp)) Tryd.underlying23 rfl (by rw [sizeKey, ubs_length, HKL.out]))
  simp only [List.set_cons_succ, List.set_cons_zero]
  refine wpUpto_takeL (i := 4) (v := .agg (ubs c).toArray) rfl rfl (by decide +kernel) (by decide +kernel) (by decide +kernel) (by decide +kernel) (by decide) (fun _ _ _ h => h) (Or.inl ⟨by rfl, ?_⟩) H4.out.t ?_
  · (intro W hSW; exact run_load_part 22 (.tmp 9) rfl (w.heap.size + 3) 0 rfl (ubs c) _ (range_at (a := []) (m := c) (z := []) hSW.c (by simp)) Tryd.underlying22 rfl (by rw [size16, ubs_length, HCL.out]))
  simp only [List.set_cons_succ, List.set_cons_zero]
  refine wpUpto_takeL (i := 5) (v := .slice (some ⟨w.heap.size + 1, 0, none⟩) 32 32) rfl rfl (by decide +kernel) (by decide +kernel) (by decide +kernel) (by decide +kernel) (by decide) (fun _ _ _ h => h) (Or.inl ⟨by rfl, ?_⟩) H4.out.t ?_
  · (intro W hSW; go_simp)
  simp only [List.set_cons_succ, List.set_cons_zero]
  refine wpUpto_one (i := 2) rfl (by decide +kernel) rfl ?_
  intro Q0 hQ0
  go_simp
  go_at_call 46
  refine (HE.out V1 H4.out.t.below).mono ?_
  rintro e3 w3 ⟨rfl, hb3⟩
  have H5 := hid (H4.out.new hb3)
  clear hb3
  refine hQ0.out _ _ (fun _ => H5.out.t) ?_
  clear hQ0 Q0
  refine wpUpto_one (i := 3) rfl (by decide +kernel) rfl ?_
  intro Q0 hQ0
  go_simp
  go_at_call 45
  refine (HKR.out w3).mono ?_
  rintro e4 w4 ⟨g, cap, rfl, hrb, hb4⟩
  have H6 := hid (H5.out.new hb4)
  have R6 := hid hrb
  clear hb4 hrb
  refine hQ0.out _ _ (fun _ => H6.out.t) ?_
  clear hQ0 Q0
  refine wpUpto_one (i := 6) rfl (by decide +kernel) rfl ?_
  intro Q0 hQ0
  go_simp
  go_at_call 44
  refine (HTR.out w4 g cap R6.out (rb_at H6.out.t.b)).mono ?_
  rintro e5 w5 ⟨A5, c5, rfl, hO5⟩
  have H7 := hid (H6.out.new hO5.below)
  have R7 := hid (Rd.of_own hO5.own)
  clear hO5
  refine hQ0.out _ _ (fun _ => H7.out.t) ?_
  clear hQ0 Q0
  refine wpUpto_one (i := 7) rfl (by decide +kernel) rfl ?_
  intro Q0 hQ0
  refine wp_copy_rd (.tmp 16) (.tmp 22) _ _ rfl 5 Tryd.underlying55 sizeU8 D 0 32 32 w5.heap.size A5 32 c5 rfl rfl (ubs n32) 28 H7.out.d (ubs t) R7.out (by rw [ubs_length, HTL.out]) (by rw [ubs_length, n32_length]; omega) (ubs_one _) ?_
  intro w6 hA6 hF6
  rw [splice_whole n32 t 32 n32_length HTL.out] at hA6
  have H8 := hid (H7.out.t.fr hF6 H7.out.far)
  have A8 := hid hA6
  clear hA6 hF6
  refine hQ0.out _ _ (fun _ => H8.out) ?_
  clear hQ0 Q0
  refine wpUpto_done (by decide +kernel) ?_ _
  go_simp
  clear H4 H5 H6 H7 R6 R7
  go_wp2_with (first
    | (refine wpList_load_row rfl _ (.tmp 10) rfl D rfl 28 (ubs t).toArray (0, 0) _ A8.out Tryd.underlying28 rfl (sizeBk_of HTL.out) ?_)
    | (refine wpList_store_row rfl _ (.tmp 8) (.tmp 24) rfl (w.heap.size + 2) (ubs t).toArray rfl rfl 28 (ubs n32).toArray H8.out.r (sizeBk_of HTL.out) ?e7 (ubs_all _) ?e8; rotate_right))
  case e7 => simp [ubs_length, n32_length, HTL.out]
  refine bodyPost_ret (results_cell_row rfl _ _ (w.heap.size + 2) 28 (ubs t).toArray (0, 0) _ rfl (setRow_heap _ _ _ _ _ _ H8.out.r) Tryd.underlying28 rfl (sizeBk_of HTL.out)) rfl ?_
  exact ⟨rfl, below_setRow H8.out.below (by omega) _⟩
end Go.Proofs.YtnaihcoafgigcaaDoor
