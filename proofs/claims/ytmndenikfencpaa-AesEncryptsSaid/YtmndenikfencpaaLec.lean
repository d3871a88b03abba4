/-
  AesEncrypts, walked.
-/
import Derived.Test.YtmndenikfencpaaLke
import Derived.Test.YtmndenikfencpaaEn
namespace Go.Proofs.Ytmndenikfencpaa
open Go.RowKit

/-- What holds while the law goes on. -/
structure LeW (w : World) (key b x : List UInt8) (C X : Nat) (W : World) : Prop where
  arg : At W w.heap.size (ubs key).toArray 27
  blk : At W (w.heap.size + 1) (ubs b).toArray 26
  c : At W C (ubs (rks key 11)).toArray 47
  x : At W X (ubs x).toArray 26
  below : Below w.heap.size w W
theorem LeW.new {w W W' : World} {key b x : List UInt8} {C X : Nat} (h : LeW w key b x C X W) (hb : Below W.heap.size W W') : LeW w key b x C X W' := ⟨h.arg.new_ hb, h.blk.new_ hb, h.c.new_ hb, h.x.new_ hb, h.below.trans (hb.mono h.below.size)⟩
theorem LeW.drew {w W : World} {key b x : List UInt8} {C X : Nat} (h : LeW w key b x C X W) : LeW w key b x C X W.drew := ⟨h.arg, h.blk, h.c, h.x, below_drewN h.below 1⟩
set_option maxRecDepth 100000 in
set_option maxHeartbeats 4000000 in
theorem encrypts_law (key b : List UInt8) (w : World) (hk : key.length = 16) (hb : b.length = 16) :
    Calls Try.prog 5 #[.agg (ubs key).toArray, .agg (ubs b).toArray] w fun e w' => e = .returned (.bool true) ∧ Below w.heap.size w w' := by
  have HAL := hid (fun W => alive_any W)
  have HN := hid (fun W => new_any key W hk)
  have HNN := hid (fun W => new_any n16 W n16_length)
  have HKR := hid (fun W => keysR_row key W hk)
  have HZK := hid (sizeKey_of hk)
  have HZB := hid (size16_of hb)
  have HKL := hid hk
  have HBL := hid hb
  have hz := noughts16
  have HB0 := hid ((((Below.refl w.heap.size w).alloc (Nat.le_refl _) (.cells (ubs key).toArray 27)).alloc (by simp) (.cells (ubs b).toArray 26)))
  have HA0 := hid ((At.new w (ubs key).toArray 27).alloc (.cells (ubs b).toArray 26))
  have HK0 := hid (show At ((w.alloc (.cells (ubs key).toArray 27)).alloc (.cells (ubs b).toArray 26)) (w.heap.size + 1) (ubs b).toArray 26 from At.new_at (by simp))
  have hDX := dec_enc (rks key 11) b hb
  have hED := enc_dec (rks key 11) b hb
  have hDY := dec_enc (rks n16 11) b hb
  obtain ⟨x, hx⟩ : ∃ x, x = encL (rks key 11) b := ⟨_, rfl⟩
  obtain ⟨y, hy⟩ : ∃ y, y = encL (rks n16 11) b := ⟨_, rfl⟩
  obtain ⟨d, hd⟩ : ∃ d, d = decL (rks key 11) b := ⟨_, rfl⟩
  have HXL := hid (show x.length = 16 by rw [hx]; exact encK_length _ _ 10)
  have HYL := hid (show y.length = 16 by rw [hy]; exact encK_length _ _ 10)
  have HDL := hid (show d.length = 16 by rw [hd]; exact decL_length _ _)
  rw [← hx] at hDX
  rw [← hy] at hDY
  rw [← hd] at hED
  have HER := fun (W : World) (g cap : Nat) (h : Rb W W.heap.size (some ⟨g, 0, none⟩) (rks key 11)) => encrypt_any (rks key 11) b (some ⟨g, 0, none⟩) cap W hb (by rw [rks_length key hk]) h
  have HE := fun (W : World) (p : Option Addr) (h : Cip W key p) => encrypt_p key b p W hk hb h
  have HEN := fun (p : Option Addr) (W : World) (h : Cip W n16 p) => encrypt_p n16 b p W n16_length hb h
  have HDX := fun (W : World) {p : Option Addr} (h : Cip W key p) => decrypt_p key x p W hk HXL.out h
  have HDB := fun (W : World) {p : Option Addr} (h : Cip W key p) => decrypt_p key b p W hk hb h
  have HED := fun (W : World) {p : Option Addr} (h : Cip W key p) => encrypt_p key d p W hk HDL.out h
  have HDY := fun (W : World) {p : Option Addr} (h : Cip W n16 p) => decrypt_p n16 y p W n16_length HYL.out h
  rw [← hx] at HER HE
  rw [← hy] at HEN
  rw [hDX] at HDX
  rw [← hd] at HDB
  rw [hED] at HED
  rw [hDY] at HDY
  replace HER := hid HER
  replace HE := hid HE
  replace HEN := hid HEN
  replace HDX := hid @HDX
  replace HDB := hid @HDB
  replace HED := hid @HED
  replace HDY := hid @HDY
  clear hk hb hDX hED hDY hx hy hd
  go_enter Try.func5, Try.ntmps5
  go_upto_region 6 with (first
    | (go_at_call 7; refine (HAL.out _).mono ?_; rintro e w1 ⟨rfl, hw⟩; rw [hw]; clear hw)
    | (refine wpList_load_row rfl _ (.tmp 2) rfl w.heap.size rfl 27 (ubs key).toArray (0, 0) _ HA0.out Try.underlying27 rfl HZK.out ?_)
    | (go_at_call 14; refine (HN.out _).mono ?_; rintro e w1 ⟨C, rfl, -, hC, hb1⟩; have B1 := hid (HB0.out.trans (hb1.mono HB0.out.size)); have A1 := hid (HA0.out.new_ hb1); have K1 := hid (HK0.out.new_ hb1); have C1 := hid hC; clear hb1 hC)
    | (refine wpList_load_row rfl _ (.tmp 3) rfl (w.heap.size + 1) rfl 26 (ubs b).toArray (0, 0) _ K1.out Try.underlying26 rfl HZB.out ?_)
    | (go_at_call 19; refine (HE.out w1 (some ⟨C, 0, none⟩) (.inr ⟨C, rfl, C1.out⟩)).mono ?_; rintro e w2 ⟨rfl, hb2⟩; have B2 := hid (B1.out.trans (hb2.mono B1.out.size)); have A2 := hid (A1.out.new_ hb2); have K2 := hid (K1.out.new_ hb2); have C2 := hid (C1.out.new_ hb2); clear hb2)
    | (refine wpList_store_row rfl _ (.tmp 7) (.tmp 14) rfl w2.heap.size (ubs x).toArray rfl rfl 26 (ubs n16).toArray (heap_alloc_new _ _) (size16_of HXL.out) ?e1 (ubs_all _) ?e2; rotate_right; have E5 := hid (show LeW w key b x C w2.heap.size ((w2.alloc (.cells (ubs n16).toArray 26)).setRow w2.heap.size (ubs x).toArray) from ⟨A2.out.new_ (stored16_below w2 _), K2.out.new_ (stored16_below w2 _), C2.out.new_ (stored16_below w2 _), stored16_at w2 _, B2.out.trans ((stored16_below w2 _).mono B2.out.size)⟩); generalize ((w2.alloc (.cells (ubs n16).toArray 26)).setRow w2.heap.size (ubs x).toArray) = w3 at E5 ⊢))
  case e1 => simp [ubs_length, n16_length, HXL.out]
  have H0 := hid (show LeW w key b x C w2.heap.size w3.drew from E5.out.drew)
  clear E5 A1 A2 B1 B2 C1 C2 K1 K2 HA0 HB0 HK0
  generalize w2.heap.size = X at H0 ⊢
  refine wp_region_upto (LeW w key b x C X) 41 42 (by kernel_rfl) (by kernel_rfl) ?_
  generalize w3.drew = V0 at H0 ⊢
  refine wpUpto_takeL (i := 0) (v := .agg (ubs x).toArray) rfl rfl (by kernel_rfl) (by kernel_rfl) (by kernel_rfl) (by kernel_rfl) (by decide) (fun _ _ _ h => h) (Or.inl ⟨by rfl, ?_⟩) H0.out ?_
  · (intro W hSW; exact run_load_16 (.tmp 7) rfl X rfl x HXL.out hSW.x)
  simp only [List.set_cons_succ, List.set_cons_zero]
  refine wpUpto_takeL (i := 1) (v := .agg (ubs key).toArray) rfl rfl (by kernel_rfl) (by kernel_rfl) (by kernel_rfl) (by kernel_rfl) (by decide) (fun _ _ _ h => h) (Or.inl ⟨by rfl, ?_⟩) H0.out ?_
  · (intro W hSW; exact run_load_part 27 (.tmp 2) rfl w.heap.size 0 rfl (ubs key) _ (range_at (a := []) (m := key) (z := []) hSW.arg (by simp)) Try.underlying27 rfl (by rw [sizeKey, ubs_length, HKL.out]))
  simp only [List.set_cons_succ, List.set_cons_zero]
  refine wpUpto_takeL (i := 3) (v := .agg (ubs b).toArray) rfl rfl (by kernel_rfl) (by kernel_rfl) (by kernel_rfl) (by kernel_rfl) (by decide) (fun _ _ _ h => h) (Or.inl ⟨by rfl, ?_⟩) H0.out ?_
  · (intro W hSW; exact run_load_16 (.tmp 3) rfl (w.heap.size + 1) rfl b HBL.out hSW.blk)
  simp only [List.set_cons_succ, List.set_cons_zero]
  refine wpUpto_oneG (i := 2) rfl (by kernel_rfl) (by rfl) ?_
  intro Q0 hQ0
  go_simp
  go_at_call 18
  refine (HKR.out V0).mono ?_
  rintro e w1 ⟨g, cap, rfl, hcap, hrb, hb1⟩
  have H1 := hid (H0.out.new hb1); have R1 := hid hrb; clear hb1 hrb hcap
  refine hQ0.out _ _ (fun _ => H1.out) ?_
  clear hQ0 Q0
  refine wpUpto_oneG (i := 4) rfl (by kernel_rfl) (by rfl) ?_
  intro Q0 hQ0
  go_simp
  go_at_call 20
  refine (HER.out w1 g cap R1.out).mono ?_
  rintro e w2 ⟨rfl, hb2⟩
  have H2 := hid (H1.out.new hb2); clear hb2
  refine hQ0.out _ _ (fun _ => H2.out) ?_
  clear hQ0 Q0
  refine wpUpto_takeL (i := 5) (v := .bool true) rfl rfl (by kernel_rfl) (by kernel_rfl) (by kernel_rfl) (by kernel_rfl) (by decide) (fun _ _ _ h => h) (Or.inl ⟨by rfl, ?_⟩) H2.out ?_
  · (intro W hSW; exact run_eql_blocks _ (.tmp 15) (.tmp 19) rfl x HXL.out rfl rfl W)
  simp only [List.set_cons_succ, List.set_cons_zero]
  refine wpUpto_takeL (i := 6) (v := .bool true) rfl rfl (by kernel_rfl) (by kernel_rfl) (by kernel_rfl) (by kernel_rfl) (by decide) (fun _ _ _ h => h) (Or.inl ⟨by rfl, ?_⟩) H2.out ?_
  · (intro W hSW; go_simp)
  simp only [List.set_cons_succ, List.set_cons_zero]
  refine wpUpto_takeL (i := 7) (v := .pointer (some ⟨C, 0, none⟩)) rfl rfl (by kernel_rfl) (by kernel_rfl) (by kernel_rfl) (by kernel_rfl) (by decide) (fun _ _ _ h => h) (Or.inl ⟨by rfl, ?_⟩) H2.out ?_
  · (intro W hSW; go_simp)
  simp only [List.set_cons_succ, List.set_cons_zero]
  refine wpUpto_takeL (i := 8) (v := .agg (ubs x).toArray) rfl rfl (by kernel_rfl) (by kernel_rfl) (by kernel_rfl) (by kernel_rfl) (by decide) (fun _ _ _ h => h) (Or.inl ⟨by rfl, ?_⟩) H2.out ?_
  · (intro W hSW; exact run_load_16 (.tmp 7) rfl X rfl x HXL.out hSW.x)
  simp only [List.set_cons_succ, List.set_cons_zero]
  refine wpUpto_takeL (i := 10) (v := .agg (ubs b).toArray) rfl rfl (by kernel_rfl) (by kernel_rfl) (by kernel_rfl) (by kernel_rfl) (by decide) (fun _ _ _ h => h) (Or.inl ⟨by rfl, ?_⟩) H2.out ?_
  · (intro W hSW; exact run_load_16 (.tmp 3) rfl (w.heap.size + 1) rfl b HBL.out hSW.blk)
  simp only [List.set_cons_succ, List.set_cons_zero]
  refine wpUpto_oneG (i := 9) rfl (by kernel_rfl) (by rfl) ?_
  intro Q0 hQ0
  go_simp
  go_at_call 21
  refine (HDX.out w2 (.inr ⟨C, rfl, H2.out.c⟩)).mono ?_
  rintro e w3 ⟨rfl, hb3⟩
  have H3 := hid (H2.out.new hb3); clear hb3
  refine hQ0.out _ _ (fun _ => H3.out) ?_
  clear hQ0 Q0
  refine wpUpto_takeL (i := 11) (v := .bool true) rfl rfl (by kernel_rfl) (by kernel_rfl) (by kernel_rfl) (by kernel_rfl) (by decide) (fun _ _ _ h => h) (Or.inl ⟨by rfl, ?_⟩) H3.out ?_
  · (intro W hSW; exact run_eql_blocks _ (.tmp 24) (.tmp 25) rfl b HBL.out rfl rfl W)
  simp only [List.set_cons_succ, List.set_cons_zero]
  refine wpUpto_takeL (i := 12) (v := .bool true) rfl rfl (by kernel_rfl) (by kernel_rfl) (by kernel_rfl) (by kernel_rfl) (by decide) (fun _ _ _ h => h) (Or.inl ⟨by rfl, ?_⟩) H3.out ?_
  · (intro W hSW; go_simp)
  simp only [List.set_cons_succ, List.set_cons_zero]
  refine wpUpto_takeL (i := 13) (v := .bool true) rfl rfl (by kernel_rfl) (by kernel_rfl) (by kernel_rfl) (by kernel_rfl) (by decide) (fun _ _ _ h => h) (Or.inl ⟨by rfl, ?_⟩) H3.out ?_
  · (intro W hSW; go_simp)
  simp only [List.set_cons_succ, List.set_cons_zero]
  refine wpUpto_takeL (i := 14) (v := .pointer (some ⟨C, 0, none⟩)) rfl rfl (by kernel_rfl) (by kernel_rfl) (by kernel_rfl) (by kernel_rfl) (by decide) (fun _ _ _ h => h) (Or.inl ⟨by rfl, ?_⟩) H3.out ?_
  · (intro W hSW; go_simp)
  simp only [List.set_cons_succ, List.set_cons_zero]
  refine wpUpto_takeL (i := 15) (v := .pointer (some ⟨C, 0, none⟩)) rfl rfl (by kernel_rfl) (by kernel_rfl) (by kernel_rfl) (by kernel_rfl) (by decide) (fun _ _ _ h => h) (Or.inl ⟨by rfl, ?_⟩) H3.out ?_
  · (intro W hSW; go_simp)
  simp only [List.set_cons_succ, List.set_cons_zero]
  refine wpUpto_takeL (i := 16) (v := .agg (ubs b).toArray) rfl rfl (by kernel_rfl) (by kernel_rfl) (by kernel_rfl) (by kernel_rfl) (by decide) (fun _ _ _ h => h) (Or.inl ⟨by rfl, ?_⟩) H3.out ?_
  · (intro W hSW; exact run_load_16 (.tmp 3) rfl (w.heap.size + 1) rfl b HBL.out hSW.blk)
  simp only [List.set_cons_succ, List.set_cons_zero]
  refine wpUpto_takeL (i := 19) (v := .agg (ubs b).toArray) rfl rfl (by kernel_rfl) (by kernel_rfl) (by kernel_rfl) (by kernel_rfl) (by decide) (fun _ _ _ h => h) (Or.inl ⟨by rfl, ?_⟩) H3.out ?_
  · (intro W hSW; exact run_load_16 (.tmp 3) rfl (w.heap.size + 1) rfl b HBL.out hSW.blk)
  simp only [List.set_cons_succ, List.set_cons_zero]
  refine wpUpto_oneG (i := 17) rfl (by kernel_rfl) (by rfl) ?_
  intro Q0 hQ0
  go_simp
  go_at_call 21
  refine (HDB.out w3 (.inr ⟨C, rfl, H3.out.c⟩)).mono ?_
  rintro e w4 ⟨rfl, hb4⟩
  have H4 := hid (H3.out.new hb4); clear hb4
  refine hQ0.out _ _ (fun _ => H4.out) ?_
  clear hQ0 Q0
  refine wpUpto_oneG (i := 18) rfl (by kernel_rfl) (by rfl) ?_
  intro Q0 hQ0
  go_simp
  go_at_call 19
  refine (HED.out w4 (.inr ⟨C, rfl, H4.out.c⟩)).mono ?_
  rintro e w5 ⟨rfl, hb5⟩
  have H5 := hid (H4.out.new hb5); clear hb5
  refine hQ0.out _ _ (fun _ => H5.out) ?_
  clear hQ0 Q0
  refine wpUpto_takeL (i := 20) (v := .bool true) rfl rfl (by kernel_rfl) (by kernel_rfl) (by kernel_rfl) (by kernel_rfl) (by decide) (fun _ _ _ h => h) (Or.inl ⟨by rfl, ?_⟩) H5.out ?_
  · (intro W hSW; exact run_eql_blocks _ (.tmp 33) (.tmp 34) rfl b HBL.out rfl rfl W)
  simp only [List.set_cons_succ, List.set_cons_zero]
  refine wpUpto_takeL (i := 21) (v := .bool true) rfl rfl (by kernel_rfl) (by kernel_rfl) (by kernel_rfl) (by kernel_rfl) (by decide) (fun _ _ _ h => h) (Or.inl ⟨by rfl, ?_⟩) H5.out ?_
  · (intro W hSW; go_simp)
  simp only [List.set_cons_succ, List.set_cons_zero]
  refine wpUpto_takeL (i := 22) (v := .bool true) rfl rfl (by kernel_rfl) (by kernel_rfl) (by kernel_rfl) (by kernel_rfl) (by decide) (fun _ _ _ h => h) (Or.inl ⟨by rfl, ?_⟩) H5.out ?_
  · (intro W hSW; go_simp)
  simp only [List.set_cons_succ, List.set_cons_zero]
  refine wpUpto_takeL (i := 23) (v := .pointer none) rfl rfl (by kernel_rfl) (by kernel_rfl) (by kernel_rfl) (by kernel_rfl) (by decide) (fun _ _ _ h => h) (Or.inl ⟨by rfl, ?_⟩) H5.out ?_
  · (intro W hSW; go_simp)
  simp only [List.set_cons_succ, List.set_cons_zero]
  refine wpUpto_takeL (i := 24) (v := .agg (ubs b).toArray) rfl rfl (by kernel_rfl) (by kernel_rfl) (by kernel_rfl) (by kernel_rfl) (by decide) (fun _ _ _ h => h) (Or.inl ⟨by rfl, ?_⟩) H5.out ?_
  · (intro W hSW; exact run_load_16 (.tmp 3) rfl (w.heap.size + 1) rfl b HBL.out hSW.blk)
  simp only [List.set_cons_succ, List.set_cons_zero]
  refine wpUpto_takeL (i := 26) (v := .agg (ubs n16).toArray) rfl rfl (by kernel_rfl) (by kernel_rfl) (by kernel_rfl) (by kernel_rfl) (by decide) (fun _ _ _ h => h) (Or.inl ⟨by rfl, ?_⟩) H5.out ?_
  · (intro W hSW; go_simp)
  simp only [List.set_cons_succ, List.set_cons_zero]
  refine wpUpto_takeL (i := 28) (v := .agg (ubs b).toArray) rfl rfl (by kernel_rfl) (by kernel_rfl) (by kernel_rfl) (by kernel_rfl) (by decide) (fun _ _ _ h => h) (Or.inl ⟨by rfl, ?_⟩) H5.out ?_
  · (intro W hSW; exact run_load_16 (.tmp 3) rfl (w.heap.size + 1) rfl b HBL.out hSW.blk)
  simp only [List.set_cons_succ, List.set_cons_zero]
  refine wpUpto_oneG (i := 25) rfl (by kernel_rfl) (by rfl) ?_
  intro Q0 hQ0
  go_simp
  go_at_call 19
  refine (HEN.out none w5 (.inl ⟨rfl, rfl⟩)).mono ?_
  rintro e w6 ⟨rfl, hb6⟩
  have H6 := hid (H5.out.new hb6); clear hb6
  refine hQ0.out _ _ (fun _ => H6.out) ?_
  clear hQ0 Q0
  refine wpUpto_oneG (i := 27) rfl (by kernel_rfl) (by rfl) ?_
  intro Q0 hQ0
  go_simp
  go_at_call 14
  refine (HNN.out w6).mono ?_
  rintro e w7 ⟨C2, rfl, -, hC2, hb7⟩
  have H7 := hid (H6.out.new hb7); have C7 := hid hC2; clear hb7 hC2
  refine hQ0.out _ _ (fun _ => H7.out) ?_
  clear hQ0 Q0
  refine wpUpto_oneG (i := 29) rfl (by kernel_rfl) (by rfl) ?_
  intro Q0 hQ0
  go_simp
  go_at_call 19
  refine (HEN.out (some ⟨C2, 0, none⟩) w7 (.inr ⟨C2, rfl, C7.out⟩)).mono ?_
  rintro e w8 ⟨rfl, hb8⟩
  have H8 := hid (H7.out.new hb8); clear hb8
  refine hQ0.out _ _ (fun _ => H8.out) ?_
  clear hQ0 Q0
  refine wpUpto_takeL (i := 30) (v := .bool true) rfl rfl (by kernel_rfl) (by kernel_rfl) (by kernel_rfl) (by kernel_rfl) (by decide) (fun _ _ _ h => h) (Or.inl ⟨by rfl, ?_⟩) H8.out ?_
  · (intro W hSW; exact run_eql_blocks _ (.tmp 40) (.tmp 44) rfl y HYL.out rfl rfl W)
  simp only [List.set_cons_succ, List.set_cons_zero]
  refine wpUpto_takeL (i := 31) (v := .bool true) rfl rfl (by kernel_rfl) (by kernel_rfl) (by kernel_rfl) (by kernel_rfl) (by decide) (fun _ _ _ h => h) (Or.inl ⟨by rfl, ?_⟩) H8.out ?_
  · (intro W hSW; go_simp)
  simp only [List.set_cons_succ, List.set_cons_zero]
  refine wpUpto_takeL (i := 32) (v := .bool true) rfl rfl (by kernel_rfl) (by kernel_rfl) (by kernel_rfl) (by kernel_rfl) (by decide) (fun _ _ _ h => h) (Or.inl ⟨by rfl, ?_⟩) H8.out ?_
  · (intro W hSW; go_simp)
  simp only [List.set_cons_succ, List.set_cons_zero]
  refine wpUpto_takeL (i := 33) (v := .pointer none) rfl rfl (by kernel_rfl) (by kernel_rfl) (by kernel_rfl) (by kernel_rfl) (by decide) (fun _ _ _ h => h) (Or.inl ⟨by rfl, ?_⟩) H8.out ?_
  · (intro W hSW; go_simp)
  simp only [List.set_cons_succ, List.set_cons_zero]
  refine wpUpto_takeL (i := 34) (v := .pointer none) rfl rfl (by kernel_rfl) (by kernel_rfl) (by kernel_rfl) (by kernel_rfl) (by decide) (fun _ _ _ h => h) (Or.inl ⟨by rfl, ?_⟩) H8.out ?_
  · (intro W hSW; go_simp)
  simp only [List.set_cons_succ, List.set_cons_zero]
  refine wpUpto_takeL (i := 35) (v := .agg (ubs b).toArray) rfl rfl (by kernel_rfl) (by kernel_rfl) (by kernel_rfl) (by kernel_rfl) (by decide) (fun _ _ _ h => h) (Or.inl ⟨by rfl, ?_⟩) H8.out ?_
  · (intro W hSW; exact run_load_16 (.tmp 3) rfl (w.heap.size + 1) rfl b HBL.out hSW.blk)
  simp only [List.set_cons_succ, List.set_cons_zero]
  refine wpUpto_takeL (i := 38) (v := .agg (ubs b).toArray) rfl rfl (by kernel_rfl) (by kernel_rfl) (by kernel_rfl) (by kernel_rfl) (by decide) (fun _ _ _ h => h) (Or.inl ⟨by rfl, ?_⟩) H8.out ?_
  · (intro W hSW; exact run_load_16 (.tmp 3) rfl (w.heap.size + 1) rfl b HBL.out hSW.blk)
  simp only [List.set_cons_succ, List.set_cons_zero]
  refine wpUpto_oneG (i := 36) rfl (by kernel_rfl) (by rfl) ?_
  intro Q0 hQ0
  go_simp
  go_at_call 19
  refine (HEN.out none w8 (.inl ⟨rfl, rfl⟩)).mono ?_
  rintro e w9 ⟨rfl, hb9⟩
  have H9 := hid (H8.out.new hb9); clear hb9
  refine hQ0.out _ _ (fun _ => H9.out) ?_
  clear hQ0 Q0
  refine wpUpto_oneG (i := 37) rfl (by kernel_rfl) (by rfl) ?_
  intro Q0 hQ0
  go_simp
  go_at_call 21
  refine (HDY.out w9 (.inl ⟨rfl, rfl⟩)).mono ?_
  rintro e wa ⟨rfl, hba⟩
  have Ha := hid (H9.out.new hba); clear hba
  refine hQ0.out _ _ (fun _ => Ha.out) ?_
  clear hQ0 Q0
  refine wpUpto_takeL (i := 39) (v := .bool true) rfl rfl (by kernel_rfl) (by kernel_rfl) (by kernel_rfl) (by kernel_rfl) (by decide) (fun _ _ _ h => h) (Or.inl ⟨by rfl, ?_⟩) Ha.out ?_
  · (intro W hSW; exact run_eql_blocks _ (.tmp 52) (.tmp 53) rfl b HBL.out rfl rfl W)
  simp only [List.set_cons_succ, List.set_cons_zero]
  refine wpUpto_takeL (i := 40) (v := .bool true) rfl rfl (by kernel_rfl) (by kernel_rfl) (by kernel_rfl) (by kernel_rfl) (by decide) (fun _ _ _ h => h) (Or.inl ⟨by rfl, ?_⟩) Ha.out ?_
  · (intro W hSW; go_simp)
  simp only [List.set_cons_succ, List.set_cons_zero]
  refine wpUpto_one (i := 41) rfl (by kernel_rfl) rfl ?_
  intro Q0 hQ0
  go_simp
  refine hQ0.out _ _ (fun h => absurd rfl h) ?_
  clear hQ0 Q0
  refine wpUpto_done (by kernel_rfl) ?_ _
  go_simp
  go_wp2
  go_ret
  exact ⟨rfl, Ha.out.below⟩
end Go.Proofs.Ytmndenikfencpaa
