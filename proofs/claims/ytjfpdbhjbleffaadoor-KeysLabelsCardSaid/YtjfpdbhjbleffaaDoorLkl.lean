/-
  KeysLabels, walked.
-/
import Derived.Test.YtjfpdbhjbleffaaDoorAk
namespace Go.Proofs.YtjfpdbhjbleffaaDoor
open Go.RowKit

/-- What holds in the law: the key, the links' key. -/
structure KlW (w : World) (key k : List UInt8) (W : World) : Prop where
  a0 : At W w.heap.size (ubs key).toArray 23
  a1 : At W (w.heap.size + 1) (ubs k).toArray 27
  below : Below w.heap.size w W
theorem KlW.new {w W W' : World} {key k : List UInt8} (x : KlW w key k W) (hb : Below W.heap.size W W') : KlW w key k W' := ⟨x.a0.new_ hb, x.a1.new_ hb, x.below.trans (hb.mono x.below.size)⟩
theorem KlW.drew {w W : World} {key k : List UInt8} (x : KlW w key k W) : KlW w key k W.drew := ⟨x.a0, x.a1, x.below.drew⟩
theorem KlW.start (w : World) (key k : List UInt8) : KlW w key k ((w.alloc (.cells (ubs key).toArray 23)).alloc (.cells (ubs k).toArray 27)) :=
  ⟨(At.new _ _ _).alloc _, At.new_at (by simp), ((Below.refl w.heap.size w).alloc (Nat.le_refl _) _).alloc (by simp) _⟩
/-- What the law's great region yields. -/
def klF (x : ByteArray) (key m k s : List UInt8) (n : Nat) : Nat → Value
  | 0 => .agg (ubs key).toArray
  | 1 => .string x
  | 2 => .agg (ubs m).toArray
  | 3 => .agg (ubs key).toArray
  | 4 => .string x
  | 5 => .agg (ubs m).toArray
  | 8 => .agg (ubs k).toArray
  | 9 => .string x
  | 10 => .int .i64 (n : Int)
  | 11 => .int .u64 (n : Int)
  | 12 => .agg (ubs s).toArray
  | 13 => .agg (ubs k).toArray
  | 14 => .string x
  | 15 => .int .i64 (n : Int)
  | 16 => .int .u64 (n : Int)
  | 17 => .agg (ubs s).toArray
  | _ => .bool true
set_option maxRecDepth 100000 in
set_option maxHeartbeats 2000000 in
theorem keysLabels_law (key l k : List UInt8) (w : World) (hk : key.length = 16) (hkk : k.length = 32) (hT : Tabs w) (hR : Tabr w) (hI : Tab w 0 IV.l) :
    Calls Tryd.prog 4 #[.agg (ubs key).toArray, .string ⟨l.toArray⟩, .agg (ubs k).toArray] w fun e w' => e = .returned (.bool true) ∧ Below w.heap.size w w' := by
  have HAL := hid (fun (W : World) (h : Below w.heap.size w W) => alive6_any W (hT.below h))
  have H0 := hid (KlW.start w key k)
  obtain ⟨n, hn⟩ : ∃ n, n = l.length := ⟨_, rfl⟩
  obtain ⟨x, hx⟩ : ∃ x : ByteArray, x = ⟨l.toArray⟩ := ⟨_, rfl⟩
  have hxs : x.size = n := by rw [hx, hn]; show l.toArray.size = _; simp
  by_cases hbig : 500 < n
  · have c0 : decide (500 < (n : Int)) = true := by simp; omega
    rw [← hx]
    clear hk hkk hT hR hI hn hx hbig
    go_enter Tryd.func4, Tryd.ntmps4
    go_wp2_with (go_at_call 6; refine (HAL.out _ H0.out.below).mono ?_; rintro e w1 ⟨rfl, hb1⟩; have H1 := hid (H0.out.new hb1); clear hb1)
    go_ret
    exact ⟨rfl, H1.out.below⟩
  have c0 : decide (500 < (n : Int)) = false := by simp; omega
  have HIB := hid (fun (W : World) (h : Below w.heap.size w W) => Tab.below (x := IV.a) (xs := [IV.b, IV.c, IV.d, IV.e, IV.f, IV.g, IV.h]) hI h)
  have HP := hid (fun (W : World) (h : Below w.heap.size w W) => klabel_any key l W hk (by omega) (hT.below h))
  have HQ := hid (fun (W : World) (h : Below w.heap.size w W) => labelR_any key l W hk (by omega) (hR.below h) (HIB.out W h))
  have HPS := hid (fun (W : World) (h : Below w.heap.size w W) => ksession_any k n W hkk (by omega) (hT.below h))
  have HRS := hid (fun (W : World) (h : Below w.heap.size w W) => refSession_any k n W hkk (by omega) (hR.below h) (HIB.out W h))
  have HML := hid (macL_length key l)
  have HSL := hid (keySession_length k n)
  have HKL := hid hk
  have HLL := hid hkk
  have wn := wrapN64 n (by omega)
  rw [← hx] at HP HQ ⊢
  generalize macL key l = m at HP HQ HML
  generalize keySession k n = s at HPS HRS HSL
  clear hk hkk hT hR hI hn hx hbig
  go_enter Tryd.func4, Tryd.ntmps4
  go_upto_region 5 with (go_at_call 6; refine (HAL.out _ H0.out.below).mono ?_; rintro e w1 ⟨rfl, hb1⟩; have H1 := hid (H0.out.new hb1); clear hb1)
  clear HAL H0
  refine wp_region_facts 21 21 [12, 13, 14, 15, 16, 17, 18, 19, 20, 21, 22, 23, 24, 25, 26, 27, 28, 29, 30, 31, 6] (fun i v _ => v = klF x key m k s n i) (KlW w key k) (by kernel_rfl) (by kernel_rfl)
    (fun W W' h hb => h.new hb) (fun _ _ _ _ h _ => h) (H1.out.drew) ?_ ?_
  · intro i hi vals W K hB hn hK
    simp only [frm_cons, frm_nil, List.set_cons_succ, List.set_cons_zero, Nat.reduceAdd] at hK ⊢
    rcases (by omega : i = 0 ∨ i = 1 ∨ i = 2 ∨ i = 3 ∨ i = 4 ∨ i = 5 ∨ i = 6 ∨ i = 7 ∨ i = 8 ∨ i = 9 ∨ i = 10 ∨ i = 11 ∨ i = 12 ∨ i = 13 ∨ i = 14 ∨ i = 15 ∨ i = 16 ∨ i = 17 ∨ i = 18 ∨ i = 19 ∨ i = 20) with rfl | rfl | rfl | rfl | rfl | rfl | rfl | rfl | rfl | rfl | rfl | rfl | rfl | rfl | rfl | rfl | rfl | rfl | rfl | rfl | rfl
    · refine wpOp_plain rfl rfl (wp_val (run_loadK (.tmp 3) rfl w.heap.size 0 rfl key (range_whole hB.a0) HKL.out) ?_)
      exact hK _ _ rfl (Below.refl _ _)
    · refine wpOp_plain rfl rfl (wp_val (w' := W) (v := .string x) (by go_simp) ?_)
      exact hK _ _ rfl (Below.refl _ _)
    · have h0 := hn 0 (by decide +kernel)
      have h1 := hn 1 (by decide +kernel)
      simp only [klF] at h0 h1
      simp only [h0, h1] at hK ⊢
      refine wpOp_plain rfl rfl ?_
      go_simp
      go_at_call 15
      refine (HP.out W hB.below).mono ?_
      rintro e W' ⟨rfl, hb⟩
      exact hK _ _ rfl hb
    · refine wpOp_plain rfl rfl (wp_val (run_loadK (.tmp 3) rfl w.heap.size 0 rfl key (range_whole hB.a0) HKL.out) ?_)
      exact hK _ _ rfl (Below.refl _ _)
    · refine wpOp_plain rfl rfl (wp_val (w' := W) (v := .string x) (by go_simp) ?_)
      exact hK _ _ rfl (Below.refl _ _)
    · have h3 := hn 3 (by decide +kernel)
      have h4 := hn 4 (by decide +kernel)
      simp only [klF] at h3 h4
      simp only [h3, h4] at hK ⊢
      refine wpOp_plain rfl rfl ?_
      go_simp
      go_at_call 16
      refine (HQ.out W hB.below).mono ?_
      rintro e W' ⟨rfl, hb⟩
      exact hK _ _ rfl hb
    · have h2 := hn 2 (by decide +kernel)
      have h5 := hn 5 (by decide +kernel)
      simp only [klF] at h2 h5
      simp only [h2, h5] at hK ⊢
      refine wpOp_plain rfl rfl (wp_val (run_eqlH _ (.tmp 14) (.tmp 17) rfl m m HML.out HML.out rfl rfl true (by simp) W) ?_)
      exact hK _ _ rfl (Below.refl _ _)
    · have h6 := hn 6 (by decide +kernel)
      simp only [klF] at h6
      simp only [h6] at hK ⊢
      refine wpOp_plain rfl rfl (wp_val (w' := W) (v := .bool true) (by go_simp) ?_)
      exact hK _ _ rfl (Below.refl _ _)
    · have h7 := hn 7 (by decide +kernel)
      simp only [klF] at h7
      simp only [h7] at hK ⊢
      refine wpOp_on rfl (by rfl) (wp_val (run_loadH (.tmp 5) rfl (w.heap.size + 1) 0 rfl k (range_whole hB.a1) HLL.out) ?_)
      exact hK _ _ rfl (Below.refl _ _)
    · have h7 := hn 7 (by decide +kernel)
      simp only [klF] at h7
      simp only [h7] at hK ⊢
      refine wpOp_on rfl (by rfl) (wp_val (w' := W) (v := .string x) (by go_simp) ?_)
      exact hK _ _ rfl (Below.refl _ _)
    · have h7 := hn 7 (by decide +kernel)
      have h9 := hn 9 (by decide +kernel)
      simp only [klF] at h7 h9
      simp only [h7, h9] at hK ⊢
      refine wpOp_on rfl (by rfl) (wp_val (w' := W) (v := .int .i64 (n : Int)) (by go_simp) ?_)
      exact hK _ _ rfl (Below.refl _ _)
    · have h7 := hn 7 (by decide +kernel)
      have h10 := hn 10 (by decide +kernel)
      simp only [klF] at h7 h10
      simp only [h7, h10] at hK ⊢
      refine wpOp_on rfl (by rfl) (wp_val (w' := W) (v := .int .u64 (n : Int)) (by go_simp) ?_)
      exact hK _ _ rfl (Below.refl _ _)
    · have h7 := hn 7 (by decide +kernel)
      have h8 := hn 8 (by decide +kernel)
      have h11 := hn 11 (by decide +kernel)
      simp only [klF] at h7 h8 h11
      simp only [h7, h8, h11] at hK ⊢
      refine wpOp_on rfl (by rfl) ?_
      go_simp
      go_at_call 14
      refine (HPS.out W hB.below).mono ?_
      rintro e W' ⟨rfl, hb⟩
      exact hK _ _ rfl hb
    · have h7 := hn 7 (by decide +kernel)
      simp only [klF] at h7
      simp only [h7] at hK ⊢
      refine wpOp_on rfl (by rfl) (wp_val (run_loadH (.tmp 5) rfl (w.heap.size + 1) 0 rfl k (range_whole hB.a1) HLL.out) ?_)
      exact hK _ _ rfl (Below.refl _ _)
    · have h7 := hn 7 (by decide +kernel)
      simp only [klF] at h7
      simp only [h7] at hK ⊢
      refine wpOp_on rfl (by rfl) (wp_val (w' := W) (v := .string x) (by go_simp) ?_)
      exact hK _ _ rfl (Below.refl _ _)
    · have h7 := hn 7 (by decide +kernel)
      have h14 := hn 14 (by decide +kernel)
      simp only [klF] at h7 h14
      simp only [h7, h14] at hK ⊢
      refine wpOp_on rfl (by rfl) (wp_val (w' := W) (v := .int .i64 (n : Int)) (by go_simp) ?_)
      exact hK _ _ rfl (Below.refl _ _)
    · have h7 := hn 7 (by decide +kernel)
      have h15 := hn 15 (by decide +kernel)
      simp only [klF] at h7 h15
      simp only [h7, h15] at hK ⊢
      refine wpOp_on rfl (by rfl) (wp_val (w' := W) (v := .int .u64 (n : Int)) (by go_simp) ?_)
      exact hK _ _ rfl (Below.refl _ _)
    · have h7 := hn 7 (by decide +kernel)
      have h13 := hn 13 (by decide +kernel)
      have h16 := hn 16 (by decide +kernel)
      simp only [klF] at h7 h13 h16
      simp only [h7, h13, h16] at hK ⊢
      refine wpOp_on rfl (by rfl) ?_
      go_simp
      go_at_call 8
      refine (HRS.out W hB.below).mono ?_
      rintro e W' ⟨rfl, hb⟩
      exact hK _ _ rfl hb
    · have h7 := hn 7 (by decide +kernel)
      have h12 := hn 12 (by decide +kernel)
      have h17 := hn 17 (by decide +kernel)
      simp only [klF] at h7 h12 h17
      simp only [h7, h12, h17] at hK ⊢
      refine wpOp_on rfl (by rfl) (wp_val (run_eqlH _ (.tmp 24) (.tmp 29) rfl s s HSL.out HSL.out rfl rfl true (by simp) W) ?_)
      exact hK _ _ rfl (Below.refl _ _)
    · have h7 := hn 7 (by decide +kernel)
      have h18 := hn 18 (by decide +kernel)
      simp only [klF] at h7 h18
      simp only [h7, h18] at hK ⊢
      refine wpOp_plain rfl rfl (wp_val (w' := W) (v := .bool true) (by go_simp) ?_)
      exact hK _ _ rfl (Below.refl _ _)
    · have h19 := hn 19 (by decide +kernel)
      simp only [klF] at h19
      simp only [h19] at hK ⊢
      refine wpOp_plain rfl rfl (wp_val (w' := W) (v := .bool true) (by go_simp) ?_)
      exact hK _ _ rfl (Below.refl _ _)
  · intro vals W hB hF
    have h0 := hF 0 (by omega)
    have h1 := hF 1 (by omega)
    have h2 := hF 2 (by omega)
    have h3 := hF 3 (by omega)
    have h4 := hF 4 (by omega)
    have h5 := hF 5 (by omega)
    have h6 := hF 6 (by omega)
    have h7 := hF 7 (by omega)
    have h8 := hF 8 (by omega)
    have h9 := hF 9 (by omega)
    have h10 := hF 10 (by omega)
    have h11 := hF 11 (by omega)
    have h12 := hF 12 (by omega)
    have h13 := hF 13 (by omega)
    have h14 := hF 14 (by omega)
    have h15 := hF 15 (by omega)
    have h16 := hF 16 (by omega)
    have h17 := hF 17 (by omega)
    have h18 := hF 18 (by omega)
    have h19 := hF 19 (by omega)
    have h20 := hF 20 (by omega)
    simp only [klF] at h0 h1 h2 h3 h4 h5 h6 h7 h8 h9 h10 h11 h12 h13 h14 h15 h16 h17 h18 h19 h20
    simp only [frm_cons, frm_nil, List.set_cons_succ, List.set_cons_zero, Nat.reduceAdd, h0, h1, h2, h3, h4, h5, h6, h7, h8, h9, h10, h11, h12, h13, h14, h15, h16, h17, h18, h19, h20]
    refine wpUpto_done (by decide +kernel) ?_ _
    have HE := hid hB.below
    clear hB hF h0 h1 h2 h3 h4 h5 h6 h7 h8 h9 h10 h11 h12 h13 h14 h15 h16 h17 h18 h19 h20 H1
    go_simp
    go_wp2
    go_ret
    exact ⟨rfl, HE.out⟩
end Go.Proofs.YtjfpdbhjbleffaaDoor
