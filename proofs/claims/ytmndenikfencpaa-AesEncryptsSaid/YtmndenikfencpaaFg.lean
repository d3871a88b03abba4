/-
  Decrypt; RoundKey.
-/
import Derived.Test.YtmndenikfencpaaFf
namespace Go.Proofs.Ytmndenikfencpaa
open Go.RowKit

set_option maxRecDepth 100000 in
set_option maxHeartbeats 1000000 in
theorem decrypt_p (key b : List UInt8) (p : Option Addr) (w : World) (hk : key.length = 16) (hb : b.length = 16) (hc : Cip w key p) :
    Calls Try.prog 21 #[.pointer p, .agg (ubs b).toArray] w fun e w' => e = .returned (.agg (ubs (decL (rks key 11) b)).toArray) ∧ Below w.heap.size w w' := by
  have H0 := hid (EcA.start w b)
  have HK := hid hk
  have HO := hid (orZeros_any key p _ (hc.below (((Below.refl w.heap.size w).alloc (Nat.le_refl _) (.cells (ubs b).toArray 26)).alloc (by simp) (.cells (ubs n16).toArray 26))))
  have HAL := hid (fun (o : Oper) (a : Go.Act) (W : World) (h : o.op = .alloc 48) => run_alloc_of (o := o) (a := a) (W := W) _ h _ zero256)
  have HS := hid (fun W => originals_any W)
  have HZS := hid (size256_of RTab_length)
  have HL := hid hb
  have HE0 := hid (dec_end key b hk)
  have hz := noughts16
  clear hk hb hc
  go_enter Try.func21, Try.ntmps21
  go_wp2_with (first
    | (go_at_call 27; refine HO.out.mono ?_; rintro e w1 ⟨C, rfl, hC, hb1⟩; have H1 := hid (H0.out.new hb1); have HC := hid hC; clear hb1 hC)
    | (go_at_call 34; refine (HS.out _).mono ?_; rintro e w2 ⟨rfl, hb2⟩; have H2 := hid (EcA.start2 (tb := RTab) H1.out HC.out hb2); clear hb2)
    | (refine Great.wpList_allocTo rfl _ rfl _ _ (HAL.out _ _ _ rfl) ?_)
    | (refine wpList_store_row rfl _ (.tmp 5) (.tmp 9) rfl w2.heap.size (ubs RTab).toArray rfl rfl 48 (ubs n256).toArray (heap_alloc_new _ _) HZS.out ?e3 (ubs_all _) ?e4; rotate_right; generalize ((w2.alloc (.cells (ubs n256).toArray 48)).setRow w2.heap.size (ubs RTab).toArray) = W3 at H2 ⊢))
  case e3 => simp [ubs_length, n256_length, RTab_length]
  clear H1 HC H0
  generalize w2.heap.size = T at H2 ⊢
  go_loopw [10] (fun vi wr => ∃ k : Nat, k ≤ 10 ∧ vi = .int .i64 k ∧ EcW w key RTab (decK (rks key 11) b k) C T wr) (fun vi _ => 10 - (intOf vi).toNat)
  case atStart => exact ⟨0, by omega, rfl, by rw [decK_zero]; exact H2.out⟩
  case round =>
    clear H2
    obtain ⟨k, hk, rfl, hA⟩ := hrel
    have HA := hid hA
    clear hA
    have HX := hid (decK_length (rks key 11) b HL.out k)
    by_cases hlt : k < 10
    · have HN := hid (dec_round key b HK.out k hlt)
      obtain ⟨m, hm⟩ : ∃ m, m = 10 - k := ⟨_, rfl⟩
      have HRL := hid (rk_length key HK.out m)
      have i1 : (m : Int) < 11 := by omega
      have i0 : 0 ≤ (m : Int) := by omega
      have e2 : 10 - (k : Int) = (m : Int) := by omega
      have e1 : IntKind.i64.wrap (m : Int) = (m : Int) := by rw [IntKind.wrap_i64] <;> omega
      have e4 : m * 16 = 16 * m := by omega
      have l1 : m ≤ 10 := by omega
      rw [← hm] at HN
      obtain ⟨x, hx⟩ : ∃ x, x = decK (rks key 11) b k := ⟨_, rfl⟩
      rw [← hx] at HA HX HN
      clear hm hx
      go_upto_region 6 with (fail)
      refine wp_region_still_tail 8 (by kernel_rfl) (by kernel_rfl) ?_
      simp only [List.take_succ_cons, List.take_zero, List.drop_succ_cons, List.drop_zero]
      obtain ⟨V1, hV1⟩ : ∃ V1 : World, { wr with drawn := wr.drawn + 1 } = V1 := ⟨_, rfl⟩
      rw [hV1]
      have HV := hid (show EcW w key RTab x C T V1 by rw [← hV1]; exact HA.out.drew 1)
      clear hV1 HA
      refine wpStill_run _ rfl (HV.out.run_blk HX.out (.tmp 3) rfl rfl) ?_
      try simp only [Act.put, List.setIfInBounds_toArray, List.set_cons_succ, List.set_cons_zero]
      repeat still_step
      refine wpStill_run _ rfl (HV.out.run_key HK.out m l1 (.tmp 19) rfl rfl) ?_
      refine wpStill_nil ?_
      try simp only [Act.put, List.setIfInBounds_toArray, List.set_cons_succ, List.set_cons_zero]
      obtain ⟨y, hy⟩ : ∃ y, y = xorL x (rk key m) := ⟨_, rfl⟩
      have HY := hid (show y.length = 16 by rw [hy]; exact xorL_length _ _)
      have HSM := hid (fun W => psum_any x (rk key m) W HX.out HRL.out)
      rw [← hy] at HN HSM
      clear hy
      by_cases h0 : 0 < k
      · have c9 : decide (0 < (k : Int)) = true := by simp; omega
        rw [if_pos h0] at HN
        have HM1 := fun W => pmixed_any y W HY.out
        obtain ⟨y1, hy1⟩ : ∃ x, x = mixL y := ⟨_, rfl⟩
        have HY1 := hid (show y1.length = 16 by rw [hy1]; exact mixL_length _)
        rw [← hy1] at HM1 HN
        have HM2 := fun W => pmixed_any y1 W HY1.out
        obtain ⟨y2, hy2⟩ : ∃ x, x = mixL y1 := ⟨_, rfl⟩
        have HY2 := hid (show y2.length = 16 by rw [hy2]; exact mixL_length _)
        rw [← hy2] at HM2 HN
        have HM3 := fun W => pmixed_any y2 W HY2.out
        obtain ⟨y3, hy3⟩ : ∃ x, x = mixL y2 := ⟨_, rfl⟩
        have HY3 := hid (show y3.length = 16 by rw [hy3]; exact mixL_length _)
        rw [← hy3] at HM3 HN
        have HT3 := fun W => pturned_any y3 3 W HY3.out (by omega)
        have HRP := fun W hW => preplaced_any RTab (turL 3 y3) T W RTab_length (turL_length _ _) hW
        obtain ⟨y4, hy4⟩ : ∃ x, x = turL 3 y3 := ⟨_, rfl⟩
        rw [← hy4] at HT3 HRP HN
        obtain ⟨z, hz9⟩ : ∃ x, x = repL RTab y4 := ⟨_, rfl⟩
        have HZ9 := hid (show z.length = 16 by rw [hz9]; exact repL_length _ _)
        rw [← hz9] at HRP HN
        replace HM1 := hid HM1
        replace HM2 := hid HM2
        replace HM3 := hid HM3
        replace HT3 := hid HT3
        replace HRP := hid HRP
        clear hy1 hy2 hy3 hy4 hz9
        go_wp2_with (first
          | (go_at_call 29; refine (HSM.out _).mono ?_; rintro e w9 ⟨rfl, hb9⟩; have H9 := hid (HV.out.new hb9); clear hb9)
          | (refine wpList_store_row rfl _ (.tmp 3) (.tmp 21) rfl w.heap.size (ubs (y)).toArray rfl rfl 26 (ubs (x)).toArray H9.out.ec.blk (size16_of HY.out) ?s1a (ubs_all _) ?s1b; rotate_right; have Hw := hid (H9.out.row (y)); generalize (w9.setRow w.heap.size (ubs (y)).toArray) = Ww at Hw ⊢)
          | (refine wpList_load_row rfl _ (.tmp 3) rfl w.heap.size rfl 26 (ubs (y)).toArray (0, 0) _ Hw.out.ec.blk Try.underlying26 rfl (size16_of HY.out) ?_)
          | (go_at_call 32; ((with_reducible refine (HM1.out _).mono ?_); rintro e wa ⟨rfl, hb9⟩; have Ha := hid (Hw.out.new hb9); clear hb9))
          | (go_at_call 32; ((with_reducible refine (HM2.out _).mono ?_); rintro e wb ⟨rfl, hb9⟩; have Hb := hid (Ha.out.new hb9); clear hb9))
          | (go_at_call 32; ((with_reducible refine (HM3.out _).mono ?_); rintro e wc ⟨rfl, hb9⟩; have Hc := hid (Hb.out.new hb9); clear hb9))
          | (refine wpList_store_row rfl _ (.tmp 3) (.tmp 27) rfl w.heap.size (ubs (y3)).toArray rfl rfl 26 (ubs (y)).toArray Hc.out.ec.blk (size16_of HY3.out) ?s2a (ubs_all _) ?s2b; rotate_right; have Hd := hid (Hc.out.row (y3)); generalize (wc.setRow w.heap.size (ubs (y3)).toArray) = Wd at Hd ⊢)
          | (refine wpList_load_row rfl _ (.tmp 3) rfl w.heap.size rfl 26 (ubs (y3)).toArray (0, 0) _ Hd.out.ec.blk Try.underlying26 rfl (size16_of HY3.out) ?_)
          | (go_at_call 30; (refine (HT3.out _).mono ?_; rintro e we ⟨rfl, hb7⟩; have He := hid (Hd.out.new hb7); clear hb7))
          | (go_at_call 31; ((with_reducible refine (HRP.out _ He.out.tab).mono ?_); rintro e wf ⟨rfl, hb6⟩; have Hf := hid (He.out.new hb6); clear hb6))
          | (refine wpList_store_row rfl _ (.tmp 3) (.tmp 30) rfl w.heap.size (ubs (z)).toArray rfl rfl 26 (ubs (y3)).toArray Hf.out.ec.blk (size16_of HZ9.out) ?s3a (ubs_all _) ?s3b; rotate_right; have Hg := hid (Hf.out.row (z)); generalize (wf.setRow w.heap.size (ubs (z)).toArray) = Wg at Hg ⊢))
        case s1a => simp [ubs_length, HY.out, HX.out]
        case s2a => simp [ubs_length, HY.out, HY3.out]
        case s3a => simp [ubs_length, HY3.out, HZ9.out]
        go_roundw
        case rel => exact ⟨k + 1, by omega, by go_num, by rw [HN.out]; exact Hg.out⟩
        case measure => simp [intOf]; omega
      · have c9 : decide (0 < (k : Int)) = false := by simp; omega
        rw [if_neg h0] at HN
        go_wp2_with (first
          | (go_at_call 29; refine (HSM.out _).mono ?_; rintro e w9 ⟨rfl, hb9⟩; have H9 := hid (HV.out.new hb9); clear hb9)
          | (refine wpList_store_row rfl _ (.tmp 3) (.tmp 21) rfl w.heap.size (ubs (y)).toArray rfl rfl 26 (ubs (x)).toArray H9.out.ec.blk (size16_of HY.out) ?s4a (ubs_all _) ?s4b; rotate_right; have Hd := hid (H9.out.row (y)); generalize (w9.setRow w.heap.size (ubs (y)).toArray) = Wd at Hd ⊢)
          | (refine wpList_load_row rfl _ (.tmp 3) rfl w.heap.size rfl 26 (ubs (y)).toArray (0, 0) _ Hd.out.ec.blk Try.underlying26 rfl (size16_of HY.out) ?_)
          | (go_at_call 30; refine (pturned_any y 3 _ HY.out (by omega)).mono ?_; rintro e we ⟨rfl, hb7⟩; have He := hid (Hd.out.new hb7); clear hb7)
          | (go_at_call 31; refine (preplaced_any RTab (turL 3 y) T _ RTab_length (turL_length _ _) He.out.tab).mono ?_; rintro e wf ⟨rfl, hb6⟩; have Hf := hid (He.out.new hb6); clear hb6)
          | (refine wpList_store_row rfl _ (.tmp 3) (.tmp 30) rfl w.heap.size (ubs (repL RTab (turL 3 y))).toArray rfl rfl 26 (ubs (y)).toArray Hf.out.ec.blk (size16_of (repL_length _ _)) ?s5a (ubs_all _) ?s5b; rotate_right; have Hg := hid (Hf.out.row (repL RTab (turL 3 y))); generalize (wf.setRow w.heap.size (ubs (repL RTab (turL 3 y))).toArray) = Wg at Hg ⊢))
        case s4a => simp [ubs_length, HY.out, HX.out]
        case s5a => simp [ubs_length, HY.out, repL_length]
        go_roundw
        case rel => exact ⟨k + 1, by omega, by go_num, by rw [HN.out]; exact Hg.out⟩
        case measure => simp [intOf]; omega
    · obtain rfl : k = 10 := by omega
      have HRL := hid (rk_length key HK.out 0)
      obtain ⟨x, hx⟩ : ∃ x, x = decK (rks key 11) b 10 := ⟨_, rfl⟩
      rw [← hx] at HA HX HE0
      clear hx
      go_upto_region 11 with (fail)
      refine wp_region_still_tail 6 (by kernel_rfl) (by kernel_rfl) ?_
      simp only [List.take_succ_cons, List.take_zero, List.drop_succ_cons, List.drop_zero]
      obtain ⟨V1, hV1⟩ : ∃ V1 : World, { wr with drawn := wr.drawn + 1 } = V1 := ⟨_, rfl⟩
      rw [hV1]
      have HV := hid (show EcW w key RTab x C T V1 by rw [← hV1]; exact HA.out.drew 1)
      clear hV1 HA
      refine wpStill_run _ rfl (HV.out.run_blk HX.out (.tmp 3) rfl rfl) ?_
      try simp only [Act.put, List.setIfInBounds_toArray, List.set_cons_succ, List.set_cons_zero]
      repeat still_step
      refine wpStill_run _ rfl (HV.out.run_key HK.out 0 (by omega) (.tmp 36) rfl rfl) ?_
      refine wpStill_nil ?_
      try simp only [Act.put, List.setIfInBounds_toArray, List.set_cons_succ, List.set_cons_zero]
      obtain ⟨y, hy⟩ : ∃ y, y = xorL x (rk key 0) := ⟨_, rfl⟩
      have HY := hid (show y.length = 16 by rw [hy]; exact xorL_length _ _)
      have HSM := hid (fun W => psum_any x (rk key 0) W HX.out HRL.out)
      rw [← hy] at HE0 HSM
      clear hy
      go_wp2_with (first
        | (go_at_call 29; refine (HSM.out _).mono ?_; rintro e w9 ⟨rfl, hb9⟩; have H9 := hid (HV.out.new hb9); clear hb9)
        | (refine wpList_store_row rfl _ (.tmp 4) (.tmp 38) rfl (w.heap.size + 1) (ubs y).toArray rfl rfl 26 (ubs n16).toArray H9.out.ec.res (size16_of HY.out) ?e5 (ubs_all _) ?e6; rotate_right))
      case e5 => simp [ubs_length, n16_length, HY.out]
      refine bodyPost_ret (results_cell_row rfl _ _ (w.heap.size + 1) 26 (ubs y).toArray (0, 0) _ rfl (setRow_heap _ _ _ _ _ _ H9.out.ec.res) Try.underlying26 rfl (size16_of HY.out)) rfl ?_
      exact ⟨by rw [HE0.out], below_setRow H9.out.ec.below (by omega) _⟩
end Go.Proofs.Ytmndenikfencpaa
