/-
  The document's round keys, walked.
-/
import Derived.Test.YtnaihcoafgigcaaDoorY1
import Derived.Test.YtnaihcoafgigcaaDoorZ1
import Derived.Deep.Cut
namespace Go.Proofs.YtnaihcoafgigcaaDoor
open Go.RowKit

theorem KyW.alloc {w W : World} {m : Nat} {ws ts : List UInt8} {v : Value} {T : Nat} (h : KyW w m ws v ts T W) (o : Obj) : KyW w m ws v ts T (W.alloc o) :=
  ⟨⟨h.o.len, h.o.own.alloc _, h.o.below.alloc h.o.below.size _⟩, h.t.alloc _, h.ne⟩
theorem KyW.c1 {w W : World} {m g o c : Nat} {ws ts : List UInt8} {T : Nat} (h : KyW w m ws (.slice (some ⟨g, o, none⟩) m c) ts T W) (i : Nat) (hi : i < ws.length) : W.cell? ⟨g, o + i, none⟩ = some (.int .u8 ((ws.getD i 0).toNat : Int)) := by
  obtain ⟨g2, o2, e, d⟩ := rb_cell (Rd.of_own h.o.own) hi
  cases e
  exact d
set_option maxRecDepth 100000 in
set_option maxHeartbeats 2000000 in
theorem keysR_any (key : List UInt8) (w : World) (hk : key.length = 16) :
    Calls Tryd.prog 45 #[.agg (ubs key).toArray] w fun e w' => ∃ v, e = .returned v ∧ w'.ownsRow w.heap.size 5 1 v 176 (ubs (keysL key)) ∧ (keysL key).length = 176 ∧ Below w.heap.size w w' := by
  obtain ⟨i0, hi, hz0, hz1, hz2⟩ := info_parts infoB
  obtain ⟨W0, hW0⟩ : ∃ W0, W0 = w.alloc (.cells (ubs key).toArray 23) := ⟨_, rfl⟩
  have hb0 : Below w.heap.size w W0 := by rw [hW0]; exact (Below.refl _ _).alloc (Nat.le_refl _) _
  have h0 : At W0 w.heap.size (ubs key).toArray 23 := by rw [hW0]; exact At.new _ _ _
  have HB0 := hid hb0
  have HR0 := hid (rb_at (h0.alloc (.cells #[] 5)))
  have HO := hid (own_start W0)
  have HL := hid hk
  have HKL := hid (ks_length key hk)
  have HFIN := hid (show (ks key (44 - 4)).1 = keysL key from rfl)
  have HS0 := hid (show w.heap.size + 1 = W0.heap.size by rw [hW0]; simp)
  have HD := hid (fun (x : UInt8) (W : World) => double_any x W)
  clear hb0 h0 hk
  have hbx := b_xr
  go_enter Tryd.func45, Tryd.ntmps45
  go_upto_region 1 with (fail)
  rw [← hW0]
  clear hW0
  go_wp2_with (at_builtin; refine wpList_append_rd rfl (.tmp 8) (.tmp 9) _ rfl W0.heap.size 5 i0 (.int .u8 0) 1 Tryd.underlying55 hi hz0 hz1 hz2 rfl (.slice (some ⟨W0.heap.size, 0, none⟩) 0 0) 0 (ubs []) rfl HO.out.own _ (some ⟨w.heap.size, 0, none⟩) 16 16 (ubs key) rfl (by rw [ubs_length, HL.out]) HR0.out (ubs_one _) (by unfold maxLen; omega) (by omega) (by simp) ?_; intro v2 w2 hown hgr _; replace hown := hid (HO.out.more hown HL.out.symm hgr); clear hgr; rw [List.nil_append, Nat.zero_add] at hown; obtain ⟨A1, c1, rfl, -⟩ := own_form hown.out.own)
  go_loopw [3, 4, 5] (fun v vf vi wr => ∃ (i m : Nat) (A3 : Option Addr) (c3 : Nat) (f : UInt8), 4 ≤ i ∧ i ≤ 44 ∧ vi = .int .i64 i ∧ v = .slice A3 m c3 ∧ Hid (m = 4 * i) ∧ vf = .int .u8 (f.toNat : Int) ∧ f = (ks key (i - 4)).2 ∧ Own1 W0 m (ks key (i - 4)).1 (.slice A3 m c3) wr) (fun _ _ vi _ => 44 - (intOf vi).toNat)
  case atStart => exact ⟨4, 16, A1, c1, 1, by omega, by omega, rfl, rfl, hid rfl, rfl, by rw [ks_zero], by rw [ks_zero]; exact hown.out⟩
  case round =>
    clear hown HO HR0
    obtain ⟨i, m, A3, c3, f, hi4, hi44, rfl, rfl, hm, rfl, hf, hO⟩ := hrel
    have HM := hid hm.out
    have hm := HM.out
    have HWO := hid hO
    clear hO
    by_cases hlt : i < 44
    · have ci : decide ((i : Int) < 44) = true := by simp; omega
      have HWL := hid (show (ks key (i - 4)).1.length = 4 * i by rw [HKL.out]; omega)
      have HNX := hid (show ks key (i + 1 - 4) = (kw (ks key (i - 4)).1 i (ks key (i - 4)).2 4, kf i (ks key (i - 4)).2) by rw [show i + 1 - 4 = (i - 4) + 1 by omega, ks_succ, show i - 4 + 4 = i by omega])
      rw [← hf] at HNX
      obtain ⟨ws, hws⟩ : ∃ ws, ws = (ks key (i - 4)).1 := ⟨_, rfl⟩
      rw [← hws] at HWO HWL HNX
      clear hws hf
      obtain ⟨j0, hj0⟩ : ∃ j, j = 4 * i - 4 := ⟨_, rfl⟩
      obtain ⟨j1, hj1⟩ : ∃ j, j = 4 * i - 3 := ⟨_, rfl⟩
      obtain ⟨j2, hj2⟩ : ∃ j, j = 4 * i - 2 := ⟨_, rfl⟩
      obtain ⟨j3, hj3⟩ : ∃ j, j = 4 * i - 1 := ⟨_, rfl⟩
      have w4 : IntKind.i64.wrap (4 * (i : Int)) = (m : Int) := by rw [IntKind.wrap_i64]; omega
      have w0 : IntKind.i64.wrap ((m : Int) - 4) = (j0 : Int) := by rw [IntKind.wrap_i64]; omega
      have w1 : IntKind.i64.wrap ((m : Int) - 3) = (j1 : Int) := by rw [IntKind.wrap_i64]; omega
      have w2' : IntKind.i64.wrap ((m : Int) - 2) = (j2 : Int) := by rw [IntKind.wrap_i64]; omega
      have w3 : IntKind.i64.wrap ((m : Int) - 1) = (j3 : Int) := by rw [IntKind.wrap_i64]; omega
      have b0 : j0 < m := by omega
      have b1 : j1 < m := by omega
      have b2 : j2 < m := by omega
      have b3 : j3 < m := by omega
      have HKY := hid (fun h => kt_yes ws i f h)
      have HKN := hid (fun h => kt_no ws i f h)
      rw [← hj0, ← hj1, ← hj2, ← hj3] at HKY HKN
      have hrb := Rd.of_own HWO.out.own
      obtain ⟨g, o, hA, d0⟩ := rb_cell hrb (i := j0) (by rw [HWL.out]; omega)
      obtain ⟨g1, o1, hA1, d1⟩ := rb_cell hrb (i := j1) (by rw [HWL.out]; omega)
      obtain ⟨g2, o2, hA2, d2⟩ := rb_cell hrb (i := j2) (by rw [HWL.out]; omega)
      obtain ⟨g3, o3, hA3, d3⟩ := rb_cell hrb (i := j3) (by rw [HWL.out]; omega)
      subst hA
      cases hA1
      cases hA2
      cases hA3
      obtain ⟨p0, hp0⟩ : ∃ x, x = ws.getD j0 0 := ⟨_, rfl⟩
      obtain ⟨p1, hp1⟩ : ∃ x, x = ws.getD j1 0 := ⟨_, rfl⟩
      obtain ⟨p2, hp2⟩ : ∃ x, x = ws.getD j2 0 := ⟨_, rfl⟩
      obtain ⟨p3, hp3⟩ : ∃ x, x = ws.getD j3 0 := ⟨_, rfl⟩
      rw [← hp0, ← hp1, ← hp2, ← hp3] at HKY HKN
      rw [← hp0] at d0
      rw [← hp1] at d1
      rw [← hp2] at d2
      rw [← hp3] at d3
      clear hm hrb hj0 hj1 hj2 hj3 hp0 hp1 hp2 hp3
      go_wp2
      refine wp_region_still_tail 24 (by kernel_rfl) (by kernel_rfl) ?_
      simp only [List.take_succ_cons, List.take_zero, List.drop_succ_cons, List.drop_zero]
      obtain ⟨W2, hW2⟩ : ∃ W2 : World, { wr with drawn := wr.drawn + 1 } = W2 := ⟨_, rfl⟩
      rw [hW2]
      have HB2 := hid (show Below wr.heap.size wr W2 by rw [← hW2]; exact below_drewN (Below.refl _ _) 1)
      have q0 : W2.cell? ⟨g, o + j0, none⟩ = some (.int .u8 (p0.toNat : Int)) := by rw [← hW2]; exact d0
      have q1 : W2.cell? ⟨g, o + j1, none⟩ = some (.int .u8 (p1.toNat : Int)) := by rw [← hW2]; exact d1
      have q2 : W2.cell? ⟨g, o + j2, none⟩ = some (.int .u8 (p2.toNat : Int)) := by rw [← hW2]; exact d2
      have q3 : W2.cell? ⟨g, o + j3, none⟩ = some (.int .u8 (p3.toNat : Int)) := by rw [← hW2]; exact d3
      clear hW2 d0 d1 d2 d3
      repeat still_step
      refine wpStill_nil ?_
      by_cases h4 : i % 4 = 0
      · have c4 : ((i : Int) % 4 == 0) = true := by simp; omega
        have hx4 := HKY.out h4
        have HB6 := hid (HB2.out.alloc HB2.out.size (.cells #[.int .u8 (p0.toNat : Int), .int .u8 (p1.toNat : Int), .int .u8 (p2.toNat : Int), .int .u8 (p3.toNat : Int)] 5))
        have HL6 := hid (lit4 W2 p0 p1 p2 p3)
        go_wp2
        obtain ⟨V, hV⟩ : ∃ V, V = W2.alloc (.cells #[.int .u8 (p0.toNat : Int), .int .u8 (p1.toNat : Int), .int .u8 (p2.toNat : Int), .int .u8 (p3.toNat : Int)] 5) := ⟨_, rfl⟩
        rw [← hV] at HB6 HL6 ⊢
        clear hV
        refine wp_region_still_tail 18 (by kernel_rfl) (by kernel_rfl) ?_
        simp only [List.take_succ_cons, List.take_zero, List.drop_succ_cons, List.drop_zero]
        obtain ⟨V2, hV2⟩ : ∃ V2 : World, { V with drawn := V.drawn + 1 } = V2 := ⟨_, rfl⟩
        rw [hV2]
        have HB7 := hid (show Below wr.heap.size wr V2 by rw [← hV2]; exact below_drewN HB6.out 1)
        have t0 : V2.cell? ⟨W2.heap.size, 0, none⟩ = some (.int .u8 (p0.toNat : Int)) := by rw [← hV2]; exact HL6.out.cell 0
        have t1 : V2.cell? ⟨W2.heap.size, 1, none⟩ = some (.int .u8 (p1.toNat : Int)) := by rw [← hV2]; exact HL6.out.cell 1
        have t2 : V2.cell? ⟨W2.heap.size, 2, none⟩ = some (.int .u8 (p2.toNat : Int)) := by rw [← hV2]; exact HL6.out.cell 2
        have t3 : V2.cell? ⟨W2.heap.size, 3, none⟩ = some (.int .u8 (p3.toNat : Int)) := by rw [← hV2]; exact HL6.out.cell 3
        clear hV2 HL6 HB6
        repeat still_step
        refine wpStill_run _ rfl (run_sT _ (.tmp 45) rfl (by kernel_rfl) p1 rfl) ?_
        repeat still_step
        refine wpStill_run _ rfl (run_sT _ (.tmp 51) rfl (by kernel_rfl) p2 rfl) ?_
        repeat still_step
        refine wpStill_run _ rfl (run_sT _ (.tmp 55) rfl (by kernel_rfl) p3 rfl) ?_
        repeat still_step
        refine wpStill_run _ rfl (run_sT _ (.tmp 59) rfl (by kernel_rfl) p0 rfl) ?_
        refine wpStill_nil ?_
        obtain ⟨r0, hr0⟩ : ∃ x, x = xr (sT p1) f := ⟨_, rfl⟩
        obtain ⟨r1, hr1⟩ : ∃ x, x = sT p2 := ⟨_, rfl⟩
        obtain ⟨r2, hr2⟩ : ∃ x, x = sT p3 := ⟨_, rfl⟩
        obtain ⟨r3, hr3⟩ : ∃ x, x = sT p0 := ⟨_, rfl⟩
        rw [← hr0, ← hr1, ← hr2, ← hr3] at hx4
        simp only [← hr0, ← hr1, ← hr2, ← hr3]
        obtain ⟨ts, hts⟩ : ∃ ts, ts = [r0, r1, r2, r3] := ⟨_, rfl⟩
        have HTS := hid (show ts = kt ws i f by rw [hts, hx4])
        obtain ⟨TT, hTT⟩ : ∃ TT, TT = V2.heap.size := ⟨_, rfl⟩
        have HYs := hid (show KyW W0 m ws (.slice (some ⟨g, o, none⟩) m c3) ts TT (V2.alloc (.cells #[.int .u8 (r0.toNat : Int), .int .u8 (r1.toNat : Int), .int .u8 (r2.toNat : Int), .int .u8 (r3.toNat : Int)] 5)) by rw [hts, hTT]; exact KyW.start HWO.out (HB7.out.alloc HB7.out.size _) _ HB7.out.size (lit4 V2 r0 r1 r2 r3))
        obtain ⟨f2, hf2⟩ : ∃ f2, f2 = dbl f := ⟨_, rfl⟩
        have HF2 := hid (show f2 = kf i f by rw [hf2]; unfold kf; rw [if_pos h4])
        have HDF := hid (fun (W : World) => HD.out f W)
        rw [← hf2] at HDF
        clear hx4 hr0 hr1 hr2 hr3 hts hf2 t0 t1 t2 t3
        go_wp2_with (go_at_call 63; refine (HDF.out _).mono ?_; rintro e w' ⟨rfl, hw⟩; rw [hw])
        have HY := HYs
        clear HYs
        rw [← hTT]
        generalize (V2.alloc (.cells #[.int .u8 (r0.toNat : Int), .int .u8 (r1.toNat : Int), .int .u8 (r2.toNat : Int), .int .u8 (r3.toNat : Int)] 5)) = V3 at HY ⊢
        clear hTT
        have HTL := hid (show ts.length = 4 by rw [HTS.out]; exact kt_length ws i f)
        go_loopw [3, 7] (fun v vk w2 => ∃ (j m2 : Nat) (A2 : Option Addr) (c2 : Nat), j ≤ 4 ∧ vk = .int .i64 j ∧ v = .slice A2 m2 c2 ∧ Hid (m2 = m + j) ∧ KyW W0 m2 (kw ws i f j) (.slice A2 m2 c2) ts TT w2) (fun _ vk _ => 4 - (intOf vk).toNat)
        case atStart => exact ⟨0, m, _, _, by omega, rfl, rfl, hid rfl, by rw [kw_zero]; exact HY.out⟩
        case round =>
          clear HY
          obtain ⟨j, m2, A2, c2, hj, rfl, rfl, HM2, hY⟩ := hrel
          have HY := hid hY
          clear hY
          by_cases hlt4 : j < 4
          · have hm2 := HM2.out
            have hm4 := HM.out
            have hm2b : m2 ≤ 180 := by omega
            obtain ⟨i1, hi1⟩ : ∃ k, k = 4 * i - 16 + j := ⟨_, rfl⟩
            obtain ⟨i2, hi2⟩ : ∃ k, k = 4 * i - 16 := ⟨_, rfl⟩
            have u1 : IntKind.i64.wrap ((m : Int) - 16) = (i2 : Int) := by rw [IntKind.wrap_i64]; omega
            have u2 : IntKind.i64.wrap ((i2 : Int) + (j : Int)) = (i1 : Int) := by rw [IntKind.wrap_i64]; omega
            have hb1 : i1 < m2 := by omega
            have hb4 : 4 * i - 16 + j < ws.length := by rw [HWL.out]; omega
            obtain ⟨g2, o2, rfl, d1⟩ := rb_cell (Rd.of_own HY.out.o.own) (i := i1) (by rw [← HY.out.o.len]; exact hb1)
            rw [kw_get ws i f j i1 (by rw [hi1]; exact hb4)] at d1
            have d2 := at_ub_cell HY.out.t (i := j) (by rw [HTL.out]; exact hlt4)
            have HK := hid (kw_succ ws i f j)
            have HB := hid (show kb ws i f j = xr (ws.getD i1 0) (ts.getD j 0) by rw [HTS.out, hi1]; unfold kb; rfl)
            obtain ⟨x1, hx1⟩ : ∃ x, x = ws.getD i1 0 := ⟨_, rfl⟩
            obtain ⟨x2, hx2⟩ : ∃ x, x = ts.getD j 0 := ⟨_, rfl⟩
            rw [← hx1] at d1 HB
            rw [← hx2] at d2 HB
            have HC1 := hid (fun (W : World) (h : KyW W0 m2 (kw ws i f j) (.slice (some ⟨g2, o2, none⟩) m2 c2) ts TT W) => (by rw [h.c1 i1 (by rw [← HY.out.o.len]; exact hb1), kw_get ws i f j i1 (by rw [hi1]; exact hb4), ← hx1] : W.cell? ⟨g2, o2 + i1, none⟩ = some (.int .u8 (x1.toNat : Int))))
            have HC2 := hid (fun (W : World) (h : KyW W0 m2 (kw ws i f j) (.slice (some ⟨g2, o2, none⟩) m2 c2) ts TT W) => (by rw [at_ub_cell h.t (i := j) (by rw [HTL.out]; exact hlt4), ← hx2] : W.cell? ⟨TT, j, none⟩ = some (.int .u8 (x2.toNat : Int))))
            clear hi1 hi2 hx1 hx2 hm2 hm4 hb4
            go_wp2
            have HY9 := hid (HY.out.drew 1)
            clear d1 d2 HY
            refine wp_region_till (fun W => KyW W0 m2 (kw ws i f j) (.slice (some ⟨g2, o2, none⟩) m2 c2) ts TT W) 13 17 (by kernel_rfl) (by kernel_rfl) ?_
            have HYd := hid (show KyW W0 m2 (kw ws i f j) (.slice (some ⟨g2, o2, none⟩) m2 c2) ts TT wr.drew from HY9.out)
            clear HY9
            generalize wr.drew = W9 at HYd ⊢
            refine wpTill_freeL (i := 0) (v := .slice (some ⟨g2, o2, none⟩) m2 c2) rfl rfl (by kernel_rfl) (by kernel_rfl) (by kernel_rfl) (by decide) (fun _ _ _ h => h) (Or.inl ⟨by rfl, ?_⟩) (fun _ => HYd.out) ?_
            · (intro W hSW; go_simp)
            simp only [List.set_cons_succ, List.set_cons_zero]
            refine wpTill_freeL (i := 1) (v := .slice (some ⟨g2, o2, none⟩) m2 c2) rfl rfl (by kernel_rfl) (by kernel_rfl) (by kernel_rfl) (by decide) (fun _ _ _ h => h) (Or.inl ⟨by rfl, ?_⟩) (fun _ => HYd.out) ?_
            · (intro W hSW; go_simp)
            simp only [List.set_cons_succ, List.set_cons_zero]
            refine wpTill_freeL (i := 2) (v := .int .i64 (i : Int)) rfl rfl (by kernel_rfl) (by kernel_rfl) (by kernel_rfl) (by decide) (fun _ _ _ h => h) (Or.inl ⟨by rfl, ?_⟩) (fun _ => HYd.out) ?_
            · (intro W hSW; go_simp)
            simp only [List.set_cons_succ, List.set_cons_zero]
            refine wpTill_freeL (i := 3) (v := .int .i64 (m : Int)) rfl rfl (by kernel_rfl) (by kernel_rfl) (by kernel_rfl) (by decide) (fun _ _ _ h => h) (Or.inl ⟨by rfl, ?_⟩) (fun _ => HYd.out) ?_
            · (intro W hSW; go_simp)
            simp only [List.set_cons_succ, List.set_cons_zero]
            refine wpTill_freeL (i := 4) (v := .int .i64 (i2 : Int)) rfl rfl (by kernel_rfl) (by kernel_rfl) (by kernel_rfl) (by decide) (fun _ _ _ h => h) (Or.inl ⟨by rfl, ?_⟩) (fun _ => HYd.out) ?_
            · (intro W hSW; go_simp)
            simp only [List.set_cons_succ, List.set_cons_zero]
            refine wpTill_freeL (i := 5) (v := .int .i64 (j : Int)) rfl rfl (by kernel_rfl) (by kernel_rfl) (by kernel_rfl) (by decide) (fun _ _ _ h => h) (Or.inl ⟨by rfl, ?_⟩) (fun _ => HYd.out) ?_
            · (intro W hSW; go_simp)
            simp only [List.set_cons_succ, List.set_cons_zero]
            refine wpTill_freeL (i := 6) (v := .int .i64 (i1 : Int)) rfl rfl (by kernel_rfl) (by kernel_rfl) (by kernel_rfl) (by decide) (fun _ _ _ h => h) (Or.inl ⟨by rfl, ?_⟩) (fun _ => HYd.out) ?_
            · (intro W hSW; go_simp)
            simp only [List.set_cons_succ, List.set_cons_zero]
            refine wpTill_freeL (i := 7) (v := .pointer (some ⟨g2, o2 + i1, none⟩)) rfl rfl (by kernel_rfl) (by kernel_rfl) (by kernel_rfl) (by decide) (fun _ _ _ h => h) (Or.inl ⟨by rfl, ?_⟩) (fun _ => HYd.out) ?_
            · (intro W hSW; go_simp <;> (exact fun h => absurd h (by omega)))
            simp only [List.set_cons_succ, List.set_cons_zero]
            refine wpTill_takeL (i := 8) (v := .int .u8 (x1.toNat : Int)) rfl rfl (by kernel_rfl) (by kernel_rfl) (by kernel_rfl) (by kernel_rfl) (by decide) (by kernel_rfl) (fun _ _ _ h => h) (Or.inl ⟨by rfl, ?_⟩) HYd.out ?_
            · (intro W hSW; have d1 := HC1.out W hSW; go_simp)
            simp only [List.set_cons_succ, List.set_cons_zero]
            refine wpTill_freeL (i := 9) (v := .slice (some ⟨TT, 0, none⟩) 4 4) rfl rfl (by kernel_rfl) (by kernel_rfl) (by kernel_rfl) (by decide) (fun _ _ _ h => h) (Or.inl ⟨by rfl, ?_⟩) (fun _ => HYd.out) ?_
            · (intro W hSW; go_simp)
            simp only [List.set_cons_succ, List.set_cons_zero]
            refine wpTill_freeL (i := 10) (v := .int .i64 (j : Int)) rfl rfl (by kernel_rfl) (by kernel_rfl) (by kernel_rfl) (by decide) (fun _ _ _ h => h) (Or.inl ⟨by rfl, ?_⟩) (fun _ => HYd.out) ?_
            · (intro W hSW; go_simp)
            simp only [List.set_cons_succ, List.set_cons_zero]
            refine wpTill_freeL (i := 11) (v := .pointer (some ⟨TT, j, none⟩)) rfl rfl (by kernel_rfl) (by kernel_rfl) (by kernel_rfl) (by decide) (fun _ _ _ h => h) (Or.inl ⟨by rfl, ?_⟩) (fun _ => HYd.out) ?_
            · (intro W hSW; go_simp <;> (exact fun h => absurd h (by omega)))
            simp only [List.set_cons_succ, List.set_cons_zero]
            refine wpTill_takeL (i := 12) (v := .int .u8 (x2.toNat : Int)) rfl rfl (by kernel_rfl) (by kernel_rfl) (by kernel_rfl) (by kernel_rfl) (by decide) (by kernel_rfl) (fun _ _ _ h => h) (Or.inl ⟨by rfl, ?_⟩) HYd.out ?_
            · (intro W hSW; have d2 := HC2.out W hSW; go_simp)
            simp only [List.set_cons_succ, List.set_cons_zero]
            refine wpTill_one (i := 13) rfl (by kernel_rfl) rfl ?_
            intro K0 hK0
            go_simp
            refine hK0.out _ _ (fun _ h => absurd rfl h) ?_
            clear hK0 K0
            refine wpTill_one (i := 14) rfl (by kernel_rfl) rfl ?_
            intro K0 hK0
            go_simp
            refine hK0.out _ _ (fun h => absurd h (by decide)) ?_
            clear hK0 K0
            refine wpTill_one (i := 15) rfl (by kernel_rfl) rfl ?_
            intro K0 hK0
            refine wp_append_rd (.tmp 68) (.tmp 82) _ rfl W0.heap.size 5 i0 (.int .u8 0) 1 Tryd.underlying55 hi hz0 hz1 hz2 rfl (.slice (some ⟨g2, o2, none⟩) m2 c2) m2 (ubs (kw ws i f j)) rfl (HYd.out.o.own.alloc _) (W9.heap.size + 1) (some ⟨W9.heap.size, 0, none⟩) 1 1 (ubs [xr x1 x2]) rfl rfl (rb_one W9 (xr x1 x2)) (ubs_one _) (by unfold maxLen; omega) (by omega) (by have := HYd.out.o.below.size; simp; omega) ?_
            intro v4 w4 hown4 hgr4 hb4
            have hy4 := HYd.out.next hown4 hgr4 hb4
            obtain ⟨A4, c4, rfl, -⟩ := own_form hy4.o.own
            have Y4 := hid hy4
            clear hown4 hgr4 hb4 hy4
            refine hK0.out _ _ (fun h => absurd h (by decide)) ?_
            clear hK0 K0
            refine wpTill_one (i := 16) rfl (by kernel_rfl) rfl ?_
            intro K0 hK0
            go_simp
            refine hK0.out _ _ (fun h => absurd h (by decide)) ?_
            clear hK0 K0
            refine wpTill_done (by kernel_rfl) ?_ _
            go_simp
            go_wp2
            go_roundw
            case rel => exact ⟨j + 1, m2 + 1, A4, c4, by omega, by go_num, rfl, hid (by have := HM2.out; omega), by rw [HK.out, HB.out]; exact Y4.out⟩
            case measure => simp [intOf]; omega
          · obtain rfl : j = 4 := by omega
            go_wp2
            go_roundw
            case rel => exact ⟨i + 1, m2, A2, c2, f2, by omega, by omega, by go_num, rfl, hid (by have := HM2.out; have := HM.out; omega), rfl, by rw [HNX.out]; exact HF2.out, by rw [HNX.out]; exact HY.out.o⟩
            case measure => simp [intOf]; omega
      · have c4 : ((i : Int) % 4 == 0) = false := by simp; omega
        have hx4 := HKN.out h4
        obtain ⟨ts, hts⟩ : ∃ ts, ts = [p0, p1, p2, p3] := ⟨_, rfl⟩
        have HTS := hid (show ts = kt ws i f by rw [hts, hx4])
        obtain ⟨TT, hTT⟩ : ∃ TT, TT = W2.heap.size := ⟨_, rfl⟩
        have HYs := hid (show KyW W0 m ws (.slice (some ⟨g, o, none⟩) m c3) ts TT (W2.alloc (.cells #[.int .u8 (p0.toNat : Int), .int .u8 (p1.toNat : Int), .int .u8 (p2.toNat : Int), .int .u8 (p3.toNat : Int)] 5)) by rw [hts, hTT]; exact KyW.start HWO.out (HB2.out.alloc HB2.out.size _) _ HB2.out.size (lit4 W2 p0 p1 p2 p3))
        obtain ⟨f2, hf2⟩ : ∃ f2, f2 = f := ⟨_, rfl⟩
        have HF2 := hid (show f2 = kf i f by rw [hf2]; unfold kf; rw [if_neg h4])
        clear hx4 hts
        go_wp2
        have HY := HYs
        clear HYs
        rw [← hTT]
        generalize (W2.alloc (.cells #[.int .u8 (p0.toNat : Int), .int .u8 (p1.toNat : Int), .int .u8 (p2.toNat : Int), .int .u8 (p3.toNat : Int)] 5)) = V3 at HY ⊢
        clear hTT
        have HTL := hid (show ts.length = 4 by rw [HTS.out]; exact kt_length ws i f)
        go_loopw [3, 7] (fun v vk w2 => ∃ (j m2 : Nat) (A2 : Option Addr) (c2 : Nat), j ≤ 4 ∧ vk = .int .i64 j ∧ v = .slice A2 m2 c2 ∧ Hid (m2 = m + j) ∧ KyW W0 m2 (kw ws i f j) (.slice A2 m2 c2) ts TT w2) (fun _ vk _ => 4 - (intOf vk).toNat)
        case atStart => exact ⟨0, m, _, _, by omega, rfl, rfl, hid rfl, by rw [kw_zero]; exact HY.out⟩
        case round =>
          clear HY
          obtain ⟨j, m2, A2, c2, hj, rfl, rfl, HM2, hY⟩ := hrel
          have HY := hid hY
          clear hY
          by_cases hlt4 : j < 4
          · have hm2 := HM2.out
            have hm4 := HM.out
            have hm2b : m2 ≤ 180 := by omega
            obtain ⟨i1, hi1⟩ : ∃ k, k = 4 * i - 16 + j := ⟨_, rfl⟩
            obtain ⟨i2, hi2⟩ : ∃ k, k = 4 * i - 16 := ⟨_, rfl⟩
            have u1 : IntKind.i64.wrap ((m : Int) - 16) = (i2 : Int) := by rw [IntKind.wrap_i64]; omega
            have u2 : IntKind.i64.wrap ((i2 : Int) + (j : Int)) = (i1 : Int) := by rw [IntKind.wrap_i64]; omega
            have hb1 : i1 < m2 := by omega
            have hb4 : 4 * i - 16 + j < ws.length := by rw [HWL.out]; omega
            obtain ⟨g2, o2, rfl, d1⟩ := rb_cell (Rd.of_own HY.out.o.own) (i := i1) (by rw [← HY.out.o.len]; exact hb1)
            rw [kw_get ws i f j i1 (by rw [hi1]; exact hb4)] at d1
            have d2 := at_ub_cell HY.out.t (i := j) (by rw [HTL.out]; exact hlt4)
            have HK := hid (kw_succ ws i f j)
            have HB := hid (show kb ws i f j = xr (ws.getD i1 0) (ts.getD j 0) by rw [HTS.out, hi1]; unfold kb; rfl)
            obtain ⟨x1, hx1⟩ : ∃ x, x = ws.getD i1 0 := ⟨_, rfl⟩
            obtain ⟨x2, hx2⟩ : ∃ x, x = ts.getD j 0 := ⟨_, rfl⟩
            rw [← hx1] at d1 HB
            rw [← hx2] at d2 HB
            have HC1 := hid (fun (W : World) (h : KyW W0 m2 (kw ws i f j) (.slice (some ⟨g2, o2, none⟩) m2 c2) ts TT W) => (by rw [h.c1 i1 (by rw [← HY.out.o.len]; exact hb1), kw_get ws i f j i1 (by rw [hi1]; exact hb4), ← hx1] : W.cell? ⟨g2, o2 + i1, none⟩ = some (.int .u8 (x1.toNat : Int))))
            have HC2 := hid (fun (W : World) (h : KyW W0 m2 (kw ws i f j) (.slice (some ⟨g2, o2, none⟩) m2 c2) ts TT W) => (by rw [at_ub_cell h.t (i := j) (by rw [HTL.out]; exact hlt4), ← hx2] : W.cell? ⟨TT, j, none⟩ = some (.int .u8 (x2.toNat : Int))))
            clear hi1 hi2 hx1 hx2 hm2 hm4 hb4
            go_wp2
            have HY9 := hid (HY.out.drew 1)
            clear d1 d2 HY
            refine wp_region_till (fun W => KyW W0 m2 (kw ws i f j) (.slice (some ⟨g2, o2, none⟩) m2 c2) ts TT W) 13 17 (by kernel_rfl) (by kernel_rfl) ?_
            have HYd := hid (show KyW W0 m2 (kw ws i f j) (.slice (some ⟨g2, o2, none⟩) m2 c2) ts TT wr.drew from HY9.out)
            clear HY9
            generalize wr.drew = W9 at HYd ⊢
            refine wpTill_freeL (i := 0) (v := .slice (some ⟨g2, o2, none⟩) m2 c2) rfl rfl (by kernel_rfl) (by kernel_rfl) (by kernel_rfl) (by decide) (fun _ _ _ h => h) (Or.inl ⟨by rfl, ?_⟩) (fun _ => HYd.out) ?_
            · (intro W hSW; go_simp)
            simp only [List.set_cons_succ, List.set_cons_zero]
            refine wpTill_freeL (i := 1) (v := .slice (some ⟨g2, o2, none⟩) m2 c2) rfl rfl (by kernel_rfl) (by kernel_rfl) (by kernel_rfl) (by decide) (fun _ _ _ h => h) (Or.inl ⟨by rfl, ?_⟩) (fun _ => HYd.out) ?_
            · (intro W hSW; go_simp)
            simp only [List.set_cons_succ, List.set_cons_zero]
            refine wpTill_freeL (i := 2) (v := .int .i64 (i : Int)) rfl rfl (by kernel_rfl) (by kernel_rfl) (by kernel_rfl) (by decide) (fun _ _ _ h => h) (Or.inl ⟨by rfl, ?_⟩) (fun _ => HYd.out) ?_
            · (intro W hSW; go_simp)
            simp only [List.set_cons_succ, List.set_cons_zero]
            refine wpTill_freeL (i := 3) (v := .int .i64 (m : Int)) rfl rfl (by kernel_rfl) (by kernel_rfl) (by kernel_rfl) (by decide) (fun _ _ _ h => h) (Or.inl ⟨by rfl, ?_⟩) (fun _ => HYd.out) ?_
            · (intro W hSW; go_simp)
            simp only [List.set_cons_succ, List.set_cons_zero]
            refine wpTill_freeL (i := 4) (v := .int .i64 (i2 : Int)) rfl rfl (by kernel_rfl) (by kernel_rfl) (by kernel_rfl) (by decide) (fun _ _ _ h => h) (Or.inl ⟨by rfl, ?_⟩) (fun _ => HYd.out) ?_
            · (intro W hSW; go_simp)
            simp only [List.set_cons_succ, List.set_cons_zero]
            refine wpTill_freeL (i := 5) (v := .int .i64 (j : Int)) rfl rfl (by kernel_rfl) (by kernel_rfl) (by kernel_rfl) (by decide) (fun _ _ _ h => h) (Or.inl ⟨by rfl, ?_⟩) (fun _ => HYd.out) ?_
            · (intro W hSW; go_simp)
            simp only [List.set_cons_succ, List.set_cons_zero]
            refine wpTill_freeL (i := 6) (v := .int .i64 (i1 : Int)) rfl rfl (by kernel_rfl) (by kernel_rfl) (by kernel_rfl) (by decide) (fun _ _ _ h => h) (Or.inl ⟨by rfl, ?_⟩) (fun _ => HYd.out) ?_
            · (intro W hSW; go_simp)
            simp only [List.set_cons_succ, List.set_cons_zero]
            refine wpTill_freeL (i := 7) (v := .pointer (some ⟨g2, o2 + i1, none⟩)) rfl rfl (by kernel_rfl) (by kernel_rfl) (by kernel_rfl) (by decide) (fun _ _ _ h => h) (Or.inl ⟨by rfl, ?_⟩) (fun _ => HYd.out) ?_
            · (intro W hSW; go_simp <;> (exact fun h => absurd h (by omega)))
            simp only [List.set_cons_succ, List.set_cons_zero]
            refine wpTill_takeL (i := 8) (v := .int .u8 (x1.toNat : Int)) rfl rfl (by kernel_rfl) (by kernel_rfl) (by kernel_rfl) (by kernel_rfl) (by decide) (by kernel_rfl) (fun _ _ _ h => h) (Or.inl ⟨by rfl, ?_⟩) HYd.out ?_
            · (intro W hSW; have d1 := HC1.out W hSW; go_simp)
            simp only [List.set_cons_succ, List.set_cons_zero]
            refine wpTill_freeL (i := 9) (v := .slice (some ⟨TT, 0, none⟩) 4 4) rfl rfl (by kernel_rfl) (by kernel_rfl) (by kernel_rfl) (by decide) (fun _ _ _ h => h) (Or.inl ⟨by rfl, ?_⟩) (fun _ => HYd.out) ?_
            · (intro W hSW; go_simp)
            simp only [List.set_cons_succ, List.set_cons_zero]
            refine wpTill_freeL (i := 10) (v := .int .i64 (j : Int)) rfl rfl (by kernel_rfl) (by kernel_rfl) (by kernel_rfl) (by decide) (fun _ _ _ h => h) (Or.inl ⟨by rfl, ?_⟩) (fun _ => HYd.out) ?_
            · (intro W hSW; go_simp)
            simp only [List.set_cons_succ, List.set_cons_zero]
            refine wpTill_freeL (i := 11) (v := .pointer (some ⟨TT, j, none⟩)) rfl rfl (by kernel_rfl) (by kernel_rfl) (by kernel_rfl) (by decide) (fun _ _ _ h => h) (Or.inl ⟨by rfl, ?_⟩) (fun _ => HYd.out) ?_
            · (intro W hSW; go_simp <;> (exact fun h => absurd h (by omega)))
            simp only [List.set_cons_succ, List.set_cons_zero]
            refine wpTill_takeL (i := 12) (v := .int .u8 (x2.toNat : Int)) rfl rfl (by kernel_rfl) (by kernel_rfl) (by kernel_rfl) (by kernel_rfl) (by decide) (by kernel_rfl) (fun _ _ _ h => h) (Or.inl ⟨by rfl, ?_⟩) HYd.out ?_
            · (intro W hSW; have d2 := HC2.out W hSW; go_simp)
            simp only [List.set_cons_succ, List.set_cons_zero]
            refine wpTill_one (i := 13) rfl (by kernel_rfl) rfl ?_
            intro K0 hK0
            go_simp
            refine hK0.out _ _ (fun _ h => absurd rfl h) ?_
            clear hK0 K0
            refine wpTill_one (i := 14) rfl (by kernel_rfl) rfl ?_
            intro K0 hK0
            go_simp
            refine hK0.out _ _ (fun h => absurd h (by decide)) ?_
            clear hK0 K0
            refine wpTill_one (i := 15) rfl (by kernel_rfl) rfl ?_
            intro K0 hK0
            refine wp_append_rd (.tmp 68) (.tmp 82) _ rfl W0.heap.size 5 i0 (.int .u8 0) 1 Tryd.underlying55 hi hz0 hz1 hz2 rfl (.slice (some ⟨g2, o2, none⟩) m2 c2) m2 (ubs (kw ws i f j)) rfl (HYd.out.o.own.alloc _) (W9.heap.size + 1) (some ⟨W9.heap.size, 0, none⟩) 1 1 (ubs [xr x1 x2]) rfl rfl (rb_one W9 (xr x1 x2)) (ubs_one _) (by unfold maxLen; omega) (by omega) (by have := HYd.out.o.below.size; simp; omega) ?_
            intro v4 w4 hown4 hgr4 hb4
            have hy4 := HYd.out.next hown4 hgr4 hb4
            obtain ⟨A4, c4, rfl, -⟩ := own_form hy4.o.own
            have Y4 := hid hy4
            clear hown4 hgr4 hb4 hy4
            refine hK0.out _ _ (fun h => absurd h (by decide)) ?_
            clear hK0 K0
            refine wpTill_one (i := 16) rfl (by kernel_rfl) rfl ?_
            intro K0 hK0
            go_simp
            refine hK0.out _ _ (fun h => absurd h (by decide)) ?_
            clear hK0 K0
            refine wpTill_done (by kernel_rfl) ?_ _
            go_simp
            go_wp2
            go_roundw
            case rel => exact ⟨j + 1, m2 + 1, A4, c4, by omega, by go_num, rfl, hid (by have := HM2.out; omega), by rw [HK.out, HB.out]; exact Y4.out⟩
            case measure => simp [intOf]; omega
          · obtain rfl : j = 4 := by omega
            go_wp2
            go_roundw
            case rel => exact ⟨i + 1, m2, A2, c2, f, by omega, by omega, by go_num, rfl, hid (by have := HM2.out; have := HM.out; omega), rfl, by rw [HNX.out]; exact hf2.symm.trans HF2.out, by rw [HNX.out]; exact HY.out.o⟩
            case measure => simp [intOf]; omega
    · obtain rfl : i = 44 := by omega
      have ho := HWO.out.own
      rw [HFIN.out] at ho
      have hl := HKL.out 40
      have HLL := hid (show (keysL key).length = 176 from hl)
      have hm176 : m = 176 := by have := HM.out; omega
      subst hm176
      have HOW := hid ho
      have HBW := hid HWO.out.below
      clear ho hl HWO
      go_wp2
      go_ret
      exact ⟨_, rfl, own_mono HOW.out (fun k hk => by have := (World.ownsRow.lt HOW.out k hk).1; have := HS0.out; omega), HLL.out, HB0.out.trans (HBW.out.mono (by have := HS0.out; omega))⟩
end Go.Proofs.YtnaihcoafgigcaaDoor
