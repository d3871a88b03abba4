/-
  The document's encryption of a block, walked.
-/
import Derived.Test.YtnaihcoafgigcaaDoorY1
import Derived.Test.YtnaihcoafgigcaaDoorZ1
namespace Go.Proofs.YtnaihcoafgigcaaDoor
open Go.RowKit

/-- What holds between rounds: the block that came in, the result, the block in the making. -/
structure EnW (w : World) (b x : List UInt8) (C : Nat) (W : World) : Prop where
  arg : At W w.heap.size (ubs b).toArray 22
  res : At W (w.heap.size + 1) (ubs n16).toArray 22
  cur : At W C (ubs x).toArray 22
  lt : w.heap.size + 1 < C
  below : Below w.heap.size w W
theorem EnW.next {w W W' : World} {b x : List UInt8} {C : Nat} (h : EnW w b x C W) (hb : Below W.heap.size W W') : EnW w b x C W' :=
  ⟨h.arg.new_ hb, h.res.new_ hb, h.cur.new_ hb, h.lt, h.below.trans (hb.mono h.below.size)⟩
theorem EnW.row {w W : World} {b x : List UInt8} {C : Nat} (h : EnW w b x C W) (y : List UInt8) : EnW w b y C (W.setRow C (ubs y).toArray) :=
  ⟨h.arg.setRow_far (by have := h.lt; omega), h.res.setRow_far (by have := h.lt; omega), setRow_heap _ _ _ _ _ _ h.cur, h.lt, below_setRow h.below (by have := h.lt; omega) _⟩
theorem EnW.put {w W : World} {b x : List UInt8} {C : Nat} (h : EnW w b x C W) (i : Nat) (y : UInt8) : EnW w b (x.set i y) C (W.setCell ⟨C, i, none⟩ (.int .u8 (y.toNat : Int))) :=
  ⟨h.arg.far (p := ⟨C, i, none⟩) (by have := h.lt; show w.heap.size ≠ C; omega) _, h.res.far (p := ⟨C, i, none⟩) (by have := h.lt; show w.heap.size + 1 ≠ C; omega) _, at_ub_put h.cur i y, h.lt, h.below.setCell (p := ⟨C, i, none⟩) (by have := h.lt; show w.heap.size ≤ C; omega) _⟩
/-- Beside: the substituted block. -/
structure EmW (w : World) (b x : List UInt8) (C : Nat) (s : List UInt8) (D : Nat) (W : World) : Prop where
  en : EnW w b x C W
  sub : At W D (ubs s).toArray 22
  lt : C < D
theorem EmW.put {w W : World} {b x s : List UInt8} {C D : Nat} (h : EmW w b x C s D W) (i : Nat) (y : UInt8) : EmW w b x C (s.set i y) D (W.setCell ⟨D, i, none⟩ (.int .u8 (y.toNat : Int))) :=
  ⟨⟨h.en.arg.far (p := ⟨D, i, none⟩) (by have := h.lt; have := h.en.lt; show w.heap.size ≠ D; omega) _, h.en.res.far (p := ⟨D, i, none⟩) (by have := h.lt; have := h.en.lt; show w.heap.size + 1 ≠ D; omega) _, h.en.cur.far (p := ⟨D, i, none⟩) (by have := h.lt; show C ≠ D; omega) _, h.en.lt, h.en.below.setCell (p := ⟨D, i, none⟩) (by have := h.lt; have := h.en.lt; show w.heap.size ≤ D; omega) _⟩, at_ub_put h.sub i y, h.lt⟩
theorem EmW.put2 {w W : World} {b x s : List UInt8} {C D : Nat} (h : EmW w b x C s D W) (i : Nat) (y : UInt8) : EmW w b (x.set i y) C s D (W.setCell ⟨C, i, none⟩ (.int .u8 (y.toNat : Int))) :=
  ⟨h.en.put i y, h.sub.far (p := ⟨C, i, none⟩) (by have := h.lt; show D ≠ C; omega) _, h.lt⟩
theorem EmW.row {w W : World} {b x s : List UInt8} {C D : Nat} (h : EmW w b x C s D W) (y : List UInt8) : EmW w b y C s D (W.setRow C (ubs y).toArray) :=
  ⟨h.en.row y, h.sub.setRow_far (by have := h.lt; omega), h.lt⟩
theorem EmW.start {w W : World} {b x : List UInt8} {C : Nat} (h : EnW w b x C W) (s : List UInt8) : EmW w b x C s W.heap.size (W.alloc (.cells (ubs s).toArray 22)) :=
  ⟨h.next ((Below.refl _ _).alloc (Nat.le_refl _) _), At.new _ _ _, h.cur.lt⟩
theorem EmW.drew {w W : World} {b x s : List UInt8} {C D : Nat} (h : EmW w b x C s D W) (n : Nat) : EmW w b x C s D (W.drewN n) :=
  ⟨⟨h.en.arg, h.en.res, h.en.cur, h.en.lt, below_drewN h.en.below n⟩, h.sub, h.lt⟩
set_option maxRecDepth 100000 in
set_option maxHeartbeats 2000000 in
theorem encrypt_any (keys b : List UInt8) (A : Option Addr) (c : Nat) (w : World) (hb : b.length = 16) (hk : keys.length = 176) (hr : Rb w w.heap.size A keys) :
    Calls Tryd.prog 77 #[.slice A 176 c, .agg (ubs b).toArray] w fun e w' => e = .returned (.agg (ubs (encL keys b)).toArray) ∧ Below w.heap.size w w' := by
  obtain ⟨W0, hW0⟩ : ∃ W0, W0 = (w.alloc (.cells (ubs b).toArray 22)).alloc (.cells (ubs n16).toArray 22) := ⟨_, rfl⟩
  have hb0 : Below w.heap.size w W0 := by rw [hW0]; exact ((Below.refl _ _).alloc (Nat.le_refl _) _).alloc (by simp) _
  have h0 : At W0 w.heap.size (ubs b).toArray 22 := by rw [hW0]; exact (At.new _ _ _).alloc _
  have h1 : At W0 (w.heap.size + 1) (ubs n16).toArray 22 := by rw [hW0]; exact At.new_at (by simp)
  have HS0 := hid (show W0.heap.size = w.heap.size + 2 by rw [hW0]; simp)
  have HB0 := hid hb0
  have H0 := hid h0
  have H1 := hid h1
  have HAD := hid (fun (x : List UInt8) (n : Nat) (W : World) (h : Below w.heap.size w W) (hx : x.length = 16) (hn : n ≤ 10) => add_any x keys n A c W hx hk hn ((hr.below h).mono h.size))
  have HST := hid (fun (W1 : World) (x : List UInt8) (hb1 : Below W0.heap.size W0 W1) => (⟨(h0.new_ hb1).alloc _ |>.setRow_far (by have := hb1.size; have := HS0.out; omega), (h1.new_ hb1).alloc _ |>.setRow_far (by have := hb1.size; have := HS0.out; omega), setRow_heap _ _ (ubs n16).toArray _ _ _ (At.new _ _ _), by have := hb1.size; have := HS0.out; omega, below_setRow ((hb0.trans (hb1.mono hb0.size)).alloc (by have := hb1.size; have := hb0.size; omega) _) (by have := hb1.size; have := hb0.size; omega) _⟩ : EnW w b x W1.heap.size ((W1.alloc (.cells (ubs n16).toArray 22)).setRow W1.heap.size (ubs x).toArray)))
  have HL := hid hb
  have hz := noughts16
  have HZ := hid (fun (x : List UInt8) (hx : x.length = 16) => show (Tryd.prog.info? 22).map (·.size) = some (ubs x).toArray.size by rw [size16]; simp [ubs_length, hx])
  have HE := hid (encL_eq keys b)
  clear hb0 h0 h1 hr hb hk
  subst hW0
  have hbx := b_xr
  go_enter Tryd.func77, Tryd.ntmps77
  go_wp2_with (first
    | (refine wpList_load_row rfl _ (.tmp 3) rfl w.heap.size rfl 22 (ubs b).toArray (0, 0) _ H0.out Tryd.underlying22 rfl (HZ.out b HL.out) ?_)
    | (go_at_call 89; refine (HAD.out b 0 _ HB0.out HL.out (by omega)).mono ?_; rintro e w1 ⟨rfl, hb1⟩; have HW1 := hid (HST.out w1 (addL b keys 0) hb1); clear hb1)
    | (refine wpList_store_row rfl _ (.tmp 5) (.tmp 17) rfl w1.heap.size (ubs (addL b keys 0)).toArray rfl rfl 22 (ubs n16).toArray (heap_alloc_new _ _) (HZ.out _ (addL_length _ _ _)) ?e1 (ubs_all _) ?e2; rotate_right; generalize ((w1.alloc (.cells (ubs n16).toArray 22)).setRow w1.heap.size (ubs (addL b keys 0)).toArray) = W1 at HW1 ⊢))
  case e1 => simp [ubs_length, n16_length, addL_length]
  go_loopw [6] (fun vn wr => ∃ k : Nat, k ≤ 10 ∧ vn = .int .i64 ((k : Int) + 1) ∧ EnW w b (encK keys b k) w1.heap.size wr) (fun vn _ => 20 - (intOf vn).toNat)
  case atStart => exact ⟨0, by omega, rfl, by rw [encK_zero]; exact HW1.out⟩
  case round =>
    clear HW1 HST H0 H1 HB0 HS0
    obtain ⟨k, hk, rfl, hW⟩ := hrel
    have HW := hid hW
    clear hW
    by_cases hlt : k < 10
    · have HX := hid (encK_length keys b k)
      obtain ⟨x, hx⟩ : ∃ x, x = encK keys b k := ⟨_, rfl⟩
      have HN := hid (show encK keys b (k + 1) = roundL keys (k + 1) x by rw [encK_succ, hx])
      rw [← hx] at HW HX
      clear hx
      have ck : decide ((k : Int) + 1 ≤ 10) = true := by simp; omega
      obtain ⟨D, hD⟩ : ∃ D, D = wr.heap.size := ⟨_, rfl⟩
      have HM0 := hid (show EmW w b x w1.heap.size n16 D (wr.alloc (.cells (ubs n16).toArray 22)) by rw [hD]; exact EmW.start HW.out n16)
      go_wp2
      clear HW
      rw [← hD]
      clear hD
      go_loopw [8] (fun vc w2 => ∃ q : Nat, q ≤ 4 ∧ vc = .int .i64 q ∧ EmW w b x w1.heap.size (upd n16 (shF x) (4 * q)) D w2) (fun vc _ => 4 - (intOf vc).toNat)
      case atStart => exact ⟨0, by omega, rfl, by rw [Nat.mul_zero, upd_zero]; exact HM0.out⟩
      case round =>
        clear HM0
        obtain ⟨q, hq, rfl, hM⟩ := hrel
        have HM := hid hM
        clear hM
        by_cases hq4 : q < 4
        · have cq : decide ((q : Int) < 4) = true := by simp; omega
          go_wp2
          go_loopw [9] (fun vr w2 => ∃ r : Nat, r ≤ 4 ∧ vr = .int .i64 r ∧ EmW w b x w1.heap.size (upd n16 (shF x) (4 * q + r)) D w2) (fun vr _ => 4 - (intOf vr).toNat)
          case atStart => exact ⟨0, by omega, rfl, HM.out⟩
          case round =>
            clear HM
            obtain ⟨r, hr, rfl, hM⟩ := hrel
            have HM := hid hM
            clear hM
            by_cases hr4 : r < 4
            · obtain ⟨i1, hi1⟩ : ∃ i, i = 4 * ((q + r) % 4) + r := ⟨_, rfl⟩
              obtain ⟨i2, hi2⟩ : ∃ i, i = 4 * q + r := ⟨_, rfl⟩
              have e1 : 4 * (((q : Int) + (r : Int)) % 4) + (r : Int) = (i1 : Int) := by omega
              have e2 : 4 * (q : Int) + (r : Int) = (i2 : Int) := by omega
              have hb1 : i1 < 16 := by omega
              have hb2 : i2 < 16 := by omega
              have c1 := at_ub_cell HM.out.en.cur (i := i1) (by rw [HX.out]; exact hb1)
              have hul : (upd n16 (shF x) (4 * q + r)).length = 16 := by rw [upd_length _ _ _ (by rw [n16_length]; omega), n16_length]
              have c2 := at_ub_cell HM.out.sub (i := i2) (by rw [hul]; exact hb2)
              have f2 := HM.out.sub.frozen i2
              have HU := hid (show upd n16 (shF x) (4 * q + (r + 1)) = (upd n16 (shF x) (4 * q + r)).set i2 (sT (x.getD i1 0)) by
                rw [show 4 * q + (r + 1) = i2 + 1 by omega, upd_succ _ _ _ (by rw [n16_length]; exact hb2), ← hi2]
                congr 1
                unfold shF
                rw [show i2 / 4 = q by omega, show i2 % 4 = r by omega, ← hi1])
              obtain ⟨y, hy⟩ : ∃ y, y = x.getD i1 0 := ⟨_, rfl⟩
              rw [← hy] at c1 HU
              clear hy hi1 hi2 hul
              go_wp2_with (refine wpList_value _ rfl (run_sT _ (.tmp 42) rfl (by kernel_rfl) y rfl) ?_)
              go_roundw
              case rel => exact ⟨r + 1, by omega, by go_num, by rw [HU.out]; exact HM.out.put i2 _⟩
              case measure => simp [intOf]; omega
            · obtain rfl : r = 4 := by omega
              go_wp2
              go_roundw
              case rel => exact ⟨q + 1, by omega, by go_num, by rw [show 4 * (q + 1) = 4 * q + 4 by omega]; exact HM.out⟩
              case measure => simp [intOf]; omega
        · obtain rfl : q = 4 := by omega
          have hm := HM.out
          rw [show 4 * 4 = 16 by rfl, upd_all n16 _ n16_length] at hm
          have HS := hid (show EmW w b x w1.heap.size (shL x) D wr from hm)
          have HSL := hid (shL_length x)
          obtain ⟨s, hs⟩ : ∃ s, s = shL x := ⟨_, rfl⟩
          rw [← hs] at HS HSL
          have HN2 := hid (show encK keys b (k + 1) = addL (if k + 1 < 10 then mixL s else s) keys (k + 1) by rw [HN.out, roundL, hs])
          clear hm HM HN hs
          by_cases hk9 : k + 1 < 10
          · have hN3 := HN2.out
            rw [if_pos hk9] at hN3
            have HN3 := hid hN3
            clear hN3 HN2
            have c9 : decide ((k : Int) + 1 < 10) = true := by simp; omega
            go_wp2_with (first
              | (refine wpList_load_row rfl _ (.tmp 7) rfl D rfl 22 (ubs s).toArray (0, 0) _ HS.out.sub Tryd.underlying22 rfl (HZ.out s HSL.out) ?_)
              | (refine wpList_store_row rfl _ (.tmp 5) (.tmp 45) rfl w1.heap.size (ubs s).toArray rfl rfl 22 (ubs x).toArray HS.out.en.cur (HZ.out s HSL.out) ?e3 (ubs_all _) ?e4; rotate_right; have HR := hid (HS.out.row s); generalize (wr.setRow w1.heap.size (ubs s).toArray) = W3 at HR ⊢))
            case e3 => simp [ubs_length, HSL.out, HX.out]
            go_loopw [10] (fun vc w2 => ∃ q : Nat, q ≤ 4 ∧ vc = .int .i64 q ∧ EmW w b (upd s (mixF s) (4 * q)) w1.heap.size s D w2) (fun vc _ => 4 - (intOf vc).toNat)
            case atStart => exact ⟨0, by omega, rfl, by rw [Nat.mul_zero, upd_zero]; exact HR.out⟩
            case round =>
              clear HR HS
              obtain ⟨q, hq, rfl, hM⟩ := hrel
              have HM := hid hM
              clear hM
              by_cases hq4 : q < 4
              · have cq : decide ((q : Int) < 4) = true := by simp; omega
                have HF := hid (mixF_at s q)
                have HU0 := hid (upd_succ s (mixF s) (4 * q) (by rw [HSL.out]; omega))
                have HU1 := hid (upd_succ s (mixF s) (4 * q + 1) (by rw [HSL.out]; omega))
                have HU2 := hid (upd_succ s (mixF s) (4 * q + 2) (by rw [HSL.out]; omega))
                have HU3 := hid (upd_succ s (mixF s) (4 * q + 3) (by rw [HSL.out]; omega))
                have hul : (upd s (mixF s) (4 * q)).length = 16 := by rw [upd_length _ _ _ (by rw [HSL.out]; omega), HSL.out]
                have HUL := hid hul
                obtain ⟨j0, hj0⟩ : ∃ j, j = 4 * q := ⟨_, rfl⟩
                obtain ⟨j1, hj1⟩ : ∃ j, j = j0 + 1 := ⟨_, rfl⟩
                obtain ⟨j2, hj2⟩ : ∃ j, j = j0 + 2 := ⟨_, rfl⟩
                obtain ⟨j3, hj3⟩ : ∃ j, j = j0 + 3 := ⟨_, rfl⟩
                have HJ := hid (show j0 = 4 * q from hj0)
                have e0 : 4 * (q : Int) = (j0 : Int) := by omega
                have e1 : (j0 : Int) + 1 = (j1 : Int) := by omega
                have e2 : (j0 : Int) + 2 = (j2 : Int) := by omega
                have e3 : (j0 : Int) + 3 = (j3 : Int) := by omega
                have b3 : j3 < 16 := by omega
                have b2 : j2 < 16 := by omega
                have b1 : j1 < 16 := by omega
                have b0 : j0 < 16 := by omega
                rw [← hj0, ← hj1, ← hj2, ← hj3] at HF
                rw [← hj0] at HM HU0 HU1 HU2 HU3 HUL
                rw [← hj1] at HU0 HU1
                rw [show j1 + 1 = j2 by omega] at HU1
                rw [← hj2, show j2 + 1 = j3 by omega] at HU2
                rw [← hj3, show j3 + 1 = j0 + 4 by omega] at HU3
                have HM' := HM
                have d0 := at_ub_cell HM.out.sub (i := j0) (by rw [HSL.out]; exact b0)
                have d1 := at_ub_cell HM.out.sub (i := j1) (by rw [HSL.out]; exact b1)
                have d2 := at_ub_cell HM.out.sub (i := j2) (by rw [HSL.out]; exact b2)
                have d3 := at_ub_cell HM.out.sub (i := j3) (by rw [HSL.out]; exact b3)
                obtain ⟨p0, hp0⟩ : ∃ x, x = s.getD j0 0 := ⟨_, rfl⟩
                obtain ⟨p1, hp1⟩ : ∃ x, x = s.getD j1 0 := ⟨_, rfl⟩
                obtain ⟨p2, hp2⟩ : ∃ x, x = s.getD j2 0 := ⟨_, rfl⟩
                obtain ⟨p3, hp3⟩ : ∃ x, x = s.getD j3 0 := ⟨_, rfl⟩
                rw [← hp0] at d0 HF
                rw [← hp1] at d1 HF
                rw [← hp2] at d2 HF
                rw [← hp3] at d3 HF
                clear hj0 hj1 hj2 hj3 hp0 hp1 hp2 hp3 hul HM'
                go_wp2
                go_quiet (fail)
                have HQ := hid (HM.out.drew nq)
                have HDB := hid (fun (x : UInt8) (W : World) => double_any x W)
                generalize wr.drewN nq = V0 at HQ ⊢
                clear d0 d1 d2 d3
                have c0 := at_ub_cell HQ.out.en.cur (i := j0) (by rw [upd_length _ _ _ (by rw [HSL.out]; omega), HSL.out]; exact b0)
                have f0 := HQ.out.en.cur.frozen j0
                go_upto_region 20 with (go_at_call 63; refine (HDB.out _ _).mono ?_; rintro e w' ⟨rfl, hw⟩; rw [hw])
                have G0 := hid (show EmW w b (upd s (mixF s) j1) w1.heap.size s D (V0.setCell ⟨w1.heap.size, j0, none⟩ (.int .u8 ((xr (xr (xr (xr (dbl p0) (dbl p1)) p1) p2) p3).toNat : Int))) by rw [HU0.out, HF.out.1]; exact HQ.out.put2 j0 _)
                generalize V0.setCell ⟨w1.heap.size, j0, none⟩ (.int .u8 ((xr (xr (xr (xr (dbl p0) (dbl p1)) p1) p2) p3).toNat : Int)) = V1 at G0 ⊢
                clear c0 f0 HQ
                have c1 := at_ub_cell G0.out.en.cur (i := j1) (by rw [upd_length _ _ _ (by rw [HSL.out]; omega), HSL.out]; exact b1)
                have f1 := G0.out.en.cur.frozen j1
                go_upto_region 21 with (go_at_call 63; refine (HDB.out _ _).mono ?_; rintro e w' ⟨rfl, hw⟩; rw [hw])
                have G1 := hid (show EmW w b (upd s (mixF s) j2) w1.heap.size s D (V1.setCell ⟨w1.heap.size, j1, none⟩ (.int .u8 ((xr (xr (xr (xr p0 (dbl p1)) (dbl p2)) p2) p3).toNat : Int))) by rw [HU1.out, HF.out.2.1]; exact G0.out.put2 j1 _)
                generalize V1.setCell ⟨w1.heap.size, j1, none⟩ (.int .u8 ((xr (xr (xr (xr p0 (dbl p1)) (dbl p2)) p2) p3).toNat : Int)) = V2 at G1 ⊢
                clear c1 f1 G0
                have c2 := at_ub_cell G1.out.en.cur (i := j2) (by rw [upd_length _ _ _ (by rw [HSL.out]; omega), HSL.out]; exact b2)
                have f2 := G1.out.en.cur.frozen j2
                go_upto_region 22 with (go_at_call 63; refine (HDB.out _ _).mono ?_; rintro e w' ⟨rfl, hw⟩; rw [hw])
                have G2 := hid (show EmW w b (upd s (mixF s) j3) w1.heap.size s D (V2.setCell ⟨w1.heap.size, j2, none⟩ (.int .u8 ((xr (xr (xr (xr p0 p1) (dbl p2)) (dbl p3)) p3).toNat : Int))) by rw [HU2.out, HF.out.2.2.1]; exact G1.out.put2 j2 _)
                generalize V2.setCell ⟨w1.heap.size, j2, none⟩ (.int .u8 ((xr (xr (xr (xr p0 p1) (dbl p2)) (dbl p3)) p3).toNat : Int)) = V3 at G2 ⊢
                clear c2 f2 G1
                have c3 := at_ub_cell G2.out.en.cur (i := j3) (by rw [upd_length _ _ _ (by rw [HSL.out]; omega), HSL.out]; exact b3)
                have f3 := G2.out.en.cur.frozen j3
                go_wp2_with (go_at_call 63; refine (HDB.out _ _).mono ?_; rintro e w' ⟨rfl, hw⟩; rw [hw])
                go_roundw
                case rel => exact ⟨q + 1, by omega, by go_num, by rw [show 4 * (q + 1) = j0 + 4 by have := HJ.out; omega, HU3.out, HF.out.2.2.2]; exact G2.out.put2 j3 _⟩
                case measure => simp [intOf]; omega
              · obtain rfl : q = 4 := by omega
                have hm := HM.out.en
                rw [show 4 * 4 = 16 by rfl, upd_all s _ HSL.out] at hm
                have HQ := hid (show EnW w b (mixL s) w1.heap.size wr from hm)
                have HML := hid (mixL_length s)
                obtain ⟨m, hmm⟩ : ∃ m, m = mixL s := ⟨_, rfl⟩
                rw [← hmm] at HQ HML HN3
                clear hm HM hmm
                go_wp2_with
                  (first
              | (refine wpList_load_row rfl _ (.tmp 5) rfl w1.heap.size rfl 22 (ubs m).toArray (0, 0) _ HQ.out.cur Tryd.underlying22 rfl (HZ.out m HML.out) ?_)
              | (go_at_call 89; (have cq := HAD.out m (k + 1) _ HQ.out.below HML.out (by omega)); rw [show (((k + 1 : Nat)) : Int) = (k : Int) + 1 by omega] at cq; refine cq.mono ?_; clear cq; rintro e w3 ⟨rfl, hb3⟩; have H3 := hid (HQ.out.next hb3); clear hb3)
              | (refine wpList_store_row rfl _ (.tmp 5) (.tmp 133) rfl w1.heap.size (ubs (addL m keys (k + 1))).toArray rfl rfl 22 (ubs m).toArray H3.out.cur (HZ.out _ (addL_length _ _ _)) ?e5 (ubs_all _) ?e6; rotate_right; have H4 := hid (H3.out.row (addL m keys (k + 1))); generalize (w3.setRow w1.heap.size (ubs (addL m keys (k + 1))).toArray) = W4 at H4 ⊢))
                case e5 => simp [ubs_length, HML.out, addL_length]
                go_roundw
                case rel => exact ⟨k + 1, by omega, by go_num, by rw [HN3.out]; exact H4.out⟩
                case measure => simp [intOf]; omega
          · have hN3 := HN2.out
            rw [if_neg hk9] at hN3
            have HN3 := hid hN3
            clear hN3 HN2
            have c9 : decide ((k : Int) + 1 < 10) = false := by simp; omega
            obtain ⟨m, hmm⟩ : ∃ m, m = s := ⟨_, rfl⟩
            have HML := hid (show m.length = 16 by rw [hmm]; exact HSL.out)
            go_upto_region 23 with (first
              | (refine wpList_load_row rfl _ (.tmp 7) rfl D rfl 22 (ubs s).toArray (0, 0) _ HS.out.sub Tryd.underlying22 rfl (HZ.out s HSL.out) ?_)
              | (refine wpList_store_row rfl _ (.tmp 5) (.tmp 45) rfl w1.heap.size (ubs s).toArray rfl rfl 22 (ubs x).toArray HS.out.en.cur (HZ.out s HSL.out) ?e7 (ubs_all _) ?e8; rotate_right; have HQ' := hid (HS.out.en.row s); generalize (wr.setRow w1.heap.size (ubs s).toArray) = W3 at HQ' ⊢))
            case e7 => simp [ubs_length, HSL.out, HX.out]
            have HQ := hid (show EnW w b m w1.heap.size W3 by rw [hmm]; exact HQ'.out)
            rw [← hmm] at HN3
            clear HQ' hmm
            go_wp2_with
              (first
              | (refine wpList_load_row rfl _ (.tmp 5) rfl w1.heap.size rfl 22 (ubs m).toArray (0, 0) _ HQ.out.cur Tryd.underlying22 rfl (HZ.out m HML.out) ?_)
              | (go_at_call 89; (have cq := HAD.out m (k + 1) _ HQ.out.below HML.out (by omega)); rw [show (((k + 1 : Nat)) : Int) = (k : Int) + 1 by omega] at cq; refine cq.mono ?_; clear cq; rintro e w3 ⟨rfl, hb3⟩; have H3 := hid (HQ.out.next hb3); clear hb3)
              | (refine wpList_store_row rfl _ (.tmp 5) (.tmp 133) rfl w1.heap.size (ubs (addL m keys (k + 1))).toArray rfl rfl 22 (ubs m).toArray H3.out.cur (HZ.out _ (addL_length _ _ _)) ?e9 (ubs_all _) ?e10; rotate_right; have H4 := hid (H3.out.row (addL m keys (k + 1))); generalize (w3.setRow w1.heap.size (ubs (addL m keys (k + 1))).toArray) = W4 at H4 ⊢))
            case e9 => simp [ubs_length, HML.out, addL_length]
            go_roundw
            case rel => exact ⟨k + 1, by omega, by go_num, by rw [HN3.out]; exact H4.out⟩
            case measure => simp [intOf]; omega
    · obtain rfl : k = 10 := by omega
      have hw := HW.out
      rw [HE.out] at hw
      have HW2 := hid hw
      have HLE := hid (show (encL keys b).length = 16 from encK_length keys b 10)
      clear hw HW
      go_wp2_with (first
        | (refine wpList_load_row rfl _ (.tmp 5) rfl w1.heap.size rfl 22 (ubs (encL keys b)).toArray (0, 0) _ HW2.out.cur Tryd.underlying22 rfl (HZ.out _ HLE.out) ?_)
        | (refine wpList_store_row rfl _ (.tmp 4) (.tmp 134) rfl (w.heap.size + 1) (ubs (encL keys b)).toArray rfl rfl 22 (ubs n16).toArray HW2.out.res (HZ.out _ HLE.out) ?e11 (ubs_all _) ?e12; rotate_right))
      case e11 => simp [ubs_length, n16_length, HLE.out]
      refine bodyPost_ret (results_cell_row rfl _ _ (w.heap.size + 1) 22 (ubs (encL keys b)).toArray (0, 0) _ rfl (setRow_heap _ _ _ _ _ _ HW2.out.res) Tryd.underlying22 rfl (HZ.out _ HLE.out)) rfl ?_
      exact ⟨rfl, below_setRow HW2.out.below (by omega) _⟩
end Go.Proofs.YtnaihcoafgigcaaDoor
