/-
  The document's compression of a state with a block.
-/
import Derived.Test.YtfmbpdjcoopaeaaDoorY2
import Derived.StillTailTactics
import Derived.BigQuiet
namespace Go.Proofs.YtfmbpdjcoopaeaaDoor
open Go.RowKit

theorem mul256 (x : BitVec 32) (b : UInt8) : x * 256#32 + bw b = x <<< 8 ||| bw b := by
  have h : x * 256#32 = x <<< 8 := by
    apply BitVec.eq_of_toNat_eq
    rw [BitVec.toNat_mul, BitVec.toNat_shiftLeft, Nat.shiftLeft_eq]
    rfl
  rw [h]
  refine (BitVec.add_eq_or_of_and_eq_zero _ _ ?_)
  apply BitVec.eq_of_getLsbD_eq
  intro i hi
  rw [BitVec.getLsbD_and, BitVec.getLsbD_shiftLeft, BitVec.getLsbD_zero]
  by_cases h8 : i < 8
  · simp [h8]
  · have : (bw b).getLsbD i = false := by
      unfold bw
      rw [BitVec.getLsbD_ofNat]
      have : b.toNat.testBit i = false := Nat.testBit_lt_two_pow (Nat.lt_of_lt_of_le b.toNat_lt (Nat.pow_le_pow_right (by omega) (show 8 ≤ i by omega)))
      simp [this]
    simp [this]
/-- The words behind t of the document's rounds. -/
def wm (bs : List UInt8) (t : Nat) : List (BitVec 32) := if t ≤ 16 then wl bs (4 * t) else wx bs (t - 16)
theorem wm_low (bs : List UInt8) (t : Nat) (h : t ≤ 16) : wm bs t = wl bs (4 * t) := if_pos h
theorem wm_high (bs : List UInt8) (t : Nat) (h : 16 ≤ t) : wm bs t = wx bs (t - 16) := by
  unfold wm
  split
  · obtain rfl : t = 16 := by omega
    exact (wx_zero bs).symm
  · rfl
theorem wl_step (bs : List UInt8) (t i : Nat) (h : i < 4) : wl bs (4 * t + (i + 1)) = (wl bs (4 * t + i)).set t ((wl bs (4 * t + i)).getD t 0#32 * 256#32 + bw (bs.getD (4 * t + i) 0)) := by
  rw [mul256, ← Nat.add_assoc, wl_succ, show (4 * t + i) / 4 = t by omega]
/-- A sum that fits. -/
theorem four_fits (t i : Nat) (h : t < 16) (h2 : i < 4) : IntKind.i64.wrap (4 * (t : Int)) = 4 * (t : Int) ∧ IntKind.i64.wrap (4 * (t : Int) + i) = 4 * (t : Int) + i ∧ (4 * (t : Int) + i).toNat = 4 * t + i ∧ 0 ≤ 4 * (t : Int) + i ∧ 4 * (t : Int) + i < 64 :=
  ⟨by rw [IntKind.wrap_i64]; omega, by rw [IntKind.wrap_i64]; omega, by omega, by omega, by omega⟩
theorem ubs_at' {bs : List UInt8} {i : Nat} (h : i < bs.length) : (ubs bs)[i]? = some (.int .u8 ((bs.getD i 0).toNat : Int)) := by
  rw [ubs_at h, List.getD_eq_getElem?_getD, List.getElem?_eq_getElem h]; rfl
/-- What holds of the memory while the document compresses. -/
structure RcW (w : World) (s : S8) (ws : List (BitVec 32)) (w' : World) : Prop where
  st : At w' w.heap.size (us s.l).toArray 214
  res : At w' (w.heap.size + 1) (us z8).toArray 214
  words : At w' (w.heap.size + 1 + 1) (us ws).toArray 261
  below : Below w.heap.size w w'
theorem RcW.drewN {w w' : World} {s : S8} {ws : List (BitVec 32)} (h : RcW w s ws w') (n : Nat) : RcW w s ws (w'.drewN n) := ⟨h.st, h.res, h.words, below_drewN h.below n⟩
theorem RcW.put {w w' : World} {s : S8} {ws : List (BitVec 32)} (h : RcW w s ws w') (k : Nat) (x : BitVec 32) : RcW w s (ws.set k x) (w'.setCell ⟨w.heap.size + 1 + 1, k, none⟩ (uw x)) :=
  ⟨h.st.far (p := ⟨w.heap.size + 1 + 1, k, none⟩) (by simp; omega) _, h.res.far (p := ⟨w.heap.size + 1 + 1, k, none⟩) (by simp) _, at_us_put h.words k x, h.below.setCell (by simp; omega) _⟩
theorem RcW.to_drew {w w' W2 : World} {s : S8} {ws : List (BitVec 32)} (h : RcW w s ws w') (e : { w' with drawn := w'.drawn + 1 } = W2) : RcW w s ws W2 := by
  subst e
  exact h.drewN 1
theorem sizeS8r : (Tryd.prog.info? 214).map (·.size) = some 8 := by kernel_rfl

set_option maxRecDepth 100000 in
set_option maxHeartbeats 16000000 in
theorem compressR_any (s : S8) (bs : List UInt8) (A : Option Addr) (c : Nat) (w : World) (hl : bs.length = 64) (hr : Rb w w.heap.size A bs) (hT : Tabr w) :
    Calls Tryd.prog 139 #[.agg (us s.l).toArray, .slice A 64 c] w fun e w' => e = .returned (.agg (us (comp s bs).l).toArray) ∧ Below w.heap.size w w' := by
  obtain ⟨b, o, rfl, hb, hcell⟩ := hr (by intro h; have := congrArg List.length h; rw [ubs_length, hl] at this; cases this)
  have HR := hid (fun (w' : World) (hbw : Below w.heap.size w w') (j : Nat) (hj : j < 64) => (hbw.cell (p := ⟨b, o + j, none⟩) hb).trans (hcell j _ (ubs_at' (by rw [hl]; exact hj))))
  have HL := hid hl
  have HT := hid hT
  clear hcell hl hT hr hb
  have hz := zero8
  have hz2 := zero64
  go_enter Tryd.func139, Tryd.ntmps139
  go_wp2
  clear hz hz2
  go_loopw [6] (fun i wr => ∃ t : Nat, t ≤ 64 ∧ i = .int .i64 t ∧ RcW w s (wm bs t) wr) (fun i _ => 64 - (intOf i).toNat)
  case atStart =>
    refine ⟨0, by omega, rfl, ⟨((At.new _ _ _).alloc _).alloc _, (At.new_at (by simp)).alloc _, ?_, ?_⟩⟩
    · rw [wm_low _ _ (by omega), wl_zero]; exact At.new_at (by simp)
    · exact (((Below.refl _ _).alloc (Nat.le_refl _) _).alloc (by simp) _).alloc (by simp; omega) _
  case round =>
    obtain ⟨t, ht, rfl, hW⟩ := hrel
    have HW := hid hW
    clear hW
    by_cases hlt : t < 64
    · by_cases h16 : t < 16
      · have hd1 : decide ((t : Int) < 64) = true := by simp; omega
        have hd2 : decide ((t : Int) < 16) = true := by simp; omega
        go_wp2
        clear hd1 hd2
        have HS := hid (wm_low bs (t + 1) (by omega))
        have H0 := hid (wm_low bs t (by omega))
        go_loopw [7] (fun i wr => ∃ j : Nat, j ≤ 4 ∧ i = .int .i64 j ∧ RcW w s (wl bs (4 * t + j)) wr) (fun i _ => 4 - (intOf i).toNat)
        case atStart => exact ⟨0, by omega, rfl, by have := HW.out; rw [H0.out] at this; exact this⟩
        case round =>
          clear HW H0
          obtain ⟨j, hj, rfl, hW⟩ := hrel
          have HW := hid hW
          clear hW
          by_cases hj4 : j < 4
          · have HN := hid (wl_step bs t j hj4)
            have HF := hid (four_fits t j h16 hj4)
            go_wp2
            refine wp_region_still_tail 15 (by kernel_rfl) (by kernel_rfl) ?_
            simp only [List.take_succ_cons, List.take_zero, List.drop_succ_cons, List.drop_zero]
            obtain ⟨W2, hW2⟩ : ∃ W2 : World, { wr with drawn := wr.drawn + 1 } = W2 := ⟨_, rfl⟩
            rw [hW2]
            have hW := HW.out.to_drew hW2
            clear HW hW2
            have HW := hid hW
            clear hW
            have cx := at_us_cell HW.out.words (i := t) (by rw [wl_length]; omega)
            have cb := HR.out W2 HW.out.below (4 * t + j) (by omega)
            have fz := HW.out.words.frozen t
            obtain ⟨xx, hxx⟩ : ∃ x, x = (wl bs (4 * t + j)).getD t 0#32 := ⟨_, rfl⟩
            obtain ⟨bb, hbb⟩ : ∃ x, x = bs.getD (4 * t + j) 0 := ⟨_, rfl⟩
            rw [← hxx] at cx HN
            rw [← hbb] at HN cb
            clear hxx hbb
            have e64 : (t : Int) < 64 := by omega
            have e0 : (0 : Int) ≤ t := by omega
            obtain ⟨a1, a2, a3, a4, a5⟩ := HF.out
            repeat still_step
            refine wpStill_nil ?_
            clear a1 a2 a3 a4 a5 e64 e0
            go_wp2_with (refine wpList_store_uw rfl _ (.tmp 47) (.tmp 46) rfl sizeU32 ⟨w.heap.size + 1 + 1, t, none⟩ rfl _ rfl _ cx fz ?_)
            go_roundw
            case rel =>
              refine ⟨j + 1, by omega, by go_num, ?_⟩
              rw [HN.out]
              exact HW.out.put t _
            case measure => simp [intOf]; omega
          · obtain rfl : j = 4 := by omega
            go_wp2
            go_roundw
            case rel =>
              refine ⟨t + 1, by omega, by go_num, ?_⟩
              rw [HS.out, show 4 * (t + 1) = 4 * t + 4 by omega]
              exact HW.out
            case measure => simp [intOf]; omega
      · have S15 : Hid (IntKind.i64.wrap ((t : Int) - 15) = (t : Int) - 15 ∧ ((t : Int) - 15).toNat = t - 15 ∧ 0 ≤ (t : Int) - 15 ∧ (t : Int) - 15 < 64) := sub_fits t 15 (by omega) (by omega)
        have S2 : Hid (IntKind.i64.wrap ((t : Int) - 2) = (t : Int) - 2 ∧ ((t : Int) - 2).toNat = t - 2 ∧ 0 ≤ (t : Int) - 2 ∧ (t : Int) - 2 < 64) := sub_fits t 2 (by omega) (by omega)
        have S16 : Hid (IntKind.i64.wrap ((t : Int) - 16) = (t : Int) - 16 ∧ ((t : Int) - 16).toNat = t - 16 ∧ 0 ≤ (t : Int) - 16 ∧ (t : Int) - 16 < 64) := sub_fits t 16 (by omega) (by omega)
        have S7 : Hid (IntKind.i64.wrap ((t : Int) - 7) = (t : Int) - 7 ∧ ((t : Int) - 7).toNat = t - 7 ∧ 0 ≤ (t : Int) - 7 ∧ (t : Int) - 7 < 64) := sub_fits t 7 (by omega) (by omega)
        have hW := HW.out
        clear HW
        rw [wm_high _ _ (by omega)] at hW
        obtain ⟨x, hx⟩ : ∃ x, x = (wx bs (t - 16)).getD (t - 15) 0#32 := ⟨_, rfl⟩
        obtain ⟨y, hy⟩ : ∃ x, x = (wx bs (t - 16)).getD (t - 2) 0#32 := ⟨_, rfl⟩
        obtain ⟨u, hu⟩ : ∃ x, x = (wx bs (t - 16)).getD (t - 16) 0#32 := ⟨_, rfl⟩
        obtain ⟨v, hv⟩ : ∃ x, x = (wx bs (t - 16)).getD (t - 7) 0#32 := ⟨_, rfl⟩
        have cx := at_us_cell hW.words (i := t - 15) (by rw [wx_length]; omega)
        have cy := at_us_cell hW.words (i := t - 2) (by rw [wx_length]; omega)
        rw [← hx] at cx
        rw [← hy] at cy
        have EX := hid (show wm bs (t + 1) = (wx bs (t - 16)).set t (u + sg0 x + v + sg1 y) by
          rw [wm_high _ _ (by omega), show t + 1 - 16 = (t - 16) + 1 by omega, wx_succ, hu, hx, hv, hy]
          rw [show 16 + (t - 16) = t by omega, show t - 16 + 1 = t - 15 by omega, show t - 16 + 9 = t - 7 by omega, show t - 16 + 14 = t - 2 by omega])
        have HU := hid hu
        have HV := hid hv
        have HW := hid hW
        clear hx hy hu hv hW
        go_wp2
        obtain ⟨a15, b15, c15, d15⟩ := S15.out
        obtain ⟨a2, b2, c2, d2⟩ := S2.out
        go_quiet (fail)
        clear a15 b15 c15 d15 a2 b2 c2 d2 cx cy
        have hW := HW.out.drewN nq
        clear HW
        generalize wr.drewN nq = W1 at hW ⊢
        have HW := hid hW
        clear hW
        go_wp2_with (go_at_call 176; refine (turn_j _ _ _ (by omega) (by omega)).mono ?_; rintro e w' ⟨rfl, rfl⟩)
        refine wp_region_still_tail 15 (by kernel_rfl) (by kernel_rfl) ?_
        simp only [List.take_succ_cons, List.take_zero, List.drop_succ_cons, List.drop_zero]
        obtain ⟨W2, hW2⟩ : ∃ W2 : World, { W1 with drawn := W1.drawn + 1 } = W2 := ⟨_, rfl⟩
        rw [hW2]
        have hW := HW.out.to_drew hW2
        clear HW hW2
        have HW := hid hW
        clear hW
        have cu := at_us_cell HW.out.words (i := t - 16) (by rw [wx_length]; omega)
        have cv := at_us_cell HW.out.words (i := t - 7) (by rw [wx_length]; omega)
        have cz := at_us_cell HW.out.words (i := t) (by rw [wx_length]; omega)
        have fz := HW.out.words.frozen t
        rw [← HU.out] at cu
        rw [← HV.out] at cv
        have e16 : (16 : Int) ≤ t := by omega
        have e7 : (7 : Int) ≤ t := by omega
        have e64 : (t : Int) < 64 := by omega
        obtain ⟨a16, b16, c16, d16⟩ := S16.out
        obtain ⟨a7, b7, c7, d7⟩ := S7.out
        repeat still_step
        refine wpStill_nil ?_
        clear a16 b16 c16 d16 a7 b7 c7 d7
        go_wp2_with (refine wpList_store_uw rfl _ (.tmp 86) (.tmp 85) rfl sizeU32 ⟨w.heap.size + 1 + 1, t, none⟩ rfl _ rfl _ cz fz ?_)
        go_roundw
        case rel =>
          refine ⟨t + 1, by omega, by go_num, ?_⟩
          rw [EX.out, show sg0 x = rot x 7 ^^^ rot x 18 ^^^ x >>> 3 by unfold sg0; rfl, show sg1 y = rot y 17 ^^^ rot y 19 ^^^ y >>> 10 by unfold sg1; rfl]
          exact HW.out.put t _
        case measure => simp [intOf]; omega
    · obtain rfl : t = 64 := by omega
      have hW := HW.out
      clear HW
      rw [wm_high _ _ (by omega)] at hW
      have c0 := hW.st.cell 0
      have c1 := hW.st.cell 1
      have c2 := hW.st.cell 2
      have c3 := hW.st.cell 3
      have c4 := hW.st.cell 4
      have c5 := hW.st.cell 5
      have c6 := hW.st.cell 6
      have c7 := hW.st.cell 7
      simp [S8.l, us] at c0 c1 c2 c3 c4 c5 c6 c7
      have HW : Hid (RcW w s (wx bs 48) wr) := hW
      clear hW
      go_wp2
      go_quiet (fail)
      clear c0 c1 c2 c3 c4 c5 c6 c7
      have hW := HW.out.drewN nq
      clear HW
      generalize wr.drewN nq = W4 at hW ⊢
      have HW := hid hW
      clear hW
      rw [show ((64 : Nat) : Int) = 64 from rfl]
      go_wp2
      go_loopw [20, 12, 13, 14, 15, 16, 17, 18, 19] (fun i a b c d e f g h wr => ∃ (k : Nat) (st : S8), k ≤ 64 ∧ i = .int .i64 k ∧ Hid (st = rnds s (wx bs 48) k) ∧ a = uw st.a ∧ b = uw st.b ∧ c = uw st.c ∧ d = uw st.d ∧ e = uw st.e ∧ f = uw st.f ∧ g = uw st.g ∧ h = uw st.h ∧ RcW w s (wx bs 48) wr) (fun i _ _ _ _ _ _ _ _ _ => 64 - (intOf i).toNat)
      case atStart => exact ⟨0, s, by omega, rfl, (rnds_zero _ _).symm, rfl, rfl, rfl, rfl, rfl, rfl, rfl, rfl, HW.out⟩
      case round =>
        clear HW
        obtain ⟨k, st, hk, rfl, HST, rfl, rfl, rfl, rfl, rfl, rfl, rfl, rfl, hW⟩ := hrel
        by_cases hlt : k < 64
        · have ck := (HT.out.below hW.below).rk.at_ (i := k) (by rw [KT_length]; exact hlt)
          have cw := at_us_cell hW.words (i := k) (by rw [wx_length]; exact hlt)
          have HW := hid hW
          have HN := hid (rnds_succ s (wx bs 48) k)
          clear hW
          obtain ⟨kk, hkk⟩ : ∃ x, x = KT.getD k 0#32 := ⟨_, rfl⟩
          obtain ⟨ww, hww⟩ : ∃ x, x = (wx bs 48).getD k 0#32 := ⟨_, rfl⟩
          rw [← hkk] at ck HN
          rw [← hww] at cw HN
          clear hkk hww
          go_wp2
          go_quiet ((go_at_call 176; exact Calls.quiet_of_same (turn_i _ _ _ (by omega) (by omega))))
          clear cw ck
          have hW := HW.out.drewN nq
          clear HW
          generalize wr.drewN nq = W5 at hW ⊢
          have HW := hid hW
          clear hW
          go_wp2_with (go_at_call 176; refine (turn_j _ _ _ (by omega) (by omega)).mono ?_; rintro e w' ⟨rfl, rfl⟩)
          go_roundw
          case rel =>
            refine ⟨k + 1, rnd st kk ww, by omega, by go_num, ?_, rfl, rfl, rfl, rfl, rfl, rfl, rfl, rfl, HW.out⟩
            rw [HN.out, ← HST.out]
            rfl
          case measure => simp [intOf]; omega
        · obtain rfl : k = 64 := by omega
          have HE := hid (show (s.add st).l = (comp s bs).l by rw [comp_eq, HST.out])
          have c0 := hW.st.cell 0
          have c1 := hW.st.cell 1
          have c2 := hW.st.cell 2
          have c3 := hW.st.cell 3
          have c4 := hW.st.cell 4
          have c5 := hW.st.cell 5
          have c6 := hW.st.cell 6
          have c7 := hW.st.cell 7
          simp [S8.l, us] at c0 c1 c2 c3 c4 c5 c6 c7
          have HR2 := hid hW.res
          have HB := hid hW.below
          clear hW
          have HS8 := hid (show (Tryd.prog.info? 214).map (·.size) = some (us (s.add st).l).toArray.size by rw [sizeS8r]; simp [us_length, l_length])
          go_wp2_with (refine wpList_store_row rfl _ (.tmp 4) (.tmp 198) rfl (w.heap.size + 1) (us (s.add st).l).toArray rfl rfl 214 (us z8).toArray HR2.out HS8.out ?e5 (us_all _) ?e6; rotate_right)
          case e5 => simp [us_length, l_length, z8_length]
          refine bodyPost_ret (results_cell_row rfl _ _ (w.heap.size + 1) 214 (us (s.add st).l).toArray (0, 0) _ rfl (setRow_heap _ _ _ _ _ _ HR2.out) Tryd.underlying214 rfl HS8.out) rfl ?_
          exact ⟨by rw [HE.out], below_setRow HB.out (by omega) _⟩
end Go.Proofs.YtfmbpdjcoopaeaaDoor
