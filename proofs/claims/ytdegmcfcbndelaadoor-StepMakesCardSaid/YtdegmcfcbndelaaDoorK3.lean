/-
  The document's compression of a state with a block.
  The document's hash of a text.
-/
import Derived.Test.YtdegmcfcbndelaaDoorY2
import Derived.StillTailTactics
import Derived.BigQuiet
import Derived.Test.YtdegmcfcbndelaaDoorY3
namespace Go.Proofs.YtdegmcfcbndelaaDoor
open Go.RowKit

theorem mul256 (x : BitVec 32) (b : UInt8) : x * 256#32 + bw b = x <<< 8 ||| bw b := by
  have h : x * 256#32 = x <<< 8 := by
    apply BitVec.eq_of_toNat_eq
    rw [BitVec.toNat_mul, BitVec.toNat_shiftLeft, Nat.shiftLeft_eq]
    rfl
  rw [h]
  refine (BitVec.add_eq_or_of_and_eq_zero _ _ ?_)
  apply BitVec.eq_of_getLsbD_eq
  intro i hi
  rw [BitVec.getLsbD_and, BitVec.getLsbD_shiftLeft, BitVec.getLsbD_zero]
  by_cases h8 : i < 8
  · simp [h8]
  · have : (bw b).getLsbD i = false := by
      unfold bw
      rw [BitVec.getLsbD_ofNat]
      have : b.toNat.testBit i = false := Nat.testBit_lt_two_pow (Nat.lt_of_lt_of_le b.toNat_lt (Nat.pow_le_pow_right (by omega) (show 8 ≤ i by omega)))
      simp [this]
    simp [this]
/-- The words behind t of the document's rounds. -/
def wm (bs : List UInt8) (t : Nat) : List (BitVec 32) := if t ≤ 16 then wl bs (4 * t) else wx bs (t - 16)
theorem wm_low (bs : List UInt8) (t : Nat) (h : t ≤ 16) : wm bs t = wl bs (4 * t) := if_pos h
theorem wm_high (bs : List UInt8) (t : Nat) (h : 16 ≤ t) : wm bs t = wx bs (t - 16) := by
  unfold wm
  split
  · obtain rfl : t = 16 := by omega
    exact (wx_zero bs).symm
  · rfl
theorem wl_step (bs : List UInt8) (t i : Nat) (h : i < 4) : wl bs (4 * t + (i + 1)) = (wl bs (4 * t + i)).set t ((wl bs (4 * t + i)).getD t 0#32 * 256#32 + bw (bs.getD (4 * t + i) 0)) := by
  rw [mul256, ← Nat.add_assoc, wl_succ, show (4 * t + i) / 4 = t by omega]
/-- A sum that fits. -/
theorem four_fits (t i : Nat) (h : t < 16) (h2 : i < 4) : IntKind.i64.wrap (4 * (t : Int)) = 4 * (t : Int) ∧ IntKind.i64.wrap (4 * (t : Int) + i) = 4 * (t : Int) + i ∧ (4 * (t : Int) + i).toNat = 4 * t + i ∧ 0 ≤ 4 * (t : Int) + i ∧ 4 * (t : Int) + i < 64 :=
  ⟨by rw [IntKind.wrap_i64]; omega, by rw [IntKind.wrap_i64]; omega, by omega, by omega, by omega⟩
theorem ubs_at' {bs : List UInt8} {i : Nat} (h : i < bs.length) : (ubs bs)[i]? = some (.int .u8 ((bs.getD i 0).toNat : Int)) := by
  rw [ubs_at h, List.getD_eq_getElem?_getD, List.getElem?_eq_getElem h]; rfl
/-- What holds of the memory while the document compresses. -/
structure RcW (w : World) (s : S8) (ws : List (BitVec 32)) (w' : World) : Prop where
  st : At w' w.heap.size (us s.l).toArray 166
  res : At w' (w.heap.size + 1) (us z8).toArray 166
  words : At w' (w.heap.size + 1 + 1) (us ws).toArray 186
  below : Below w.heap.size w w'
theorem RcW.drewN {w w' : World} {s : S8} {ws : List (BitVec 32)} (h : RcW w s ws w') (n : Nat) : RcW w s ws (w'.drewN n) := ⟨h.st, h.res, h.words, below_drewN h.below n⟩
theorem RcW.put {w w' : World} {s : S8} {ws : List (BitVec 32)} (h : RcW w s ws w') (k : Nat) (x : BitVec 32) : RcW w s (ws.set k x) (w'.setCell ⟨w.heap.size + 1 + 1, k, none⟩ (uw x)) :=
  ⟨h.st.far (p := ⟨w.heap.size + 1 + 1, k, none⟩) (by simp; omega) _, h.res.far (p := ⟨w.heap.size + 1 + 1, k, none⟩) (by simp) _, at_us_put h.words k x, h.below.setCell (by simp; omega) _⟩
theorem RcW.to_drew {w w' W2 : World} {s : S8} {ws : List (BitVec 32)} (h : RcW w s ws w') (e : { w' with drawn := w'.drawn + 1 } = W2) : RcW w s ws W2 := by
  subst e
  exact h.drewN 1
theorem sizeS8r : (Tryd.prog.info? 166).map (·.size) = some 8 := by kernel_rfl

set_option maxRecDepth 100000 in
set_option maxHeartbeats 16000000 in
theorem compressR_any (s : S8) (bs : List UInt8) (A : Option Addr) (c : Nat) (w : World) (hl : bs.length = 64) (hr : Rb w w.heap.size A bs) (hT : Tabr w) :
    Calls Tryd.prog 120 #[.agg (us s.l).toArray, .slice A 64 c] w fun e w' => e = .returned (.agg (us (comp s bs).l).toArray) ∧ Below w.heap.size w w' := by
  obtain ⟨b, o, rfl, hb, hcell⟩ := hr (by intro h; have := congrArg List.length h; rw [ubs_length, hl] at this; cases this)
  have HR := hid (fun (w' : World) (hbw : Below w.heap.size w w') (j : Nat) (hj : j < 64) => (hbw.cell (p := ⟨b, o + j, none⟩) hb).trans (hcell j _ (ubs_at' (by rw [hl]; exact hj))))
  have HL := hid hl
  have HT := hid hT
  clear hcell hl hT hr hb
  have hz := zero8
  have hz2 := zero64
  go_enter Tryd.func120, Tryd.ntmps120
  go_wp2
  clear hz hz2
  go_loopw [6] (fun i wr => ∃ t : Nat, t ≤ 64 ∧ i = .int .i64 t ∧ RcW w s (wm bs t) wr) (fun i _ => 64 - (intOf i).toNat)
  case atStart =>
    refine ⟨0, by omega, rfl, ⟨((At.new _ _ _).alloc _).alloc _, (At.new_at (by simp)).alloc _, ?_, ?_⟩⟩
    · rw [wm_low _ _ (by omega), wl_zero]; exact At.new_at (by simp)
    · exact (((Below.refl _ _).alloc (Nat.le_refl _) _).alloc (by simp) _).alloc (by simp; omega) _
  case round =>
    obtain ⟨t, ht, rfl, hW⟩ := hrel
    have HW := hid hW
    clear hW
    by_cases hlt : t < 64
    · by_cases h16 : t < 16
      · have hd1 : decide ((t : Int) < 64) = true := by simp; omega
        have hd2 : decide ((t : Int) < 16) = true := by simp; omega
        go_wp2
        clear hd1 hd2
        have HS := hid (wm_low bs (t + 1) (by omega))
        have H0 := hid (wm_low bs t (by omega))
        go_loopw [7] (fun i wr => ∃ j : Nat, j ≤ 4 ∧ i = .int .i64 j ∧ RcW w s (wl bs (4 * t + j)) wr) (fun i _ => 4 - (intOf i).toNat)
        case atStart => exact ⟨0, by omega, rfl, by have := HW.out; rw [H0.out] at this; exact this⟩
        case round =>
          clear HW H0
          obtain ⟨j, hj, rfl, hW⟩ := hrel
          have HW := hid hW
          clear hW
          by_cases hj4 : j < 4
          · have HN := hid (wl_step bs t j hj4)
            have HF := hid (four_fits t j h16 hj4)
            go_wp2
            refine wp_region_still_tail 15 (by kernel_rfl) (by kernel_rfl) ?_
            simp only [List.take_succ_cons, List.take_zero, List.drop_succ_cons, List.drop_zero]
            obtain ⟨W2, hW2⟩ : ∃ W2 : World, { wr with drawn := wr.drawn + 1 } = W2 := ⟨_, rfl⟩
            rw [hW2]
            have hW := HW.out.to_drew hW2
            clear HW hW2
            have HW := hid hW
            clear hW
            have cx := at_us_cell HW.out.words (i := t) (by rw [wl_length]; omega)
            have cb := HR.out W2 HW.out.below (4 * t + j) (by omega)
            have fz := HW.out.words.frozen t
            obtain ⟨xx, hxx⟩ : ∃ x, x = (wl bs (4 * t + j)).getD t 0#32 := ⟨_, rfl⟩
            obtain ⟨bb, hbb⟩ : ∃ x, x = bs.getD (4 * t + j) 0 := ⟨_, rfl⟩
            rw [← hxx] at cx HN
            rw [← hbb] at HN cb
            clear hxx hbb
            have e64 : (t : Int) < 64 := by omega
            have e0 : (0 : Int) ≤ t := by omega
            obtain ⟨a1, a2, a3, a4, a5⟩ := HF.out
            repeat still_step
            refine wpStill_nil ?_
            clear a1 a2 a3 a4 a5 e64 e0
            go_wp2_with (refine wpList_store_uw rfl _ (.tmp 47) (.tmp 46) rfl sizeU32 ⟨w.heap.size + 1 + 1, t, none⟩ rfl _ rfl _ cx fz ?_)
            go_roundw
            case rel =>
              refine ⟨j + 1, by omega, by go_num, ?_⟩
              rw [HN.out]
              exact HW.out.put t _
            case measure => simp [intOf]; omega
          · obtain rfl : j = 4 := by omega
            go_wp2
            go_roundw
            case rel =>
              refine ⟨t + 1, by omega, by go_num, ?_⟩
              rw [HS.out, show 4 * (t + 1) = 4 * t + 4 by omega]
              exact HW.out
            case measure => simp [intOf]; omega
      · have S15 : Hid (IntKind.i64.wrap ((t : Int) - 15) = (t : Int) - 15 ∧ ((t : Int) - 15).toNat = t - 15 ∧ 0 ≤ (t : Int) - 15 ∧ (t : Int) - 15 < 64) := sub_fits t 15 (by omega) (by omega)
        have S2 : Hid (IntKind.i64.wrap ((t : Int) - 2) = (t : Int) - 2 ∧ ((t : Int) - 2).toNat = t - 2 ∧ 0 ≤ (t : Int) - 2 ∧ (t : Int) - 2 < 64) := sub_fits t 2 (by omega) (by omega)
        have S16 : Hid (IntKind.i64.wrap ((t : Int) - 16) = (t : Int) - 16 ∧ ((t : Int) - 16).toNat = t - 16 ∧ 0 ≤ (t : Int) - 16 ∧ (t : Int) - 16 < 64) := sub_fits t 16 (by omega) (by omega)
        have S7 : Hid (IntKind.i64.wrap ((t : Int) - 7) = (t : Int) - 7 ∧ ((t : Int) - 7).toNat = t - 7 ∧ 0 ≤ (t : Int) - 7 ∧ (t : Int) - 7 < 64) := sub_fits t 7 (by omega) (by omega)
        have hW := HW.out
        clear HW
        rw [wm_high _ _ (by omega)] at hW
        obtain ⟨x, hx⟩ : ∃ x, x = (wx bs (t - 16)).getD (t - 15) 0#32 := ⟨_, rfl⟩
        obtain ⟨y, hy⟩ : ∃ x, x = (wx bs (t - 16)).getD (t - 2) 0#32 := ⟨_, rfl⟩
        obtain ⟨u, hu⟩ : ∃ x, x = (wx bs (t - 16)).getD (t - 16) 0#32 := ⟨_, rfl⟩
        obtain ⟨v, hv⟩ : ∃ x, x = (wx bs (t - 16)).getD (t - 7) 0#32 := ⟨_, rfl⟩
        have cx := at_us_cell hW.words (i := t - 15) (by rw [wx_length]; omega)
        have cy := at_us_cell hW.words (i := t - 2) (by rw [wx_length]; omega)
        rw [← hx] at cx
        rw [← hy] at cy
        have EX := hid (show wm bs (t + 1) = (wx bs (t - 16)).set t (u + sg0 x + v + sg1 y) by
          rw [wm_high _ _ (by omega), show t + 1 - 16 = (t - 16) + 1 by omega, wx_succ, hu, hx, hv, hy]
          rw [show 16 + (t - 16) = t by omega, show t - 16 + 1 = t - 15 by omega, show t - 16 + 9 = t - 7 by omega, show t - 16 + 14 = t - 2 by omega])
        have HU := hid hu
        have HV := hid hv
        have HW := hid hW
        clear hx hy hu hv hW
        go_wp2
        obtain ⟨a15, b15, c15, d15⟩ := S15.out
        obtain ⟨a2, b2, c2, d2⟩ := S2.out
        go_quiet (fail)
        clear a15 b15 c15 d15 a2 b2 c2 d2 cx cy
        have hW := HW.out.drewN nq
        clear HW
        generalize wr.drewN nq = W1 at hW ⊢
        have HW := hid hW
        clear hW
        go_wp2_with (go_at_call 136; refine (turn_j _ _ _ (by omega) (by omega)).mono ?_; rintro e w' ⟨rfl, rfl⟩)
        refine wp_region_still_tail 15 (by kernel_rfl) (by kernel_rfl) ?_
        simp only [List.take_succ_cons, List.take_zero, List.drop_succ_cons, List.drop_zero]
        obtain ⟨W2, hW2⟩ : ∃ W2 : World, { W1 with drawn := W1.drawn + 1 } = W2 := ⟨_, rfl⟩
        rw [hW2]
        have hW := HW.out.to_drew hW2
        clear HW hW2
        have HW := hid hW
        clear hW
        have cu := at_us_cell HW.out.words (i := t - 16) (by rw [wx_length]; omega)
        have cv := at_us_cell HW.out.words (i := t - 7) (by rw [wx_length]; omega)
        have cz := at_us_cell HW.out.words (i := t) (by rw [wx_length]; omega)
        have fz := HW.out.words.frozen t
        rw [← HU.out] at cu
        rw [← HV.out] at cv
        have e16 : (16 : Int) ≤ t := by omega
        have e7 : (7 : Int) ≤ t := by omega
        have e64 : (t : Int) < 64 := by omega
        obtain ⟨a16, b16, c16, d16⟩ := S16.out
        obtain ⟨a7, b7, c7, d7⟩ := S7.out
        repeat still_step
        refine wpStill_nil ?_
        clear a16 b16 c16 d16 a7 b7 c7 d7
        go_wp2_with (refine wpList_store_uw rfl _ (.tmp 86) (.tmp 85) rfl sizeU32 ⟨w.heap.size + 1 + 1, t, none⟩ rfl _ rfl _ cz fz ?_)
        go_roundw
        case rel =>
          refine ⟨t + 1, by omega, by go_num, ?_⟩
          rw [EX.out, show sg0 x = rot x 7 ^^^ rot x 18 ^^^ x >>> 3 by unfold sg0; rfl, show sg1 y = rot y 17 ^^^ rot y 19 ^^^ y >>> 10 by unfold sg1; rfl]
          exact HW.out.put t _
        case measure => simp [intOf]; omega
    · obtain rfl : t = 64 := by omega
      have hW := HW.out
      clear HW
      rw [wm_high _ _ (by omega)] at hW
      have c0 := hW.st.cell 0
      have c1 := hW.st.cell 1
      have c2 := hW.st.cell 2
      have c3 := hW.st.cell 3
      have c4 := hW.st.cell 4
      have c5 := hW.st.cell 5
      have c6 := hW.st.cell 6
      have c7 := hW.st.cell 7
      simp [S8.l, us] at c0 c1 c2 c3 c4 c5 c6 c7
      have HW : Hid (RcW w s (wx bs 48) wr) := hW
      clear hW
      go_wp2
      go_quiet (fail)
      clear c0 c1 c2 c3 c4 c5 c6 c7
      have hW := HW.out.drewN nq
      clear HW
      generalize wr.drewN nq = W4 at hW ⊢
      have HW := hid hW
      clear hW
      rw [show ((64 : Nat) : Int) = 64 from rfl]
      go_wp2
      go_loopw [20, 12, 13, 14, 15, 16, 17, 18, 19] (fun i a b c d e f g h wr => ∃ (k : Nat) (st : S8), k ≤ 64 ∧ i = .int .i64 k ∧ Hid (st = rnds s (wx bs 48) k) ∧ a = uw st.a ∧ b = uw st.b ∧ c = uw st.c ∧ d = uw st.d ∧ e = uw st.e ∧ f = uw st.f ∧ g = uw st.g ∧ h = uw st.h ∧ RcW w s (wx bs 48) wr) (fun i _ _ _ _ _ _ _ _ _ => 64 - (intOf i).toNat)
      case atStart => exact ⟨0, s, by omega, rfl, (rnds_zero _ _).symm, rfl, rfl, rfl, rfl, rfl, rfl, rfl, rfl, HW.out⟩
      case round =>
        clear HW
        obtain ⟨k, st, hk, rfl, HST, rfl, rfl, rfl, rfl, rfl, rfl, rfl, rfl, hW⟩ := hrel
        by_cases hlt : k < 64
        · have ck := (HT.out.below hW.below).rk.at_ (i := k) (by rw [KT_length]; exact hlt)
          have cw := at_us_cell hW.words (i := k) (by rw [wx_length]; exact hlt)
          have HW := hid hW
          have HN := hid (rnds_succ s (wx bs 48) k)
          clear hW
          obtain ⟨kk, hkk⟩ : ∃ x, x = KT.getD k 0#32 := ⟨_, rfl⟩
          obtain ⟨ww, hww⟩ : ∃ x, x = (wx bs 48).getD k 0#32 := ⟨_, rfl⟩
          rw [← hkk] at ck HN
          rw [← hww] at cw HN
          clear hkk hww
          go_wp2
          go_quiet ((go_at_call 136; exact Calls.quiet_of_same (turn_i _ _ _ (by omega) (by omega))))
          clear cw ck
          have hW := HW.out.drewN nq
          clear HW
          generalize wr.drewN nq = W5 at hW ⊢
          have HW := hid hW
          clear hW
          go_wp2_with (go_at_call 136; refine (turn_j _ _ _ (by omega) (by omega)).mono ?_; rintro e w' ⟨rfl, rfl⟩)
          go_roundw
          case rel =>
            refine ⟨k + 1, rnd st kk ww, by omega, by go_num, ?_, rfl, rfl, rfl, rfl, rfl, rfl, rfl, rfl, HW.out⟩
            rw [HN.out, ← HST.out]
            rfl
          case measure => simp [intOf]; omega
        · obtain rfl : k = 64 := by omega
          have HE := hid (show (s.add st).l = (comp s bs).l by rw [comp_eq, HST.out])
          have c0 := hW.st.cell 0
          have c1 := hW.st.cell 1
          have c2 := hW.st.cell 2
          have c3 := hW.st.cell 3
          have c4 := hW.st.cell 4
          have c5 := hW.st.cell 5
          have c6 := hW.st.cell 6
          have c7 := hW.st.cell 7
          simp [S8.l, us] at c0 c1 c2 c3 c4 c5 c6 c7
          have HR2 := hid hW.res
          have HB := hid hW.below
          clear hW
          have HS8 := hid (show (Tryd.prog.info? 166).map (·.size) = some (us (s.add st).l).toArray.size by rw [sizeS8r]; simp [us_length, l_length])
          go_wp2_with (refine wpList_store_row rfl _ (.tmp 4) (.tmp 198) rfl (w.heap.size + 1) (us (s.add st).l).toArray rfl rfl 166 (us z8).toArray HR2.out HS8.out ?e5 (us_all _) ?e6; rotate_right)
          case e5 => simp [us_length, l_length, z8_length]
          refine bodyPost_ret (results_cell_row rfl _ _ (w.heap.size + 1) 166 (us (s.add st).l).toArray (0, 0) _ rfl (setRow_heap _ _ _ _ _ _ HR2.out) Tryd.underlying166 rfl HS8.out) rfl ?_
          exact ⟨by rw [HE.out], below_setRow HB.out (by omega) _⟩
end Go.Proofs.YtdegmcfcbndelaaDoor

namespace Go.Proofs.YtdegmcfcbndelaaDoor
open Go.RowKit

/-- What holds of the memory while the document's hash is made: its result, its state, and the padded text. -/
structure SrW (w : World) (C g : Nat) (p : List UInt8) (s : S8) (w' : World) : Prop where
  res : At w' w.heap.size (ubs n32).toArray 25
  st : At w' C (us s.l).toArray 166
  pad : Rb w' C (some ⟨g, 0, none⟩) p
  lt : w.heap.size < C
  below : Below w.heap.size w w'
theorem SrW.drewN {w w' : World} {C g : Nat} {p : List UInt8} {s : S8} (h : SrW w C g p s w') (n : Nat) : SrW w C g p s (w'.drewN n) := ⟨h.res, h.st, h.pad.drewN n, h.lt, below_drewN h.below n⟩
theorem SrW.to_drew {w w' W2 : World} {C g : Nat} {p : List UInt8} {s : S8} (h : SrW w C g p s w') (e : { w' with drawn := w'.drawn + 1 } = W2) : SrW w C g p s W2 := by
  subst e
  exact h.drewN 1
/-- A call that leaves what was there, and the new state stored. -/
theorem SrW.next {w w' w2 : World} {C g : Nat} {p : List UInt8} {s : S8} (t : S8) (h : SrW w C g p s w') (hb : Below w'.heap.size w' w2) : SrW w C g p t (w2.setRow C (us t.l).toArray) := by
  have hC := h.st.lt
  have h1 : At w2 C (us s.l).toArray 166 := h.st.below hb hC
  have hw : w.heap.size < w'.heap.size := by have := h.lt; omega
  have hB : Below C w2 (w2.setRow C (us t.l).toArray) := below_setRow (Below.refl _ _) (Nat.le_refl _) _
  exact ⟨(h.res.below hb hw).below hB h.lt, setRow_heap _ _ _ _ _ _ h1, (Rd.below h.pad (hb.mono (Nat.le_of_lt hC))).below hB, h.lt, below_setRow (h.below.trans (hb.mono h.below.size)) (Nat.le_of_lt h.lt) _⟩
theorem SrW.at_ {w w' : World} {C g : Nat} {p : List UInt8} {s : S8} (h : SrW w C g p s w') {w2 : World} (hb : Below w'.heap.size w' w2) : At w2 C (us s.l).toArray 166 := h.st.below hb h.st.lt

set_option maxRecDepth 100000 in
set_option maxHeartbeats 8000000 in
theorem sumR_any (bs : List UInt8) (A : Option Addr) (c : Nat) (w : World) (hr : Rb w w.heap.size A bs) (hlen : bs.length ≤ 140737488351232) (hT : Tabr w) (hI : Tab w 1 IV.l) :
    Calls Tryd.prog 105 #[.slice A bs.length c] w fun e w' => e = .returned (.agg (ubs (hashL bs)).toArray) ∧ Below w.heap.size w w' := by
  obtain ⟨W0, hW0⟩ : ∃ W0, W0 = w.alloc (.cells (ubs n32).toArray 25) := ⟨_, rfl⟩
  have hs0 : W0.heap.size = w.heap.size + 1 := by rw [hW0]; simp
  have h0 : At W0 w.heap.size (ubs n32).toArray 25 := by rw [hW0]; exact At.new _ _ _
  have hb0 : Below w.heap.size w W0 := by rw [hW0]; exact (Below.refl _ _).alloc (Nat.le_refl _) _
  have hr0 : Rb W0 W0.heap.size A bs := by rw [hW0]; exact (hr.alloc _).mono (by simp)
  have HR := hid hr0
  have HT := hid hT
  have hx : ∀ (w1 : World) (n : Nat) (v : Value), Own1 W0 n (padL bs) v w1 → ∃ g c1, v = .slice (some ⟨g, 0, none⟩) n c1 ∧ n ≤ c1 ∧ SrW w w1.heap.size g (padL bs) IV ((w1.alloc (.cells (us z8).toArray 166)).setRow w1.heap.size (us IV.l).toArray) := by
    intro w1 n v h
    have hne : 0 < n := by rw [h.len, padL_length]; omega
    obtain ⟨A1, c1, rfl, hle, -, -, -, hA⟩ := own_form h.own
    have hrd := Rd.of_own h.own
    obtain ⟨b, o, rfl, hbb, -⟩ := hrd (by intro e; have h3 := congrArg List.length e; rw [ubs_length, ← h.len] at h3; have h4 : n = 0 := h3; omega)
    obtain ⟨h1, h2, h3, h4⟩ := hA _ rfl
    have h1' : o = 0 := h1
    subst h1'
    exact ⟨b, c1, rfl, hle, ⟨((h0.below h.below (by omega)).alloc _).setRow_far (by have := h.below.size; omega), setRow_heap _ _ _ _ _ _ (heap_alloc_new _ _), (hrd.alloc _).below (B := w1.heap.size) (below_setRow (Below.refl _ _) (Nat.le_refl _) _), by have := h.below.size; omega, below_setRow ((hb0.trans (h.below.mono (by omega))).alloc (by have := h.below.size; omega) _) (by have := h.below.size; omega) _⟩⟩
  have HX := hid hx
  have HT1 := hid (fun (w1 : World) (n : Nat) (v : Value) (h : Own1 W0 n (padL bs) v w1) => ((Tab.below (x := IV.a) (xs := [IV.b, IV.c, IV.d, IV.e, IV.f, IV.g, IV.h]) hI hb0).below h.below))
  have hz := zero8
  have hz2 := noughts32
  have HS := hid (show (Tryd.prog.info? 166).map (·.size) = some (us IV.l).toArray.size by rw [sizeSt]; simp [us_length, IV_length])
  clear hr h0 hb0 hr0 hs0 hT hx hI
  subst hW0
  go_enter Tryd.func105, Tryd.ntmps105
  go_wp2_with (first
    | (go_at_call 119; refine (padR_any bs A c _ HR.out hlen).mono ?_; rintro e w1 ⟨v, n, rfl, hO⟩; have HO := hid hO; clear hO)
    | (refine wpList_load_tab rfl _ (.global 1) rfl 1 rfl IV.l _ (HT1.out _ _ _ HO.out) Tryd.underlying166 rfl sizeSt ?_)
    | (refine wpList_store_row rfl _ (.tmp 4) (.tmp 10) rfl w1.heap.size (us IV.l).toArray rfl rfl 166 (us z8).toArray (heap_alloc_new _ _) HS.out ?e3 (us_all _) ?e4; rotate_right))
  case e3 => simp [us_length, IV_length, z8_length]
  obtain ⟨g, c1, rfl, hc1, hW⟩ := HX.out _ _ _ HO.out
  have HN := hid HO.out.len
  clear HX HT1 HO hz HR HS
  obtain ⟨C, hC⟩ : ∃ C, C = w1.heap.size := ⟨_, rfl⟩
  rw [← hC] at hW ⊢
  generalize ((w1.alloc (.cells (us z8).toArray 166)).setRow C (us IV.l).toArray) = W3 at hW ⊢
  clear hC
  obtain ⟨p, hp⟩ : ∃ p, p = padL bs := ⟨_, rfl⟩
  obtain ⟨q, hq⟩ : ∃ q, q = (bs.length + 8) / 64 + 1 := ⟨_, rfl⟩
  have hn : n = 64 * q := by rw [HN.out, padL_length, hq]; omega
  have HH := hid (show hashL bs = bytesOf (folds p q) by unfold hashL; rw [← hp, show p.length = 64 * q by rw [hp, ← HN.out, hn], Nat.mul_div_cancel_left _ (by omega)])
  have HP := hid (show p.length = n by rw [hp, HN.out])
  rw [← hp] at hW
  have n1 : n ≤ 64 * q := by omega
  have n2 : 64 * q ≤ n := by omega
  have n3 : n ≤ 140737488351400 := by omega
  have HW := hid hW
  clear hp hq hn HN hW hlen
  go_loopw [5] (fun i wr => ∃ k : Nat, k ≤ q ∧ i = .int .i64 (64 * (k : Int)) ∧ SrW w C g p (folds p k) wr) (fun i _ => n - (intOf i).toNat)
  case atStart => exact ⟨0, by omega, rfl, by rw [folds_zero]; exact HW.out⟩
  case round =>
    clear HW
    obtain ⟨k, hk, rfl, hW⟩ := hrel
    have HW := hid hW
    clear hW
    by_cases hlt : k < q
    · have hd1 : 64 * (k : Int) < (n : Int) := by omega
      go_wp2
      refine wp_region_still_tail 6 (by kernel_rfl) (by kernel_rfl) ?_
      simp only [List.take_succ_cons, List.take_zero, List.drop_succ_cons, List.drop_zero]
      obtain ⟨W2, hW2⟩ : ∃ W2 : World, { wr with drawn := wr.drawn + 1 } = W2 := ⟨_, rfl⟩
      rw [hW2]
      have hW := HW.out.to_drew hW2
      clear HW hW2
      have HW := hid hW
      clear hW
      have HS := hid (show (Tryd.prog.info? 166).map (·.size) = some (us (folds p k).l).toArray.size by rw [sizeSt]; simp [us_length, l_length])
      refine wpStill_run _ rfl (run_load_row _ (.tmp 4) rfl C rfl 166 (us (folds p k).l).toArray _ HW.out.st Tryd.underlying166 rfl HS.out) ?_
      have a1 : IntKind.i64.wrap (64 * (k : Int) + 64) = 64 * (k : Int) + 64 := by rw [IntKind.wrap_i64]; omega
      repeat still_step
      refine wpStill_run _ rfl (run_slice_piece _ _ (.tmp 18) (.tmp 19) (.tmp 21) rfl Tryd.underlying120 sizeU8 g n c1 (64 * k) (64 * k + 64) rfl .i64 .i64 rfl rfl (by omega) (by omega) (by omega)) ?_
      refine wpStill_nil ?_
      clear a1 hd1
      rw [show 64 * k + 64 - 64 * k = 64 by omega]
      go_wp2_with (first
        | (go_at_call 120; refine (compressR_any (folds p k) ((p.drop (64 * k)).take 64) _ _ _ ?k1 ?k2 ?k3).mono ?_; rotate_right; rintro e w4 ⟨rfl, hb4⟩; have HB4 := hid hb4; clear hb4)
        | (refine wpList_store_row rfl _ (.tmp 4) (.tmp 23) rfl C (us (comp (folds p k) ((p.drop (64 * k)).take 64)).l).toArray rfl rfl 166 (us (folds p k).l).toArray (HW.out.at_ HB4.out) ?e5 ?e6 (us_all _) ?e7; rotate_right))
      case k1 => rw [List.length_take, List.length_drop, HP.out]; omega
      case k2 =>
        have := rb_piece HW.out.pad (64 * k) 64
        rw [Nat.zero_add] at this
        exact this.mono (Nat.le_of_lt HW.out.st.lt)
      case k3 => exact HT.out.below HW.out.below
      case e5 => rw [sizeSt]; simp [us_length, l_length]
      case e6 => simp [us_length, l_length]
      have HN := hid (folds_succ p k)
      have hF := HW.out.next (comp (folds p k) ((p.drop (64 * k)).take 64)) HB4.out
      have HF := hid hF
      clear hF HW HB4
      go_wp2
      go_roundw
      case rel => exact ⟨k + 1, by omega, by rw [show 64 * ((k + 1 : Nat) : Int) = 64 * (k : Int) + 64 by omega], by rw [HN.out]; exact HF.out⟩
      case measure => simp [intOf]; omega
    · obtain rfl : k = q := by omega
      have hd2 : ¬ 64 * (k : Int) < (n : Int) := by omega
      obtain ⟨wo, rfl⟩ : ∃ wo : World, wo = wr := ⟨_, rfl⟩
      have HE := hid (hb_all (folds p k))
      have HZ := hid (hb_start (folds p k))
      have FA := hid (fun (o : Obj) => (⟨HW.out.res.alloc o, HW.out.st.alloc o, HW.out.below.alloc HW.out.below.size o, HW.out.lt, HW.out.st.lt⟩ : At (wo.alloc o) w.heap.size (ubs n32).toArray 25 ∧ At (wo.alloc o) C (us (folds p k).l).toArray 166 ∧ Below w.heap.size w (wo.alloc o) ∧ w.heap.size < C ∧ C < wo.heap.size))
      clear HW
      go_wp2
      clear hz2
      go_loopw [7] (fun i w5 => ∃ j : Nat, j ≤ 32 ∧ i = .int .i64 j ∧ At w5 wo.heap.size (ubs (hb (folds p k) j)).toArray 25 ∧ At w5 w.heap.size (ubs n32).toArray 25 ∧ At w5 C (us (folds p k).l).toArray 166 ∧ Below w.heap.size w w5) (fun i _ => 32 - (intOf i).toNat)
      case atStart => exact ⟨0, by omega, rfl, by rw [HZ.out]; exact At.new_at rfl, (FA.out _).1, (FA.out _).2.1, (FA.out _).2.2.1⟩
      case round =>
        have l1 := (FA.out (.cells #[] 5)).2.2.2.1
        have l2 := (FA.out (.cells #[] 5)).2.2.2.2
        clear FA HZ
        obtain ⟨j, hj, rfl, hA, hR, hS, hB⟩ := hrel
        have HA := hid hA
        have HR := hid hR
        have HS := hid hS
        have HB := hid hB
        clear hA hR hS hB
        by_cases hlt : j < 32
        · have cs := at_us_cell HS.out (i := j / 4) (by rw [l_length]; omega)
          have ca := at_ub_cell HA.out (i := j) (by rw [hb_length _ _ hj]; exact hlt)
          have fa := HA.out.frozen j
          have HN := hid (hb_succ (folds p k) j hlt)
          obtain ⟨xx, hxx⟩ : ∃ x, x = (folds p k).l.getD (j / 4) 0#32 := ⟨_, rfl⟩
          rw [← hxx] at cs HN
          clear hxx
          have hs := w_shr 165 xx (24 - 8 * ((j : Int) % 4)) .u64 (by omega)
          rw [show (24 - 8 * ((j : Int) % 4)).toNat = 24 - j % 4 * 8 by omega] at hs
          go_wp2
          go_roundw
          case rel =>
            refine ⟨j + 1, by omega, by go_num, ?_, HR.out.far (p := ⟨wo.heap.size, j, none⟩) (by simp; omega) _, HS.out.far (p := ⟨wo.heap.size, j, none⟩) (by simp; omega) _, HB.out.setCell (by simp; omega) _⟩
            rw [HN.out]
            exact at_ub_put HA.out j _
          case measure => simp [intOf]; omega
        · obtain rfl : j = 32 := by omega
          have HL := hid (show (Tryd.prog.info? 25).map (·.size) = some (ubs (hb (folds p k) 32)).toArray.size by rw [sizeH]; simp [ubs_length, hb_length])
          go_wp2_with (first
            | (refine wpList_load_row rfl _ (.tmp 6) rfl wo.heap.size rfl 25 (ubs (hb (folds p k) 32)).toArray (0, 0) _ HA.out Tryd.underlying25 rfl HL.out ?_)
            | (refine wpList_store_row rfl _ (.tmp 2) (.tmp 41) rfl w.heap.size (ubs (hb (folds p k) 32)).toArray rfl rfl 25 (ubs n32).toArray HR.out HL.out ?e8 (ubs_all _) ?e9; rotate_right))
          case e8 => simp [ubs_length, hb_length, n32_length]
          refine bodyPost_ret (results_cell_row rfl _ _ w.heap.size 25 (ubs (hb (folds p k) 32)).toArray (0, 0) _ rfl (setRow_heap _ _ _ _ _ _ HR.out) Tryd.underlying25 rfl HL.out) rfl ?_
          exact ⟨by rw [HE.out, HH.out], below_setRow HB.out (Nat.le_refl _) _⟩
end Go.Proofs.YtdegmcfcbndelaaDoor
