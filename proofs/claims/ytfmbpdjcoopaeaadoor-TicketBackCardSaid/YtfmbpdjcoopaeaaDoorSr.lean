/-
  The document's hash of a text.
-/
import Derived.Test.YtfmbpdjcoopaeaaDoorRc
import Derived.Test.YtfmbpdjcoopaeaaDoorY3
namespace Go.Proofs.YtfmbpdjcoopaeaaDoor
open Go.RowKit

/-- What holds of the memory while the document's hash is made: its result, its state, and the padded text. -/
structure SrW (w : World) (C g : Nat) (p : List UInt8) (s : S8) (w' : World) : Prop where
  res : At w' w.heap.size (ubs n32).toArray 25
  st : At w' C (us s.l).toArray 214
  pad : Rb w' C (some ⟨g, 0, none⟩) p
  lt : w.heap.size < C
  below : Below w.heap.size w w'
theorem SrW.drewN {w w' : World} {C g : Nat} {p : List UInt8} {s : S8} (h : SrW w C g p s w') (n : Nat) : SrW w C g p s (w'.drewN n) := ⟨h.res, h.st, h.pad.drewN n, h.lt, below_drewN h.below n⟩
theorem SrW.to_drew {w w' W2 : World} {C g : Nat} {p : List UInt8} {s : S8} (h : SrW w C g p s w') (e : { w' with drawn := w'.drawn + 1 } = W2) : SrW w C g p s W2 := by
  subst e
  exact h.drewN 1
/-- A call that leaves what was there, and the new state stored. -/
theorem SrW.next {w w' w2 : World} {C g : Nat} {p : List UInt8} {s : S8} (t : S8) (h : SrW w C g p s w') (hb : Below w'.heap.size w' w2) : SrW w C g p t (w2.setRow C (us t.l).toArray) := by
  have hC := h.st.lt
  have h1 : At w2 C (us s.l).toArray 214 := h.st.below hb hC
  have hw : w.heap.size < w'.heap.size := by have := h.lt; omega
  have hB : Below C w2 (w2.setRow C (us t.l).toArray) := below_setRow (Below.refl _ _) (Nat.le_refl _) _
  exact ⟨(h.res.below hb hw).below hB h.lt, setRow_heap _ _ _ _ _ _ h1, (Rd.below h.pad (hb.mono (Nat.le_of_lt hC))).below hB, h.lt, below_setRow (h.below.trans (hb.mono h.below.size)) (Nat.le_of_lt h.lt) _⟩
theorem SrW.at_ {w w' : World} {C g : Nat} {p : List UInt8} {s : S8} (h : SrW w C g p s w') {w2 : World} (hb : Below w'.heap.size w' w2) : At w2 C (us s.l).toArray 214 := h.st.below hb h.st.lt

set_option maxRecDepth 100000 in
set_option maxHeartbeats 8000000 in
theorem sumR_any (bs : List UInt8) (A : Option Addr) (c : Nat) (w : World) (hr : Rb w w.heap.size A bs) (hlen : bs.length ≤ 140737488351232) (hT : Tabr w) (hI : Tab w 0 IV.l) :
    Calls Tryd.prog 77 #[.slice A bs.length c] w fun e w' => e = .returned (.agg (ubs (hashL bs)).toArray) ∧ Below w.heap.size w w' := by
  obtain ⟨W0, hW0⟩ : ∃ W0, W0 = w.alloc (.cells (ubs n32).toArray 25) := ⟨_, rfl⟩
  have hs0 : W0.heap.size = w.heap.size + 1 := by rw [hW0]; simp
  have h0 : At W0 w.heap.size (ubs n32).toArray 25 := by rw [hW0]; exact At.new _ _ _
  have hb0 : Below w.heap.size w W0 := by rw [hW0]; exact (Below.refl _ _).alloc (Nat.le_refl _) _
  have hr0 : Rb W0 W0.heap.size A bs := by rw [hW0]; exact (hr.alloc _).mono (by simp)
  have HR := hid hr0
  have HT := hid hT
  have hx : ∀ (w1 : World) (n : Nat) (v : Value), Own1 W0 n (padL bs) v w1 → ∃ g c1, v = .slice (some ⟨g, 0, none⟩) n c1 ∧ n ≤ c1 ∧ SrW w w1.heap.size g (padL bs) IV ((w1.alloc (.cells (us z8).toArray 214)).setRow w1.heap.size (us IV.l).toArray) := by
    intro w1 n v h
    have hne : 0 < n := by rw [h.len, padL_length]; omega
    obtain ⟨A1, c1, rfl, hle, -, -, -, hA⟩ := own_form h.own
    have hrd := Rd.of_own h.own
    obtain ⟨b, o, rfl, hbb, -⟩ := hrd (by intro e; have h3 := congrArg List.length e; rw [ubs_length, ← h.len] at h3; have h4 : n = 0 := h3; omega)
    obtain ⟨h1, h2, h3, h4⟩ := hA _ rfl
    have h1' : o = 0 := h1
    subst h1'
    exact ⟨b, c1, rfl, hle, ⟨((h0.below h.below (by omega)).alloc _).setRow_far (by have := h.below.size; omega), setRow_heap _ _ _ _ _ _ (heap_alloc_new _ _), (hrd.alloc _).below (B := w1.heap.size) (below_setRow (Below.refl _ _) (Nat.le_refl _) _), by have := h.below.size; omega, below_setRow ((hb0.trans (h.below.mono (by omega))).alloc (by have := h.below.size; omega) _) (by have := h.below.size; omega) _⟩⟩
  have HX := hid hx
  have HT1 := hid (fun (w1 : World) (n : Nat) (v : Value) (h : Own1 W0 n (padL bs) v w1) => ((Tab.below (x := IV.a) (xs := [IV.b, IV.c, IV.d, IV.e, IV.f, IV.g, IV.h]) hI hb0).below h.below))
  have hz := zero8
  have hz2 := noughts32
  have HS := hid (show (Tryd.prog.info? 214).map (·.size) = some (us IV.l).toArray.size by rw [sizeSt]; simp [us_length, IV_length])
  clear hr h0 hb0 hr0 hs0 hT hx hI
  subst hW0
  go_enter Tryd.func77, Tryd.ntmps77
  go_wp2_with (first
    | (go_at_call 138; refine (padR_any bs A c _ HR.out hlen).mono ?_; rintro e w1 ⟨v, n, rfl, hO⟩; have HO := hid hO; clear hO)
    | (refine wpList_load_tab rfl _ (.global 0) rfl 0 rfl IV.l _ (HT1.out _ _ _ HO.out) Tryd.underlying214 rfl sizeSt ?_)
    | (refine wpList_store_row rfl _ (.tmp 4) (.tmp 10) rfl w1.heap.size (us IV.l).toArray rfl rfl 214 (us z8).toArray (heap_alloc_new _ _) HS.out ?e3 (us_all _) ?e4; rotate_right))
  case e3 => simp [us_length, IV_length, z8_length]
  obtain ⟨g, c1, rfl, hc1, hW⟩ := HX.out _ _ _ HO.out
  have HN := hid HO.out.len
  clear HX HT1 HO hz HR HS
  obtain ⟨C, hC⟩ : ∃ C, C = w1.heap.size := ⟨_, rfl⟩
  rw [← hC] at hW ⊢
  generalize ((w1.alloc (.cells (us z8).toArray 214)).setRow C (us IV.l).toArray) = W3 at hW ⊢
  clear hC
  obtain ⟨p, hp⟩ : ∃ p, p = padL bs := ⟨_, rfl⟩
  obtain ⟨q, hq⟩ : ∃ q, q = (bs.length + 8) / 64 + 1 := ⟨_, rfl⟩
  have hn : n = 64 * q := by rw [HN.out, padL_length, hq]; omega
  have HH := hid (show hashL bs = bytesOf (folds p q) by unfold hashL; rw [← hp, show p.length = 64 * q by rw [hp, ← HN.out, hn], Nat.mul_div_cancel_left _ (by omega)])
  have HP := hid (show p.length = n by rw [hp, HN.out])
  rw [← hp] at hW
  have n1 : n ≤ 64 * q := by omega
  have n2 : 64 * q ≤ n := by omega
  have n3 : n ≤ 140737488351400 := by omega
  have HW := hid hW
  clear hp hq hn HN hW hlen
  go_loopw [5] (fun i wr => ∃ k : Nat, k ≤ q ∧ i = .int .i64 (64 * (k : Int)) ∧ SrW w C g p (folds p k) wr) (fun i _ => n - (intOf i).toNat)
  case atStart => exact ⟨0, by omega, rfl, by rw [folds_zero]; exact HW.out⟩
  case round =>
    clear HW
    obtain ⟨k, hk, rfl, hW⟩ := hrel
    have HW := hid hW
    clear hW
    by_cases hlt : k < q
    · have hd1 : 64 * (k : Int) < (n : Int) := by omega
      go_wp2
      refine wp_region_still_tail 6 (by kernel_rfl) (by kernel_rfl) ?_
      simp only [List.take_succ_cons, List.take_zero, List.drop_succ_cons, List.drop_zero]
      obtain ⟨W2, hW2⟩ : ∃ W2 : World, { wr with drawn := wr.drawn + 1 } = W2 := ⟨_, rfl⟩
      rw [hW2]
      have hW := HW.out.to_drew hW2
      clear HW hW2
      have HW := hid hW
      clear hW
      have HS := hid (show (Tryd.prog.info? 214).map (·.size) = some (us (folds p k).l).toArray.size by rw [sizeSt]; simp [us_length, l_length])
      refine wpStill_run _ rfl (run_load_row _ (.tmp 4) rfl C rfl 214 (us (folds p k).l).toArray _ HW.out.st Tryd.underlying214 rfl HS.out) ?_
      have a1 : IntKind.i64.wrap (64 * (k : Int) + 64) = 64 * (k : Int) + 64 := by rw [IntKind.wrap_i64]; omega
      repeat still_step
      refine wpStill_run _ rfl (run_slice_piece _ _ (.tmp 18) (.tmp 19) (.tmp 21) rfl Tryd.underlying22 sizeU8 g n c1 (64 * k) (64 * k + 64) rfl .i64 .i64 rfl rfl (by omega) (by omega) (by omega)) ?_
      refine wpStill_nil ?_
      clear a1 hd1
      rw [show 64 * k + 64 - 64 * k = 64 by omega]
      go_wp2_with (first
        | (go_at_call 139; refine (compressR_any (folds p k) ((p.drop (64 * k)).take 64) _ _ _ ?k1 ?k2 ?k3).mono ?_; rotate_right; rintro e w4 ⟨rfl, hb4⟩; have HB4 := hid hb4; clear hb4)
        | (refine wpList_store_row rfl _ (.tmp 4) (.tmp 23) rfl C (us (comp (folds p k) ((p.drop (64 * k)).take 64)).l).toArray rfl rfl 214 (us (folds p k).l).toArray (HW.out.at_ HB4.out) ?e5 ?e6 (us_all _) ?e7; rotate_right))
      case k1 => rw [List.length_take, List.length_drop, HP.out]; omega
      case k2 =>
        have := rb_piece HW.out.pad (64 * k) 64
        rw [Nat.zero_add] at this
        exact this.mono (Nat.le_of_lt HW.out.st.lt)
      case k3 => exact HT.out.below HW.out.below
      case e5 => rw [sizeSt]; simp [us_length, l_length]
      case e6 => simp [us_length, l_length]
      have HN := hid (folds_succ p k)
      have hF := HW.out.next (comp (folds p k) ((p.drop (64 * k)).take 64)) HB4.out
      have HF := hid hF
      clear hF HW HB4
      go_wp2
      go_roundw
      case rel => exact ⟨k + 1, by omega, by rw [show 64 * ((k + 1 : Nat) : Int) = 64 * (k : Int) + 64 by omega], by rw [HN.out]; exact HF.out⟩
      case measure => simp [intOf]; omega
    · obtain rfl : k = q := by omega
      have hd2 : ¬ 64 * (k : Int) < (n : Int) := by omega
      obtain ⟨wo, rfl⟩ : ∃ wo : World, wo = wr := ⟨_, rfl⟩
      have HE := hid (hb_all (folds p k))
      have HZ := hid (hb_start (folds p k))
      have FA := hid (fun (o : Obj) => (⟨HW.out.res.alloc o, HW.out.st.alloc o, HW.out.below.alloc HW.out.below.size o, HW.out.lt, HW.out.st.lt⟩ : At (wo.alloc o) w.heap.size (ubs n32).toArray 25 ∧ At (wo.alloc o) C (us (folds p k).l).toArray 214 ∧ Below w.heap.size w (wo.alloc o) ∧ w.heap.size < C ∧ C < wo.heap.size))
      clear HW
      go_wp2
      clear hz2
      go_loopw [7] (fun i w5 => ∃ j : Nat, j ≤ 32 ∧ i = .int .i64 j ∧ At w5 wo.heap.size (ubs (hb (folds p k) j)).toArray 25 ∧ At w5 w.heap.size (ubs n32).toArray 25 ∧ At w5 C (us (folds p k).l).toArray 214 ∧ Below w.heap.size w w5) (fun i _ => 32 - (intOf i).toNat)
      case atStart => exact ⟨0, by omega, rfl, by rw [HZ.out]; exact At.new_at rfl, (FA.out _).1, (FA.out _).2.1, (FA.out _).2.2.1⟩
      case round =>
        have l1 := (FA.out (.cells #[] 5)).2.2.2.1
        have l2 := (FA.out (.cells #[] 5)).2.2.2.2
        clear FA HZ
        obtain ⟨j, hj, rfl, hA, hR, hS, hB⟩ := hrel
        have HA := hid hA
        have HR := hid hR
        have HS := hid hS
        have HB := hid hB
        clear hA hR hS hB
        by_cases hlt : j < 32
        · have cs := at_us_cell HS.out (i := j / 4) (by rw [l_length]; omega)
          have ca := at_ub_cell HA.out (i := j) (by rw [hb_length _ _ hj]; exact hlt)
          have fa := HA.out.frozen j
          have HN := hid (hb_succ (folds p k) j hlt)
          obtain ⟨xx, hxx⟩ : ∃ x, x = (folds p k).l.getD (j / 4) 0#32 := ⟨_, rfl⟩
          rw [← hxx] at cs HN
          clear hxx
          have hs := w_shr 213 xx (24 - 8 * ((j : Int) % 4)) .u64 (by omega)
          rw [show (24 - 8 * ((j : Int) % 4)).toNat = 24 - j % 4 * 8 by omega] at hs
          go_wp2
          go_roundw
          case rel =>
            refine ⟨j + 1, by omega, by go_num, ?_, HR.out.far (p := ⟨wo.heap.size, j, none⟩) (by simp; omega) _, HS.out.far (p := ⟨wo.heap.size, j, none⟩) (by simp; omega) _, HB.out.setCell (by simp; omega) _⟩
            rw [HN.out]
            exact at_ub_put HA.out j _
          case measure => simp [intOf]; omega
        · obtain rfl : j = 32 := by omega
          have HL := hid (show (Tryd.prog.info? 25).map (·.size) = some (ubs (hb (folds p k) 32)).toArray.size by rw [sizeH]; simp [ubs_length, hb_length])
          go_wp2_with (first
            | (refine wpList_load_row rfl _ (.tmp 6) rfl wo.heap.size rfl 25 (ubs (hb (folds p k) 32)).toArray (0, 0) _ HA.out Tryd.underlying25 rfl HL.out ?_)
            | (refine wpList_store_row rfl _ (.tmp 2) (.tmp 41) rfl w.heap.size (ubs (hb (folds p k) 32)).toArray rfl rfl 25 (ubs n32).toArray HR.out HL.out ?e8 (ubs_all _) ?e9; rotate_right))
          case e8 => simp [ubs_length, hb_length, n32_length]
          refine bodyPost_ret (results_cell_row rfl _ _ w.heap.size 25 (ubs (hb (folds p k) 32)).toArray (0, 0) _ rfl (setRow_heap _ _ _ _ _ _ HR.out) Tryd.underlying25 rfl HL.out) rfl ?_
          exact ⟨by rw [HE.out, HH.out], below_setRow HB.out (Nat.le_refl _) _⟩
end Go.Proofs.YtfmbpdjcoopaeaaDoor
