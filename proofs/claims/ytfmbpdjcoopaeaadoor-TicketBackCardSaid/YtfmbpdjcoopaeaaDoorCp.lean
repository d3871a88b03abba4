/-
  The program's compression of a state with a block.
-/
import Derived.Test.YtfmbpdjcoopaeaaDoorY2
namespace Go.Proofs.YtfmbpdjcoopaeaaDoor
open Go.RowKit

theorem sizeS8 : (Tryd.prog.info? 214).map (·.size) = some 8 := by kernel_rfl
/-- What holds of the memory while a state is compressed. -/
structure CpW (w : World) (B C : Nat) (s : S8) (ws : List (BitVec 32)) (w' : World) : Prop where
  st : At w' B (us s.l).toArray 214
  res : At w' (B + 1 + 1) (us z8).toArray 214
  words : At w' C (us ws).toArray 261
  lt : B + 1 + 1 < C
  tabs : Tabs w'
  below : Below w.heap.size w w'
theorem CpW.drewN {w w' : World} {B C : Nat} {s : S8} {ws : List (BitVec 32)} (h : CpW w B C s ws w') (n : Nat) : CpW w B C s ws (w'.drewN n) :=
  ⟨h.st, h.res, h.words, h.lt, h.tabs.drewN n, below_drewN h.below n⟩
set_option maxRecDepth 100000 in
set_option maxHeartbeats 8000000 in
theorem compress_any (s : S8) (bs : List UInt8) (w : World) (hl : bs.length = 64) (hT : Tabs w) :
    Calls Tryd.prog 183 #[.agg (us s.l).toArray, .agg (ubs bs).toArray] w fun e w' => e = .returned (.agg (us (comp s bs).l).toArray) ∧ Below w.heap.size w w' := by
  obtain ⟨W0, hW0⟩ : ∃ W0, W0 = ((w.alloc (.cells (us s.l).toArray 214)).alloc (.cells (ubs bs).toArray 208)).alloc (.cells (us z8).toArray 214) := ⟨_, rfl⟩
  have hsz : W0.heap.size = w.heap.size + 3 := by rw [hW0]; simp
  have hb0 : Below w.heap.size w W0 := by rw [hW0]; exact (((Below.refl _ _).alloc (Nat.le_refl _) _).alloc (by simp) _).alloc (by simp; omega) _
  have h1 : At W0 w.heap.size (us s.l).toArray 214 := by rw [hW0]; exact ((At.new _ _ _).alloc _).alloc _
  have h2 : At W0 (w.heap.size + 1) (ubs bs).toArray 208 := by rw [hW0]; exact (At.new_at (by simp)).alloc _
  have h3 : At W0 (w.heap.size + 1 + 1) (us z8).toArray 214 := by rw [hW0]; exact At.new_at (by simp)
  have NX := hid (fun (w1 : World) (hb : Below W0.heap.size W0 w1) => (⟨by have := h1.below hb h1.lt; exact (this.alloc _).setRow_far (by have := hb.size; omega), by have := h3.below hb h3.lt; exact (this.alloc _).setRow_far (by have := hb.size; omega), setRow_heap _ _ _ _ _ _ (heap_alloc_new _ _), by have := hb.size; omega, ((hT.below hb0).below hb).below (below_setRow (Below.refl _ _ |>.alloc (Nat.le_refl _) _) (Nat.le_refl _) _), below_setRow ((hb0.trans (hb.mono (by omega))).alloc (by have := hb.size; omega) _) (by have := hb.size; omega) _⟩ : CpW w w.heap.size w1.heap.size s (wx bs 48) ((w1.alloc (.cells (us z64).toArray 261)).setRow w1.heap.size (us (wx bs 48)).toArray)))
  have HL := hid hl
  have H2 := hid h2
  have HZ := hid (show (Tryd.prog.info? 208).map (·.size) = some (ubs bs).toArray.size by rw [sizeB64]; simp [ubs_length, hl])
  have HS := hid (show (Tryd.prog.info? 261).map (·.size) = some (us (wx bs 48)).toArray.size by rw [sizeW64]; simp [us_length, wx_length])
  clear hl hT h1 h2 h3 hb0 hsz
  have hz := zero8
  have hz2 := zero64
  subst hW0
  go_enter Tryd.func183, Tryd.ntmps183
  go_wp2_with (first
    | (refine wpList_load_row rfl _ (.tmp 3) rfl (w.heap.size + 1) rfl 208 (ubs bs).toArray (0, 0) _ H2.out Tryd.underlying208 rfl HZ.out ?_)
    | (refine wpList_store_row rfl _ (.tmp 5) (.tmp 21) rfl w1.heap.size (us (wx bs 48)).toArray rfl rfl 261 (us z64).toArray (heap_alloc_new _ _) HS.out ?e3 (us_all _) ?e4; rotate_right)
    | (go_at_call 202; refine (words_any bs _ HL.out).mono ?_; rintro e w1 ⟨rfl, hb1⟩; have HB1 := hid hb1; clear hb1))
  case e3 => simp [us_length, wx_length, z64_length]
  have HC := NX.out w1 HB1.out
  clear NX HB1 hz hz2 HZ H2
  obtain ⟨C, hC⟩ : ∃ C, C = w1.heap.size := ⟨_, rfl⟩
  rw [← hC] at HC ⊢
  generalize ((w1.alloc (.cells (us z64).toArray 261)).setRow C (us (wx bs 48)).toArray) = W3 at HC ⊢
  clear hC
  have HB : Hid (CpW w w.heap.size C s (wx bs 48) W3) := HC
  have c0 := HC.st.cell 0
  have c1 := HC.st.cell 1
  have c2 := HC.st.cell 2
  have c3 := HC.st.cell 3
  have c4 := HC.st.cell 4
  have c5 := HC.st.cell 5
  have c6 := HC.st.cell 6
  have c7 := HC.st.cell 7
  clear HC
  simp [S8.l, us] at c0 c1 c2 c3 c4 c5 c6 c7
  go_wp2
  go_quiet (fail)
  clear c0 c1 c2 c3 c4 c5 c6 c7
  have HC := HB.out.drewN nq
  clear HB
  generalize W3.drewN nq = W4 at HC ⊢
  have HB : Hid (CpW w w.heap.size C s (wx bs 48) W4) := HC
  clear HC
  go_wp2_with (refine wpList_load_tab rfl _ (.global 3) rfl 3 rfl KT _ HB.out.tabs.k Tryd.underlying261 rfl sizeW64 ?_)
  go_loopw [39, 6, 7, 8, 9, 10, 11, 12, 13] (fun i a b c d e f g h wr => ∃ (k : Nat) (st : S8), k ≤ 64 ∧ i = .int .i64 k ∧ Hid (st = rnds s (wx bs 48) k) ∧ a = uw st.a ∧ b = uw st.b ∧ c = uw st.c ∧ d = uw st.d ∧ e = uw st.e ∧ f = uw st.f ∧ g = uw st.g ∧ h = uw st.h ∧ CpW w w.heap.size C s (wx bs 48) wr) (fun i _ _ _ _ _ _ _ _ _ => 64 - (intOf i).toNat)
  case atStart => exact ⟨0, s, by omega, rfl, (rnds_zero _ _).symm, rfl, rfl, rfl, rfl, rfl, rfl, rfl, rfl, HB.out⟩
  case round =>
    clear HB
    obtain ⟨k, st, hk, rfl, HST, rfl, rfl, rfl, rfl, rfl, rfl, rfl, rfl, hC⟩ := hrel
    by_cases hlt : k < 64
    · have hix : ∀ w : World, (Instr.index 261 (.agg (us KT).toArray) (.int .i64 (k : Int))).run Tryd.prog w = .ok (uw (KT.getD k 0#32)) w :=
        fun w => run_index_row w _ _ 64 _ Tryd.underlying261 Tryd.underlying213 sizeU32 _ k hlt _ (by rw [us_get, List.getD_eq_getElem?_getD, List.getElem?_eq_getElem (by rw [KT_length]; exact hlt)]; rfl) _
      have cw := at_us_cell hC.words (i := k) (by rw [wx_length]; exact hlt)
      have HC := hid hC
      have HN := hid (rnds_succ s (wx bs 48) k)
      clear hC
      obtain ⟨kk, hkk⟩ : ∃ x, x = KT.getD k 0#32 := ⟨_, rfl⟩
      obtain ⟨ww, hww⟩ : ∃ x, x = (wx bs 48).getD k 0#32 := ⟨_, rfl⟩
      rw [← hkk] at hix HN
      rw [← hww] at cw HN
      clear hkk hww
      go_wp2
      go_quiet ((go_at_call 203; exact Calls.quiet_of_same (right_i _ _ _ (by omega) (by omega))))
      clear cw hix
      have hC := HC.out.drewN nq
      clear HC
      generalize wr.drewN nq = W5 at hC ⊢
      have HC := hid hC
      clear hC
      go_wp2_with (go_at_call 203; refine (right_j _ _ _ (by omega) (by omega)).mono ?_; rintro e w' ⟨rfl, rfl⟩)
      go_roundw
      case rel =>
        refine ⟨k + 1, rnd st kk ww, by omega, by go_num, ?_, rfl, rfl, rfl, rfl, rfl, rfl, rfl, rfl, HC.out⟩
        rw [HN.out, ← HST.out]
        rfl
      case measure => simp [intOf]; omega
    · obtain rfl : k = 64 := by omega
      have HC := hid hC
      clear hC
      go_wp2
      rw [show ((64 : Nat) : Int) = 64 from rfl]
      have hz : addk s.l st.l 0 = s.l := addk_zero _ _
      go_loopw [110] (fun i wr => ∃ k : Nat, k ≤ 8 ∧ i = .int .i64 k ∧ At wr w.heap.size (us (addk s.l st.l k)).toArray 214 ∧ At wr (w.heap.size + 1 + 1) (us z8).toArray 214 ∧ Below w.heap.size w wr) (fun i _ => 8 - (intOf i).toNat)
      case atStart => exact ⟨0, by omega, rfl, by rw [hz]; exact HC.out.st, HC.out.res, HC.out.below⟩
      case round =>
        clear hz HC
        obtain ⟨k, hk, rfl, hA, hR, hB⟩ := hrel
        have HA := hid hA
        have HR := hid hR
        have HB := hid hB
        clear hA hR hB
        by_cases hlt : k < 8
        · have hix : ∀ w : World, (Instr.index 214 (.agg #[uw st.a, uw st.b, uw st.c, uw st.d, uw st.e, uw st.f, uw st.g, uw st.h]) (.int .i64 (k : Int))).run Tryd.prog w = .ok (uw (st.l.getD k 0#32)) w :=
            fun w => run_index_row w _ _ 8 _ Tryd.underlying214 Tryd.underlying213 sizeU32 (us st.l) k hlt _ (by rw [us_get, List.getD_eq_getElem?_getD, List.getElem?_eq_getElem (by rw [l_length]; exact hlt)]; rfl) _
          have cw := at_us_cell HA.out (i := k) (by rw [addk_length, l_length]; exact hlt)
          have fz := HA.out.frozen k
          rw [addk_get _ _ _ _ (Nat.le_refl _)] at cw
          have HN := hid (addk_succ s.l st.l k)
          obtain ⟨xx, hxx⟩ : ∃ x, x = s.l.getD k 0#32 := ⟨_, rfl⟩
          obtain ⟨yy, hyy⟩ : ∃ x, x = st.l.getD k 0#32 := ⟨_, rfl⟩
          rw [← hxx] at cw HN
          rw [← hyy] at hix HN
          clear hxx hyy
          go_wp2_with (refine wpList_store_uw rfl _ (.tmp 119) (.tmp 118) rfl sizeU32 ⟨w.heap.size, k, none⟩ rfl _ rfl _ cw fz ?_)
          go_roundw
          case rel =>
            refine ⟨k + 1, by omega, by go_num, ?_, HR.out.far (p := ⟨w.heap.size, k, none⟩) (by simp; omega) _, HB.out.setCell (by simp) _⟩
            rw [HN.out]
            exact at_us_put HA.out k _
          case measure => simp [intOf]; omega
        · obtain rfl : k = 8 := by omega
          have HE := hid (show addk s.l st.l 8 = (comp s bs).l by rw [addk_all, comp_eq, HST.out])
          have HS8 := hid (show (Tryd.prog.info? 214).map (·.size) = some (us (addk s.l st.l 8)).toArray.size by rw [sizeS8]; simp [us_length, addk_length, l_length])
          go_wp2_with (first
            | (refine wpList_load_row rfl _ (.tmp 2) rfl w.heap.size rfl 214 (us (addk s.l st.l 8)).toArray (0, 0) _ HA.out Tryd.underlying214 rfl HS8.out ?_)
            | (refine wpList_store_row rfl _ (.tmp 4) (.tmp 121) rfl (w.heap.size + 1 + 1) (us (addk s.l st.l 8)).toArray rfl rfl 214 (us z8).toArray HR.out HS8.out ?e5 (us_all _) ?e6; rotate_right))
          case e5 => simp [us_length, addk_length, l_length, z8_length]
          refine bodyPost_ret (results_cell_row rfl _ _ (w.heap.size + 1 + 1) 214 (us (addk s.l st.l 8)).toArray (0, 0) _ rfl (setRow_heap _ _ _ _ _ _ HR.out) Tryd.underlying214 rfl HS8.out) rfl ?_
          exact ⟨by rw [HE.out], below_setRow HB.out (by omega) _⟩
end Go.Proofs.YtfmbpdjcoopaeaaDoor
