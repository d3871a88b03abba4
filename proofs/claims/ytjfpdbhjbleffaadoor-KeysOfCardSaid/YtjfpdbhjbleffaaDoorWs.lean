/-
  The program's words of a block.
-/
import Derived.Test.YtjfpdbhjbleffaaDoorCm
import Derived.Test.YtjfpdbhjbleffaaDoorSp
import Derived.StillTailTactics
import Derived.BigQuiet
namespace Go.Proofs.YtjfpdbhjbleffaaDoor
open Go.RowKit

theorem sizeB64 : (Tryd.prog.info? 67).map (·.size) = some 64 := by kernel_rfl
theorem sizeW64 : (Tryd.prog.info? 76).map (·.size) = some 64 := by kernel_rfl
theorem sizeU32 : (Tryd.prog.info? 71).map (·.size) = some 1 := by kernel_rfl
set_option maxRecDepth 100000 in
set_option maxHeartbeats 4000000 in
theorem words_any (bs : List UInt8) (w : World) (hl : bs.length = 64) :
    Calls Tryd.prog 44 #[.agg (ubs bs).toArray] w fun e w' => e = .returned (.agg (us (wx bs 48)).toArray) ∧ Below w.heap.size w w' := by
  have hsz : (Tryd.prog.info? 67).map (·.size) = some (ubs bs).toArray.size := by rw [sizeB64]; simp [ubs_length, hl]
  have HL := hid hl
  have HZ := hid hsz
  clear hl hsz
  have D1 := hid (((At.new w (ubs bs).toArray 67).alloc (.cells (us z64).toArray 76)).alloc (.cells (us z64).toArray 76))
  have hz := zero64
  go_enter Tryd.func44, Tryd.ntmps44
  go_wp2_with (refine wpList_load_row rfl _ (.tmp 1) rfl w.heap.size rfl 67 (ubs bs).toArray (0, 0) _ D1.out Tryd.underlying67 rfl HZ.out ?_)
  clear hz
  go_loopw [10] (fun i wr => ∃ k : Nat, k ≤ 64 ∧ i = .int .i64 k ∧ At wr (w.heap.size + 1 + 1) (us (wl bs k)).toArray 76 ∧ At wr (w.heap.size + 1) (us z64).toArray 76 ∧ Below w.heap.size w wr) (fun i _ => 64 - (intOf i).toNat)
  case atStart =>
    refine ⟨0, by omega, rfl, by rw [wl_zero]; exact At.new_at (by simp), At.alloc (At.new_at (by simp)) _, ?_⟩
    exact (((Below.refl _ _).alloc (Nat.le_refl _) _).alloc (by simp) _).alloc (by simp; omega) _
  case round =>
    obtain ⟨k, hk, rfl, hA, hR, hB⟩ := hrel
    have HA := hid hA
    have HR := hid hR
    have HB := hid hB
    clear hA hR hB
    by_cases hlt : k < 64
    · have hb : (ubs bs)[k]? = some (.int .u8 ((bs.getD k 0).toNat : Int)) := by
        rw [ubs_get, List.getElem?_eq_getElem (by rw [HL.out]; exact hlt), List.getD_eq_getElem?_getD, List.getElem?_eq_getElem (by rw [HL.out]; exact hlt)]; rfl
      have hix : ∀ w : World, (Instr.index 67 (.agg (ubs bs).toArray) (.int .i64 (k : Int))).run Tryd.prog w = .ok (.int .u8 ((bs.getD k 0).toNat : Int)) w :=
        fun w => run_index_row w _ _ 64 _ Tryd.underlying67 Tryd.underlying5 sizeU8 _ k hlt _ hb _
      clear hb
      have hc := at_us_cell HA.out (i := k / 4) (by rw [wl_length]; omega)
      have hf := HA.out.frozen (k / 4)
      go_wp2
      go_simp

      go_wp2
      go_roundw
      case rel =>
        refine ⟨k + 1, by omega, by go_num, ?_, HR.out.far (p := ⟨w.heap.size + 1 + 1, k / 4, none⟩) (by simp) _, HB.out.setCell (by simp; omega) _⟩
        have := at_us_put HA.out (k / 4) ((wl bs k).getD (k / 4) 0#32 <<< 8 ||| bw (bs.getD k 0))
        simpa [wl_succ] using this
      case measure => simp [intOf]; omega
    · obtain rfl : k = 64 := by omega
      have HX : Hid (wx bs 0 = wl bs 64) := hid (wx_zero bs)
      go_wp2
      rw [show ((64 : Nat) : Int) = 64 from rfl]
      go_loopw [6] (fun i wr => ∃ k : Nat, 16 ≤ k ∧ k ≤ 64 ∧ i = .int .i64 k ∧ At wr (w.heap.size + 1 + 1) (us (wx bs (k - 16))).toArray 76 ∧ At wr (w.heap.size + 1) (us z64).toArray 76 ∧ Below w.heap.size w wr) (fun i _ => 64 - (intOf i).toNat)
      case atStart =>
        exact ⟨16, by omega, by omega, rfl, by rw [HX.out]; exact HA.out, HR.out, HB.out⟩
      case round =>
        clear HA HR HB
        obtain ⟨k, hk1, hk, rfl, hA, hR, hB⟩ := hrel
        have HA := hid hA
        have HR := hid hR
        have HB := hid hB
        clear hA hR hB
        by_cases hlt : k < 64
        · have S15 : Hid (IntKind.i64.wrap ((k : Int) - 15) = (k : Int) - 15 ∧ ((k : Int) - 15).toNat = k - 15 ∧ 0 ≤ (k : Int) - 15 ∧ (k : Int) - 15 < 64) := sub_fits k 15 (by omega) (by omega)
          have S2 : Hid (IntKind.i64.wrap ((k : Int) - 2) = (k : Int) - 2 ∧ ((k : Int) - 2).toNat = k - 2 ∧ 0 ≤ (k : Int) - 2 ∧ (k : Int) - 2 < 64) := sub_fits k 2 (by omega) (by omega)
          have S16 : Hid (IntKind.i64.wrap ((k : Int) - 16) = (k : Int) - 16 ∧ ((k : Int) - 16).toNat = k - 16 ∧ 0 ≤ (k : Int) - 16 ∧ (k : Int) - 16 < 64) := sub_fits k 16 (by omega) (by omega)
          have S7 : Hid (IntKind.i64.wrap ((k : Int) - 7) = (k : Int) - 7 ∧ ((k : Int) - 7).toNat = k - 7 ∧ 0 ≤ (k : Int) - 7 ∧ (k : Int) - 7 < 64) := sub_fits k 7 (by omega) (by omega)
          obtain ⟨x, hx⟩ : ∃ x, x = (wx bs (k - 16)).getD (k - 15) 0#32 := ⟨_, rfl⟩
          obtain ⟨y, hy⟩ : ∃ x, x = (wx bs (k - 16)).getD (k - 2) 0#32 := ⟨_, rfl⟩
          obtain ⟨u, hu⟩ : ∃ x, x = (wx bs (k - 16)).getD (k - 16) 0#32 := ⟨_, rfl⟩
          obtain ⟨v, hv⟩ : ∃ x, x = (wx bs (k - 16)).getD (k - 7) 0#32 := ⟨_, rfl⟩
          obtain ⟨z, hz⟩ : ∃ x, x = (wx bs (k - 16)).getD k 0#32 := ⟨_, rfl⟩
          have cx := at_us_cell HA.out (i := k - 15) (by rw [wx_length]; omega)
          have cy := at_us_cell HA.out (i := k - 2) (by rw [wx_length]; omega)
          have cu := at_us_cell HA.out (i := k - 16) (by rw [wx_length]; omega)
          have cv := at_us_cell HA.out (i := k - 7) (by rw [wx_length]; omega)
          have cz := at_us_cell HA.out (i := k) (by rw [wx_length]; omega)
          have fz := HA.out.frozen k
          rw [← hx] at cx
          rw [← hy] at cy
          rw [← hu] at cu
          rw [← hv] at cv
          rw [← hz] at cz
          have EX := hid (show wx bs (k + 1 - 16) = (wx bs (k - 16)).set k (u + sg0 x + v + sg1 y) by
            rw [show k + 1 - 16 = (k - 16) + 1 by omega, wx_succ, hu, hx, hv, hy]
            rw [show 16 + (k - 16) = k by omega, show k - 16 + 1 = k - 15 by omega, show k - 16 + 9 = k - 7 by omega, show k - 16 + 14 = k - 2 by omega])
          have HU := hid hu
          have HV := hid hv
          clear hx hy hu hv hz
          have FD := hid (fun n : Nat => (⟨(show At (wr.drewN n) (w.heap.size + 1 + 1) (us (wx bs (k - 16))).toArray 76 from HA.out), (show At (wr.drewN n) (w.heap.size + 1) (us z64).toArray 76 from HR.out), below_drewN HB.out n⟩ : _ ∧ _ ∧ _))
          clear cu cv cz fz HA HR HB
          go_wp2
          obtain ⟨a15, b15, c15, d15⟩ := S15.out
          obtain ⟨a2, b2, c2, d2⟩ := S2.out
          go_quiet (fail)
          clear a15 b15 c15 d15 a2 b2 c2 d2 cx cy
          have FD1 := FD.out nq
          clear FD
          generalize wr.drewN nq = W1 at FD1 ⊢
          go_wp2
          refine wp_region_still_tail 29 (by kernel_rfl) (by kernel_rfl) ?_
          simp only [List.take_succ_cons, List.take_zero, List.drop_succ_cons, List.drop_zero]
          obtain ⟨W2, hW2⟩ : ∃ W2 : World, { W1 with drawn := W1.drawn + 1 } = W2 := ⟨_, rfl⟩
          rw [hW2]
          have FD2 : At W2 (w.heap.size + 1 + 1) (us (wx bs (k - 16))).toArray 76 ∧ At W2 (w.heap.size + 1) (us z64).toArray 76 ∧ Below w.heap.size w W2 := by
            subst hW2
            exact ⟨FD1.1, FD1.2.1, below_drewN FD1.2.2 1⟩
          clear FD1 hW2
          obtain ⟨hA, hR, hB⟩ := FD2
          have HA := hid hA
          have HR := hid hR
          have HB := hid hB
          clear hA hR hB
          have cu := at_us_cell HA.out (i := k - 16) (by rw [wx_length]; omega)
          have cv := at_us_cell HA.out (i := k - 7) (by rw [wx_length]; omega)
          have cz := at_us_cell HA.out (i := k) (by rw [wx_length]; omega)
          have fz := HA.out.frozen k
          rw [← HU.out] at cu
          rw [← HV.out] at cv
          have e16 : (16 : Int) ≤ k := by omega
          have e7 : (7 : Int) ≤ k := by omega
          have e64 : (k : Int) < 64 := by omega
          obtain ⟨a16, b16, c16, d16⟩ := S16.out
          obtain ⟨a7, b7, c7, d7⟩ := S7.out
          repeat (first | still_step | still_call (right_i _ _ _ (by omega) (by omega)))
          refine wpStill_nil ?_
          clear a16 b16 c16 d16 a7 b7 c7 d7
          go_wp2_with (refine wpList_store_uw rfl _ (.tmp 66) (.tmp 65) rfl sizeU32 ⟨w.heap.size + 1 + 1, k, none⟩ rfl _ rfl _ cz fz ?_)
          go_roundw
          case rel =>
            refine ⟨k + 1, by omega, by omega, by go_num, ?_, HR.out.far (p := ⟨w.heap.size + 1 + 1, k, none⟩) (by simp) _, HB.out.setCell (by simp; omega) _⟩
            rw [EX.out, show sg0 x = rot x 7 ^^^ rot x 18 ^^^ x >>> 3 by unfold sg0; rfl, show sg1 y = rot y 17 ^^^ rot y 19 ^^^ y >>> 10 by unfold sg1; rfl]
            exact at_us_put HA.out k _
          case measure => simp [intOf]; omega
        · obtain rfl : k = 64 := by omega
          have HS := hid (show (Tryd.prog.info? 76).map (·.size) = some (us (wx bs (64 - 16))).toArray.size by rw [sizeW64]; simp [us_length, wx_length])
          go_wp2_with (first
            | (refine wpList_load_row rfl _ (.tmp 3) rfl (w.heap.size + 1 + 1) rfl 76 (us (wx bs (64 - 16))).toArray (0, 0) _ HA.out Tryd.underlying76 rfl HS.out ?_)
            | (refine wpList_store_row rfl _ (.tmp 2) (.tmp 67) rfl (w.heap.size + 1) (us (wx bs (64 - 16))).toArray rfl rfl 76 (us z64).toArray HR.out HS.out ?e3 (us_all _) ?e4; rotate_right))
          case e3 => simp [us_length, wx_length, z64_length]
          refine bodyPost_ret (results_cell_row rfl _ _ (w.heap.size + 1) 76 (us (wx bs (64 - 16))).toArray (0, 0) _ rfl (setRow_heap _ _ _ _ _ _ HR.out) Tryd.underlying76 rfl HS.out) rfl ?_
          exact ⟨rfl, below_setRow HB.out (by omega) _⟩
end Go.Proofs.YtjfpdbhjbleffaaDoor
