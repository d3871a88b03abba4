/-
  The program's next round key.
-/
import Derived.Test.YtenlidbgllahhaaFc
namespace Go.Proofs.Ytenlidbgllahhaa
open Go.RowKit

theorem upd_lt (b : List UInt8) (f : Nat → UInt8) (j i : Nat) (h : i < j) : (upd b f j).getD i 0 = f i := by
  unfold upd
  rw [List.getD_eq_getElem?_getD, List.getElem?_append_left (by simp; exact h)]
  simp [h]
/-- The first word's bytes, before the factor; the bytes of the round key behind k. -/
def nx0 (k : List UInt8) (i : Nat) : UInt8 := xr (k.getD i 0) (sT (k.getD (12 + (i + 1) % 4) 0))
def nx (k : List UInt8) (f : UInt8) : Nat → UInt8
  | 0 => xr (nx0 k 0) f
  | 1 => nx0 k 1
  | 2 => nx0 k 2
  | 3 => nx0 k 3
  | i + 4 => xr (k.getD (i + 4) 0) (nx k f i)
def nxL (k : List UInt8) (f : UInt8) : List UInt8 := mk16 (nx k f)
theorem nxL_length (k : List UInt8) (f : UInt8) : (nxL k f).length = 16 := mk16_length _
theorem nx_four (k : List UInt8) (f : UInt8) (i : Nat) : nx k f (i + 4) = xr (k.getD (i + 4) 0) (nx k f i) := by rw [nx]
theorem nx_first (k : List UInt8) (f : UInt8) : (upd k (nx0 k) 4).set 0 (xr (nx0 k 0) f) = upd k (nx k f) 4 := by
  unfold upd
  rw [show (List.range 4).map (nx0 k) = [nx0 k 0, nx0 k 1, nx0 k 2, nx0 k 3] from rfl, show (List.range 4).map (nx k f) = [nx k f 0, nx k f 1, nx k f 2, nx k f 3] from rfl]
  rw [nx, nx, nx, nx]
  rfl
attribute [irreducible] nx nx0
set_option maxRecDepth 100000 in
set_option maxHeartbeats 1000000 in
theorem next_any (k : List UInt8) (f : UInt8) (T : Nat) (w : World) (hk : k.length = 16) (hT : At w T (ubs STab).toArray 59) :
    Calls Try.prog 33 #[.agg (ubs k).toArray, .pointer (some ⟨T, 0, none⟩), .int .u8 (f.toNat : Int)] w fun e w' => e = .returned (.agg (ubs (nxL k f)).toArray) ∧ Below w.heap.size w w' := by
  have H0 := hid (Duo.start w k n16)
  have HL := hid hk
  have HT := hid hT
  have hz := noughts16
  have HZ := hid (size16_of (nxL_length k f))
  have HLN := hid (nxL_length k f)
  clear hk hT
  go_enter Try.func33, Try.ntmps33
  go_wp2
  clear hz
  go_loopw [9] (fun vi wr => ∃ j : Nat, j ≤ 4 ∧ vi = .int .i64 j ∧ Duo w (upd k (nx0 k) j) n16 wr) (fun vi _ => 4 - (intOf vi).toNat)
  case atStart => exact ⟨0, by omega, rfl, by rw [upd_zero]; exact H0.out⟩
  case round =>
    clear H0
    obtain ⟨j, hj, rfl, hA⟩ := hrel
    have HA := hid hA
    clear hA
    have hul := upd_length k (nx0 k) j (by rw [HL.out]; omega)
    by_cases hlt : j < 4
    · obtain ⟨r, hr⟩ : ∃ r, r = (j + 1) % 4 := ⟨_, rfl⟩
      obtain ⟨m, hm⟩ : ∃ m, m = 12 + r := ⟨_, rfl⟩
      obtain ⟨j1, hj1⟩ : ∃ m, m = j + 1 := ⟨_, rfl⟩
      have HJ1 := hid hj1
      have e0 : IntKind.i64.wrap ((j : Int) + 1) = (j1 : Int) := by rw [IntKind.wrap_i64] <;> omega
      have e1 : (j1 : Int).tmod 4 = (r : Int) := by rw [Int.tmod_eq_emod_of_nonneg (by omega)]; omega
      have e2 : IntKind.i64.wrap (12 + (r : Int)) = (m : Int) := by rw [IntKind.wrap_i64] <;> omega
      have hml : m < 16 := by omega
      have hmi : (m : Int) < 16 := by omega
      have hj16 : (j : Int) < 16 := by omega
      have hjb : j < k.length := by rw [HL.out]; omega
      have c0 := at_ub_cell HA.out.a0 (i := j) (by rw [hul]; exact hjb)
      rw [upd_get k _ j j (Nat.le_refl _) hjb] at c0
      have c1 := at_ub_cell HA.out.a0 (i := m) (by rw [hul, HL.out]; exact hml)
      rw [upd_get k _ j m (by omega) (by rw [HL.out]; exact hml)] at c1
      have f0 := HA.out.a0.frozen j
      have hxl : ((k.getD m 0).toNat : Int) < 256 := by have := (k.getD m 0).toNat_lt; omega
      have c2 := at_ub_cell (HT.out.new_ HA.out.below) (i := (k.getD m 0).toNat) (by rw [STab_length]; have := (k.getD m 0).toNat_lt; omega)
      rw [show STab.getD (k.getD m 0).toNat 0 = sT (k.getD m 0) from rfl] at c2
      have HN := hid (upd_succ k (nx0 k) j hjb)
      have hF : xr (k.getD j 0) (sT (k.getD m 0)) = nx0 k j := by rw [hm, hr, nx0]
      have hxx := b_xr 5 (k.getD j 0) (sT (k.getD m 0))
      rw [hF] at hxx
      obtain ⟨y, hy⟩ : ∃ y, y = nx0 k j := ⟨_, rfl⟩
      rw [← hy] at hxx HN
      obtain ⟨x0, hx0⟩ : ∃ x, x = k.getD j 0 := ⟨_, rfl⟩
      obtain ⟨x1, hx1⟩ : ∃ x, x = k.getD m 0 := ⟨_, rfl⟩
      rw [← hx1] at c1 c2 hxx hxl
      obtain ⟨x2, hx2⟩ : ∃ x, x = sT x1 := ⟨_, rfl⟩
      rw [← hx2] at hxx c2
      rw [← hx0] at hxx c0
      clear hF hy hx0 hx1 hx2 hm hr hul hjb hj1
      go_wp2
      refine wp_region_still_tail 15 (by kernel_rfl) (by kernel_rfl) ?_
      simp only [List.take_succ_cons, List.take_zero, List.drop_succ_cons, List.drop_zero]
      obtain ⟨W2, hW2⟩ : ∃ W2 : World, { wr with drawn := wr.drawn + 1 } = W2 := ⟨_, rfl⟩
      rw [hW2]
      have HB := hid (show Duo w (upd k (nx0 k) j) n16 W2 by rw [← hW2]; exact HA.out.drewN 1)
      have d0 : W2.cell? ⟨w.heap.size, j, none⟩ = some (.int .u8 (x0.toNat : Int)) := by rw [← hW2]; exact c0
      have d1 : W2.cell? ⟨w.heap.size, m, none⟩ = some (.int .u8 (x1.toNat : Int)) := by rw [← hW2]; exact c1
      have d3 : W2.cell? ⟨T, x1.toNat, none⟩ = some (.int .u8 (x2.toNat : Int)) := by rw [← hW2]; exact c2
      have d2 : W2.frozen? ⟨w.heap.size, j, none⟩ = false := by rw [← hW2]; exact f0
      clear hW2 c0 c1 c2 f0 HA
      repeat still_step
      refine wpStill_nil ?_
      go_wp2
      go_roundw
      case rel => exact ⟨j1, by have := HJ1.out; omega, rfl, by rw [HJ1.out, HN.out]; exact HB.out.put j y⟩
      case measure => have := HJ1.out; simp [intOf]; omega
    · obtain rfl : j = 4 := by omega
      have c0 := at_ub_cell HA.out.a0 (i := 0) (by rw [hul, HL.out]; omega)
      rw [upd_lt k _ 4 0 (by omega)] at c0
      have f0 := HA.out.a0.frozen 0
      have HN := hid (nx_first k f)
      have hxx := b_xr 5 (nx0 k 0) f
      obtain ⟨y, hy⟩ : ∃ y, y = xr (nx0 k 0) f := ⟨_, rfl⟩
      obtain ⟨x0, hx0⟩ : ∃ x, x = nx0 k 0 := ⟨_, rfl⟩
      rw [← hy] at hxx HN
      rw [← hx0] at hxx c0
      clear hy hx0 hul
      go_wp2
      have H1 := hid (show Duo w (upd k (nx k f) 4) n16 (wr.setCell ⟨w.heap.size, 0, none⟩ (.int .u8 (y.toNat : Int))) by rw [← HN.out]; exact HA.out.put 0 y)
      generalize wr.setCell ⟨w.heap.size, 0, none⟩ (.int .u8 (y.toNat : Int)) = W1 at H1 ⊢
      clear HA c0 f0 HN
      rw [show ((4 : Nat) : Int) = 4 from rfl]
      go_loopw [33] (fun vi wr => ∃ j : Nat, j ≤ 12 ∧ vi = .int .i64 j ∧ Duo w (upd k (nx k f) (j + 4)) n16 wr) (fun vi _ => 12 - (intOf vi).toNat)
      case atStart => exact ⟨0, by omega, rfl, H1.out⟩
      case round =>
        clear H1
        obtain ⟨j, hj, rfl, hA⟩ := hrel
        have HA := hid hA
        clear hA
        have hul := upd_length k (nx k f) (j + 4) (by rw [HL.out]; omega)
        by_cases hlt : j < 12
        · obtain ⟨m, hm⟩ : ∃ m, m = j + 4 := ⟨_, rfl⟩
          have e1 : IntKind.i64.wrap ((j : Int) + 4) = (m : Int) := by rw [IntKind.wrap_i64] <;> omega
          have hml : m < 16 := by omega
          have hmi : (m : Int) < 16 := by omega
          have hj16 : (j : Int) < 16 := by omega
          have hmb : m < k.length := by rw [HL.out]; exact hml
          rw [← hm] at HA hul
          have c0 := at_ub_cell HA.out.a0 (i := m) (by rw [hul]; exact hmb)
          rw [upd_get k _ m m (Nat.le_refl _) hmb] at c0
          have c1 := at_ub_cell HA.out.a0 (i := j) (by rw [hul, HL.out]; omega)
          rw [upd_lt k _ m j (by omega)] at c1
          have f0 := HA.out.a0.frozen m
          have HN := hid (upd_succ k (nx k f) m hmb)
          have hF : xr (k.getD m 0) (nx k f j) = nx k f m := by rw [hm, nx_four]
          have hxx := b_xr 5 (k.getD m 0) (nx k f j)
          rw [hF] at hxx
          obtain ⟨y, hy⟩ : ∃ y, y = nx k f m := ⟨_, rfl⟩
          rw [← hy] at hxx HN
          obtain ⟨x0, hx0⟩ : ∃ x, x = k.getD m 0 := ⟨_, rfl⟩
          obtain ⟨x1, hx1⟩ : ∃ x, x = nx k f j := ⟨_, rfl⟩
          rw [← hx1] at c1 hxx
          rw [← hx0] at hxx c0
          have HM := hid hm
          clear hF hy hx0 hx1 hm hul hmb
          go_wp2
          refine wp_region_still_tail 9 (by kernel_rfl) (by kernel_rfl) ?_
          simp only [List.take_succ_cons, List.take_zero, List.drop_succ_cons, List.drop_zero]
          obtain ⟨W2, hW2⟩ : ∃ W2 : World, { wr with drawn := wr.drawn + 1 } = W2 := ⟨_, rfl⟩
          rw [hW2]
          have HB := hid (show Duo w (upd k (nx k f) m) n16 W2 by rw [← hW2]; exact HA.out.drewN 1)
          have d0 : W2.cell? ⟨w.heap.size, m, none⟩ = some (.int .u8 (x0.toNat : Int)) := by rw [← hW2]; exact c0
          have d1 : W2.cell? ⟨w.heap.size, j, none⟩ = some (.int .u8 (x1.toNat : Int)) := by rw [← hW2]; exact c1
          have d2 : W2.frozen? ⟨w.heap.size, m, none⟩ = false := by rw [← hW2]; exact f0
          clear hW2 c0 c1 f0 HA
          repeat still_step
          refine wpStill_nil ?_
          go_wp2
          go_roundw
          case rel => exact ⟨j + 1, by omega, by go_num, by rw [show j + 1 + 4 = m + 1 by have := HM.out; omega, HN.out]; exact HB.out.put m y⟩
          case measure => simp [intOf]; omega
        · obtain rfl : j = 12 := by omega
          have ha := HA.out
          rw [show 12 + 4 = 16 by rfl, upd_all k _ HL.out] at ha
          have HA2 := hid (show Duo w (nxL k f) n16 wr from ha)
          clear ha HA hul
          go_wp2_with (first
            | (refine wpList_load_row rfl _ (.tmp 3) rfl w.heap.size rfl 26 (ubs (nxL k f)).toArray (0, 0) _ HA2.out.a0 Try.underlying26 rfl HZ.out ?_)
            | (refine wpList_store_row rfl _ (.tmp 6) (.tmp 46) rfl (w.heap.size + 1) (ubs (nxL k f)).toArray rfl rfl 26 (ubs n16).toArray HA2.out.a1 HZ.out ?e5 (ubs_all _) ?e6; rotate_right))
          case e5 => simp [ubs_length, n16_length, HLN.out]
          refine bodyPost_ret (results_cell_row rfl _ _ (w.heap.size + 1) 26 (ubs (nxL k f)).toArray (0, 0) _ rfl (setRow_heap _ _ _ _ _ _ HA2.out.a1) Try.underlying26 rfl HZ.out) rfl ?_
          exact ⟨rfl, below_setRow HA2.out.below (by omega) _⟩
end Go.Proofs.Ytenlidbgllahhaa
