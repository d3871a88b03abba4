/-
  The program's padding, walked.
-/
import Derived.Test.YtjfpdbhjbleffaaDoorCm
import Derived.Test.YtjfpdbhjbleffaaDoorMk
import Derived.Test.YtjfpdbhjbleffaaDoorPd
namespace Go.Proofs.YtjfpdbhjbleffaaDoor
open Go.RowKit

set_option maxRecDepth 100000 in
set_option maxHeartbeats 4000000 in
theorem pad_any (bs : List UInt8) (A : Option Addr) (c : Nat) (w : World) (hr : Rb w w.heap.size A bs) (hlen : bs.length ≤ 140737488351232) :
    Calls Tryd.prog 43 #[.slice A bs.length c] w fun e w' => ∃ g n, e = .returned (.slice (some ⟨g, 0, none⟩) n n) ∧ n = (padL bs).length ∧ At w' g (ubs (padL bs)).toArray 5 ∧ w.heap.size ≤ g ∧ Below w.heap.size w w' := by
  obtain ⟨n, hn⟩ : ∃ n, n = (padL bs).length := ⟨_, rfl⟩
  obtain ⟨L, hL⟩ : ∃ L, L = bs.length := ⟨_, rfl⟩
  have hnL := padL_length bs
  rw [← hn, ← hL] at hnL
  have hmk := run_makeB n (by omega)
  have hm : ((L : Int) + 8) / 64 * 64 + 64 = (n : Int) := by omega
  have hat0 : At (w.alloc (.cells (ubs (List.replicate n 0)).toArray 5)) w.heap.size (ubs (List.replicate n 0)).toArray 5 := At.new _ _ _
  have HR := hid (hr.alloc (.cells (ubs (List.replicate n 0)).toArray 5))
  have HA := hid hat0
  have HX := hid (fun (w1 : World) (h1 : At w1 w.heap.size (splice (ubs (List.replicate n 0)) 0 ((ubs bs).take n)).toArray 5) => by
    rw [List.take_of_length_le (by rw [ubs_length]; omega), hn, pd_start] at h1
    exact h1)
  have HS := hid (pd_zero bs)
  have HN := hid hn
  have HL := hid hL
  have HNL := hid hnL
  have HF := hid (fun (w1 : World) (h : Fr (fun k => k = w.heap.size) (w.alloc (.cells (ubs (List.replicate n 0)).toArray 5)) w1) => (((Fr.refl (fun _ => False) w).alloc _).next h (fun k hk he => by omega)).below (B := w.heap.size) (fun _ h => h.elim) (Nat.le_refl _))
  have l1 : L + 9 ≤ n := by omega
  have l2 : n ≤ 140737488351400 := by omega
  have HLn := hid (show (bs ++ 0 :: List.replicate ((padL bs).length - bs.length - 1) 0).length = n by simp; omega)
  rw [← hL] at hlen ⊢
  clear hr hn hL hnL hat0
  go_enter Tryd.func43, Tryd.ntmps43
  go_wp2_with (refine wpList_copy_rd rfl (.tmp 12) (.tmp 13) _ _ rfl 5 Tryd.underlying41 sizeU8 w.heap.size 0 n n w.heap.size A L c rfl rfl (ubs (List.replicate n 0)) 5 HA.out (ubs bs) HR.out ?c1 ?c2 (ubs_one _) ?c3; rotate_right; intro w1 hg1 hf1; replace hg1 := hid (HX.out w1 hg1); replace hf1 := hid (HF.out w1 hf1); have cL := at_ub_cell hg1.out (i := L) (by rw [HLn.out]; omega); have fL := hg1.out.frozen L)
  case c1 => rw [ubs_length, ← HL.out]
  case c2 => simp [ubs_length]; omega
  clear cL fL hm hmk
  go_loopw [19] (fun i wr => ∃ k : Nat, k ≤ 8 ∧ i = .int .i64 k ∧ At wr w.heap.size (ubs (pd bs k)).toArray 5 ∧ Below w.heap.size w wr) (fun i _ => 8 - (intOf i).toNat)
  case atStart =>
    refine ⟨0, by omega, rfl, ?_, hf1.out.setCell (by simp) _⟩
    have := at_ub_put hg1.out L 128
    rw [HL.out, HS.out] at this
    rw [HL.out]
    exact this
  case round =>
    clear HX HF hg1 hf1 HA HR HLn HS
    obtain ⟨k, hk, rfl, hA, hB⟩ := hrel
    have HA := hid hA
    have HB := hid hB
    clear hA hB
    by_cases hlt : k < 8
    · have cL := at_ub_cell HA.out (i := n - 1 - k) (by rw [pd_length _ _ hk, ← HN.out]; omega)
      have fL := HA.out.frozen (n - 1 - k)
      have HP := hid (pd_step bs k hlt)
      go_wp2
      go_roundw
      case rel =>
        refine ⟨k + 1, by omega, by go_num, ?_, HB.out.setCell (by simp) _⟩
        have h8 : ((8 * L : Nat) : Int) = 8 * (L : Int) := by omega
        rw [← h8, shr_byte, HL.out, HP.out, HN.out]
        exact at_ub_put HA.out _ _
      case measure => simp [intOf]; omega
    · obtain rfl : k = 8 := by omega
      have HE := hid (pd_all bs)
      go_wp2
      go_ret
      refine ⟨w.heap.size, n, rfl, HN.out, ?_, Nat.le_refl _, HB.out⟩
      have := HA.out
      rw [HE.out] at this
      exact this
end Go.Proofs.YtjfpdbhjbleffaaDoor
