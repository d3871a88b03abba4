/-
  The statements' own fixed fact: the tag of the empty text with the empty key.
-/
import Derived.Test.YtobehmjmmnmflaaDoorHg
namespace Go.Proofs.YtobehmjmmnmflaaDoor
open Go.RowKit

theorem mac_empty : (macL [] []).take 4 = [0xb6, 0x13, 0x67, 0x9a] := by decide +kernel
theorem macE_get (i : Nat) (h : i < 4) : (ubs (macL [] []))[i]? = some (.int .u8 (([0xb6, 0x13, 0x67, 0x9a] : List UInt8)[i].toNat : Int)) := by
  have h4 : (macL [] [])[i]? = (([0xb6, 0x13, 0x67, 0x9a] : List UInt8))[i]? := by
    rw [← mac_empty, List.getElem?_take, if_pos h]
  rw [ubs_get, h4, List.getElem?_eq_getElem (by simpa using h)]
  rfl
set_option maxRecDepth 100000 in
set_option maxHeartbeats 4000000 in
theorem alive3_any (w : World) (hT : Tabs w) :
    Calls Tryd.prog 13 #[] w fun e w' => e = .returned (.bool true) ∧ Below w.heap.size w w' := by
  have hm := mac_any [] none 0 [] none 0 w (Rd.nil _ _ _) (Rd.nil _ _ _) (by simp) (by simp) (by rw [joined_none]; simp) (by simp) hT
  rw [joined_none] at hm
  have HM := hid hm
  obtain ⟨m, hm0⟩ : ∃ m, m = macL [] [] := ⟨_, rfl⟩
  have HML := hid (show m.length = 32 by rw [hm0, macL_length])
  have HS := hid (show (Tryd.prog.info? 36).map (·.size) = some (ubs m).toArray.size by rw [sizeH]; simp [ubs_length, HML.out])
  have G := hid (fun (w1 : World) (i : Nat) (h : i < 4) => show ((w1.alloc (.cells (ubs n32).toArray 36)).setRow w1.heap.size (ubs m).toArray).cell? ⟨w1.heap.size, i, none⟩ = some (.int .u8 (([0xb6, 0x13, 0x67, 0x9a] : List UInt8)[i].toNat : Int)) by
    rw [(stored_at w1 m).cell i, List.getElem?_toArray, hm0, macE_get i h])
  rw [← hm0] at HM
  have hz32 := noughts32
  clear hm hm0 hT
  go_enter Tryd.func13, Tryd.ntmps13
  go_wp2_with (first
    | (go_at_call 16; refine HM.out.mono ?_; rintro e w1 ⟨rfl, hb1⟩; have B1 := hid (hb1.trans ((stored_below w1 m).mono hb1.size)); clear hb1)
    | (refine wpList_store_row rfl _ (.tmp 1) (.tmp 2) rfl w1.heap.size (ubs m).toArray rfl rfl 36 (ubs n32).toArray (heap_alloc_new _ _) HS.out ?e5 (ubs_all _) ?e6; rotate_right; have g0 := G.out w1 0 (by omega); have g1 := G.out w1 1 (by omega); have g2 := G.out w1 2 (by omega); have g3 := G.out w1 3 (by omega); simp at g0 g1 g2 g3; generalize ((w1.alloc (.cells (ubs n32).toArray 36)).setRow w1.heap.size (ubs m).toArray) = W2 at B1 g0 g1 g2 g3 ⊢)
    | (go_at_call 21; refine (same_any [1] [1] (some ⟨W2.heap.size, 0, none⟩) (some ⟨W2.heap.size + 1, 0, none⟩) 1 1 _ ?k1 ?k2 (by simp) (by simp)).mono ?_; rotate_right; rintro e w3 ⟨rfl, rfl⟩))
  case e5 => simp [ubs_length, n32_length, HML.out]
  case k1 =>
    refine Rd.mono (Rd.alloc (rb_one W2 1) _) ?_
    simp
  case k2 =>
    have h := rb_one (W2.alloc (.cells #[.int .u8 1] 5)) 1
    rw [show (W2.alloc (.cells #[.int .u8 1] 5)).heap.size = W2.heap.size + 1 by simp] at h
    refine Rd.mono h ?_
    simp
  go_ret
  exact ⟨rfl, (B1.out.alloc B1.out.size _).alloc (by have := B1.out.size; simp; omega) _⟩
end Go.Proofs.YtobehmjmmnmflaaDoor
