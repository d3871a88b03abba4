/-
  The statements' own fixed fact: the hash of abc.
-/
import Derived.Test.YtobehmjmmnmflaaDoorSm
import Derived.Lib.SlBytesConst
namespace Go.Proofs.YtobehmjmmnmflaaDoor
open Go.RowKit

def abc : List UInt8 := [97, 98, 99]
theorem abc_get (i : Nat) (h : i < 4) : (ubs (hashL abc))[i]? = some (.int .u8 (([0xba, 0x78, 0x16, 0xbf] : List UInt8)[i].toNat : Int)) := by
  have h4 : (hashL abc)[i]? = (([0xba, 0x78, 0x16, 0xbf] : List UInt8))[i]? := by
    rw [← hash_abc, List.getElem?_take, if_pos h]
    rfl
  rw [ubs_get, h4, List.getElem?_eq_getElem (by simpa using h)]
  rfl
set_option maxRecDepth 100000 in
set_option maxHeartbeats 4000000 in
theorem alive_any (w : World) (hT : Tabs w) :
    Calls Tryd.prog 8 #[] w fun e w' => e = .returned (.bool true) ∧ Below w.heap.size w w' := by
  obtain ⟨W0, hW0⟩ : ∃ W0, W0 = w.alloc (.cells #[.int .u8 97, .int .u8 98, .int .u8 99] 5 (3, 4)) := ⟨_, rfl⟩
  have hb0 : Below w.heap.size w W0 := by rw [hW0]; exact (Below.refl _ _).alloc (Nat.le_refl _) _
  have hr0 : Rb W0 W0.heap.size (some ⟨w.heap.size, 0, none⟩) abc := by
    rw [hW0]
    refine fun _ => ⟨_, 0, rfl, by simp, fun j u hj => ?_⟩
    rw [cell_of_row _ w.heap.size (0 + j) #[.int .u8 97, .int .u8 98, .int .u8 99] 5 (3, 4) (heap_alloc_new _ _), Nat.zero_add]
    simpa [ubs, ub, abc] using hj
  have HR := hid hr0
  have HT := hid (hT.below hb0)
  have HB := hid hb0
  have HL := hid (show (Tryd.prog.info? 36).map (·.size) = some (ubs (hashL abc)).toArray.size by rw [sizeH]; simp [ubs_length, hashL_length])
  have HN := hid (hashL_length abc)
  have G := hid (fun (w1 : World) (i : Nat) (h : i < 4) => show ((w1.alloc (.cells (ubs n32).toArray 36)).setRow w1.heap.size (ubs (hashL abc)).toArray).cell? ⟨w1.heap.size, i, none⟩ = some (.int .u8 (([0xba, 0x78, 0x16, 0xbf] : List UInt8)[i].toNat : Int)) by
    have h1 : At ((w1.alloc (.cells (ubs n32).toArray 36)).setRow w1.heap.size (ubs (hashL abc)).toArray) w1.heap.size (ubs (hashL abc)).toArray 36 := setRow_heap _ _ (ubs n32).toArray _ _ _ (At.new _ _ _)
    rw [h1.cell i, List.getElem?_toArray, abc_get i h])
  clear hb0 hr0 hT
  have kc := fun (w : World) (C : Array Value) (n c : Nat) => Lib.run_convert_bytes_const (P := Tryd.prog) w 34 5 C n c Tryd.underlying34 Tryd.underlying5
  have hz2 := noughts32
  subst hW0
  go_enter Tryd.func8, Tryd.ntmps8
  go_wp2_with (first
    | (go_at_call 22; refine (sum_any abc (some ⟨w.heap.size, 0, none⟩) 3 _ HR.out (by simp [abc]) HT.out).mono ?_; rintro e w1 ⟨rfl, hb1⟩; have HB1 := hid hb1; clear hb1)
    | (refine wpList_store_row rfl _ (.tmp 1) (.tmp 4) rfl w1.heap.size (ubs (hashL abc)).toArray rfl rfl 36 (ubs n32).toArray (heap_alloc_new _ _) HL.out ?e5 (ubs_all _) ?e6; rotate_right; have g0 := G.out w1 0 (by omega); have g1 := G.out w1 1 (by omega); have g2 := G.out w1 2 (by omega); have g3 := G.out w1 3 (by omega); simp at g0 g1 g2 g3))
  case e5 => simp [ubs_length, n32_length, HN.out]
  go_ret
  exact ⟨rfl, below_setRow ((HB.out.trans (HB1.out.mono HB.out.size)).alloc (by have := HB1.out.size; simp at this; omega) _) (by have := HB1.out.size; simp at this; omega) _⟩
end Go.Proofs.YtobehmjmmnmflaaDoor
