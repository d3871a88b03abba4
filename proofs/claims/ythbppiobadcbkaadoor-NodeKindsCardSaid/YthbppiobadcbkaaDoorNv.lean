/-
  alive of layer 8, over what Empty is to answer.
-/
import Derived.Test.YthbppiobadcbkaaDoorNl0
import Derived.Test.YthbppiobadcbkaaDoorNc
namespace Go.Proofs.YthbppiobadcbkaaDoor
open Go.RowKit

set_option maxRecDepth 100000 in
set_option maxHeartbeats 1000000 in
theorem alive8_any (w : World) (hEM : EmptyC w) : Alive8C w := by
  intro W0 hW0
  have HEM := hid (show Calls Tryd.prog 18 #[.int .i64 0] W0 (fun e w' => e = .returned (.tuple #[.agg (ubs (emptyL 0)).toArray, .nilIface]) ∧ Below W0.heap.size W0 w') from hEM W0 0 hW0 (by omega) (by omega))
  have HL := hid (emptyL_length 0)
  have hz := zero_hash
  rw [← emptyL_zero] at hz
  have g : ∀ k, k < 4 → (emptyL 0).getD k 0 = ([110, 52, 11, 156] : List UInt8).getD k 0 := fun k hk => by
    rw [← hz, List.getD_eq_getElem?_getD, List.getD_eq_getElem?_getD, List.getElem?_take_of_lt hk]
  have g0 := hid (show ((emptyL 0).getD 0 0).toNat = 110 by rw [g 0 (by omega)]; rfl)
  have g1 := hid (show ((emptyL 0).getD 1 0).toNat = 52 by rw [g 1 (by omega)]; rfl)
  have g2 := hid (show ((emptyL 0).getD 2 0).toNat = 11 by rw [g 2 (by omega)]; rfl)
  have g3 := hid (show ((emptyL 0).getD 3 0).toNat = 156 by rw [g 3 (by omega)]; rfl)
  have HAH := hid (fun (o : Oper) (a : Go.Act) (W : World) (h : o.op = .alloc 29) => run_alloc_of (o := o) (a := a) (W := W) _ h _ zeroH8)
  generalize emptyL 0 = e0 at HEM HL g0 g1 g2 g3
  clear hEM hW0 hz g
  go_enter Tryd.func7, Tryd.ntmps7
  go_wp2_with (first
    | (go_at_call 18; refine HEM.out.mono ?_; rintro r1 w1 ⟨rfl, hb1⟩; have B1 := hid hb1; clear hb1)
    | (refine Great.wpList_allocTo rfl _ rfl _ _ (HAH.out _ _ _ rfl) ?_)
    | (refine wpList_store_row rfl _ (.tmp 1) (.tmp 5) rfl w1.heap.size (ubs e0).toArray rfl rfl 29 (ubs n32).toArray (heap_alloc_new _ _) (sizeH_of HL.out) ?e5 (ubs_all _) ?e6; rotate_right; have A2 := hid (stored_at w1 e0); have B2 := hid (B1.out.trans ((stored_below w1 e0).mono B1.out.size)); have c0 := at_ub_cell A2.out (i := 0) (by rw [HL.out]; omega); have c1 := at_ub_cell A2.out (i := 1) (by rw [HL.out]; omega); have c2 := at_ub_cell A2.out (i := 2) (by rw [HL.out]; omega); have c3 := at_ub_cell A2.out (i := 3) (by rw [HL.out]; omega); rw [g0.out] at c0; rw [g1.out] at c1; rw [g2.out] at c2; rw [g3.out] at c3; generalize ((w1.alloc (.cells (ubs n32).toArray 29)).setRow w1.heap.size (ubs e0).toArray) = w2 at A2 B2 c0 c1 c2 c3 ⊢; generalize w1.heap.size = H at A2 c0 c1 c2 c3 ⊢))
  case e5 => simp [ubs_length, n32_length, HL.out]
  go_ret
  exact ⟨rfl, B2.out⟩
end Go.Proofs.YthbppiobadcbkaaDoor
