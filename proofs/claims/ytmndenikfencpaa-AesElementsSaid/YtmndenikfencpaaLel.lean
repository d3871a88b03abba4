/-
  AesElements, walked.
-/
import Derived.Test.YtmndenikfencpaaFa
import Derived.BigQuiet
import Derived.Deep.Cut
import Derived.Deep.QuietTactic
namespace Go.Proofs.Ytmndenikfencpaa
open Go.RowKit

theorem quiet_run {P : Program} {C : World → Prop} {a : Act} {o : Oper} {K : Act → Prop} {v : Value} (h : ∀ w, (execOp a.eval o).run P w = .ok (.value v) w) (hk : K (a.put o.dst v)) : o.quiet P a C K :=
  ⟨v, fun w _ => by unfold Oper.quietAt; rw [h]; exact ⟨rfl, rfl⟩, hk⟩
set_option maxRecDepth 100000 in
set_option maxHeartbeats 1000000 in
theorem elements_law (a b : UInt8) (w : World) :
    Calls Try.prog 3 #[.int .u8 (a.toNat : Int), .int .u8 (b.toNat : Int)] w fun e w' => e = .returned (.bool true) ∧ Below w.heap.size w w' := by
  have HA := hid (alive_any w)
  have P1 := fun W => pproduct_any a b W
  have P2 := fun W => product_any a b W
  have I1 := fun W => pinverse_any a W
  have I2 := fun W => inverse_any a W
  have S1 := fun W => psub_any a W
  have S2 := fun W => subR_any a W
  rw [sub_sT] at S2
  obtain ⟨p, hp⟩ : ∃ x, x = prod a b := ⟨_, rfl⟩
  obtain ⟨i, hi⟩ : ∃ x, x = inv a := ⟨_, rfl⟩
  rw [← hp] at P1 P2
  rw [← hi] at I1 I2
  replace P1 := hid P1
  replace P2 := hid P2
  replace I1 := hid I1
  replace I2 := hid I2
  replace S1 := hid S1
  replace S2 := hid S2
  clear hp hi
  go_enter Try.func3, Try.ntmps3
  go_upto_region 3 with (go_at_call 7; refine HA.out.mono ?_; rintro e w' ⟨rfl, hw⟩; rw [hw])
  refine wp_region_quiet_lit (by kernel_rfl) (by kernel_rfl) ?_
  repeat (quiet_step (first
    | (go_at_call 8; exact Calls.quiet_of_same (P1.out _))
    | (go_at_call 9; exact Calls.quiet_of_same (P2.out _))
    | (go_at_call 10; exact Calls.quiet_of_same (I1.out _))
    | (go_at_call 11; exact Calls.quiet_of_same (I2.out _))
    | (go_at_call 12; exact Calls.quiet_of_same (S1.out _))
    | (go_at_call 13; exact Calls.quiet_of_same (S2.out _))))
  refine BigFrame.wpQuiet_want (by rfl) (fun K hK => ?_)
  refine quiet_run (v := .int .u8 ((sT a).toNat : Int)) (fun W => run_sT _ (.tmp 29) rfl (by kernel_rfl) a rfl) (hK _ ?_)
  clear hK K
  simp only [Act.put, List.setIfInBounds_toArray, List.set_cons_succ, List.set_cons_zero]
  repeat (quiet_step (first
    | (go_at_call 8; exact Calls.quiet_of_same (P1.out _))
    | (go_at_call 9; exact Calls.quiet_of_same (P2.out _))
    | (go_at_call 10; exact Calls.quiet_of_same (I1.out _))
    | (go_at_call 11; exact Calls.quiet_of_same (I2.out _))
    | (go_at_call 12; exact Calls.quiet_of_same (S1.out _))
    | (go_at_call 13; exact Calls.quiet_of_same (S2.out _))))
  refine wpQuiet_nil ?_
  intro _ hw'
  obtain ⟨nq, hw''⟩ := hw'
  subst hw''
  go_wp2
  go_ret
  exact ⟨rfl, below_drewN (Below.refl _ _) _⟩
end Go.Proofs.Ytmndenikfencpaa
