/-
  Contracts of the writer's methods Hash and Done; the statement's own function 'hash'.
-/
import Derived.Test.YtjfpdbhjbleffaaDoorW2
import Derived.Laws.CopyOwn
namespace Go.Proofs.YtjfpdbhjbleffaaDoor
open Go.RowKit

/-- A hash as a value. -/
def hv (h : List UInt8) : Value := .agg (ubs h).toArray
/-- Done: the bytes anew, or the error. -/
theorem done_bad (base p k : Nat) (v : Value) (bs : List UInt8) (hk : k ≠ 0) (w : World) (hw : WI w base p k v bs) :
    Calls Tryd.prog 21 #[.pointer (some ⟨p, 0, none⟩)] w fun e w' => e = .returned (.tuple #[.slice none 0 0, errV k]) ∧ ∃ n, w' = w.drewN n := by
  have c0 := hw.at_.cell 0
  simp at c0
  have e := errV_pos hk
  rw [e] at c0 ⊢
  clear hw hk e
  go_enter Tryd.func21, Tryd.ntmps21
  go_wp2
  go_quiet (fail)
  go_wp2
  go_ret2
  exact ⟨rfl, _, rfl⟩
theorem done_nil (w : World) :
    Calls Tryd.prog 21 #[.pointer none] w fun e w' => e = .returned (.tuple #[.slice none 0 0, errV 11]) ∧ w = w' := by
  go_enter Tryd.func21, Tryd.ntmps21
  go_wp2
  go_ret2
  exact ⟨rfl, rfl⟩
theorem done_good (base p : Nat) (v : Value) (bs : List UInt8) (w : World) (hw : WI w base p 0 v bs) (hl : bs.length ≤ 1000000000) :
    Calls Tryd.prog 21 #[.pointer (some ⟨p, 0, none⟩)] w fun e w' => ∃ x, e = .returned (.tuple #[x, errV 0]) ∧ CloneOut bs w x w' := by
  have c0 := hw.at_.cell 0
  have c1 := hw.at_.cell 1
  simp at c0 c1
  obtain ⟨A, c, rfl, hc, hm, hn, hA⟩ := own_form hw.own
  rw [errV_zero] at c0 ⊢
  have HC := hid (clone_any bs A c w (Rd.of_own hw.own) hl)
  clear hw hn hA
  go_enter Tryd.func21, Tryd.ntmps21
  go_wp2_with (go_at_call 29; refine HC.out.mono ?_; rintro e w' ⟨x, rfl, hx⟩; replace hx := hid hx)
  go_ret2
  exact ⟨_, rfl, hx.out⟩
end Go.Proofs.YtjfpdbhjbleffaaDoor
