/-
  Contracts of the writer's methods Hash and Done; the statement's own function 'hash'.
-/
import Derived.Test.YtmgdngpdgjdicaaW2
import Derived.Laws.CopyOwn
namespace Go.Proofs.Ytmgdngpdgjdicaa
open Go.RowKit

/-- A hash as a value. -/
def hv (h : List UInt8) : Value := .agg (ubs h).toArray
set_option maxHeartbeats 400000 in
theorem hash_any (base p k : Nat) (v : Value) (bs h : List UInt8) (hh : h.length = 32) (w : World) (hw : WI w base p k v bs) (hb : base ≤ w.heap.size) (hl : bs.length ≤ 900000000) :
    Calls Try.prog 16 #[.pointer (some ⟨p, 0, none⟩), hv h] w fun e w' => ∃ x, e = .returned x ∧ WOut base p k (wput k bs h) v w x w' := by
  have hf : Fr (fun _ => False) w (w.alloc (.cells (ubs h).toArray 44)) := (Fr.refl _ _).alloc _
  have HC := raw_any base p k v bs h (some ⟨w.heap.size, 0, none⟩) 32 (w.alloc (.cells (ubs h).toArray 44)) (hw.keep hf (fun _ _ => id)) (Rd.of_drop (At.new _ _ _) 0 (by simp) (by simp)) (by simp; omega) (by omega)
  rw [hh] at HC
  replace HC := hid HC
  have HF := hid hf
  clear hw hb hf
  unfold hv
  go_enter Try.func16, Try.ntmps16
  go_wp2_with (go_at_call 13; refine HC.out.mono ?_; rintro e w' ⟨x, rfl, hx⟩; replace hx := hid hx)
  go_ret
  exact ⟨_, rfl, hx.out.from HF.out⟩

/-- Done: the bytes anew, or the error. -/
theorem done_bad (base p k : Nat) (v : Value) (bs : List UInt8) (hk : k ≠ 0) (w : World) (hw : WI w base p k v bs) :
    Calls Try.prog 19 #[.pointer (some ⟨p, 0, none⟩)] w fun e w' => e = .returned (.tuple #[.slice none 0 0, errV k]) ∧ ∃ n, w' = w.drewN n := by
  have c0 := hw.at_.cell 0
  simp at c0
  have e := errV_pos hk
  rw [e] at c0 ⊢
  clear hw hk e
  go_enter Try.func19, Try.ntmps19
  go_wp2
  go_quiet (fail)
  go_wp2
  go_ret2
  exact ⟨rfl, _, rfl⟩
theorem done_nil (w : World) :
    Calls Try.prog 19 #[.pointer none] w fun e w' => e = .returned (.tuple #[.slice none 0 0, errV 11]) ∧ w = w' := by
  go_enter Try.func19, Try.ntmps19
  go_wp2
  go_ret2
  exact ⟨rfl, rfl⟩
theorem done_good (base p : Nat) (v : Value) (bs : List UInt8) (w : World) (hw : WI w base p 0 v bs) (hl : bs.length ≤ 1000000000) :
    Calls Try.prog 19 #[.pointer (some ⟨p, 0, none⟩)] w fun e w' => ∃ x, e = .returned (.tuple #[x, errV 0]) ∧ CloneOut bs w x w' := by
  have c0 := hw.at_.cell 0
  have c1 := hw.at_.cell 1
  simp at c0 c1
  obtain ⟨A, c, rfl, hc, hm, hn, hA⟩ := own_form hw.own
  rw [errV_zero] at c0 ⊢
  have HC := hid (clone_any bs A c w (Rd.of_own hw.own) hl)
  clear hw hn hA
  go_enter Try.func19, Try.ntmps19
  go_wp2_with (go_at_call 43; refine HC.out.mono ?_; rintro e w' ⟨x, rfl, hx⟩; replace hx := hid hx)
  go_ret2
  exact ⟨_, rfl, hx.out⟩
end Go.Proofs.Ytmgdngpdgjdicaa
