/-
  More contracts of the writer's methods: Bytes, Flag, Hash, Done; a byte slice's clone.
-/
import Derived.Test.YtjfpdbhjbleffaaDoorWr
namespace Go.Proofs.YtjfpdbhjbleffaaDoor
open Go.RowKit

/-- slices.Clone: new memory, the same bytes. -/
def CloneOut (bs : List UInt8) (w : World) (x : Value) (w' : World) : Prop := Ow w' w.heap.size x bs ∧ Below w.heap.size w w'

set_option maxHeartbeats 400000 in
theorem clone_any (bs : List UInt8) (A : Option Addr) (c : Nat) (w : World) (hx : Rb w w.heap.size A bs) (hl : bs.length ≤ 1000000000) :
    Calls Tryd.prog 29 #[.slice A bs.length c] w fun e w' => ∃ x, e = .returned x ∧ CloneOut bs w x w' := by
  have HX := hid hx
  clear hx
  obtain ⟨i0, hi, hz0, hz1, hz2⟩ := info_parts infoB
  rcases A with _ | a
  · have hb : bs = [] := by
      rcases bs with _ | ⟨y, ys⟩
      · rfl
      · obtain ⟨_, _, h, _⟩ := HX.out (by simp [ubs])
        cases h
    subst hb
    clear HX
    have hq := fun w' : World => Lib.run_eql_slice_nil (P := Tryd.prog) w' 41 5 none 0 c 0 0 Tryd.underlying41
    go_enter Tryd.func29, Tryd.ntmps29
    go_wp2
    go_ret
    exact ⟨_, rfl, World.ownsRow_nil _ _ _ _, Below.refl _ _⟩
  · have hq := fun w' : World => Lib.run_eql_slice_nil (P := Tryd.prog) w' 41 5 (some a) bs.length c 0 0 Tryd.underlying41
    have HO : Hid ((w.alloc (.cells #[] 5)).ownsRow w.heap.size 5 1 (.slice (some ⟨w.heap.size, 0, none⟩) 0 0) 0 []) := hid (World.ownsRow_made w #[] 0 (Nat.le_refl _) (by simp [maxLen]) rfl)
    go_enter Tryd.func29, Tryd.ntmps29
    go_wp2_with (at_builtin; refine wpList_append_rd rfl (.tmp 5) (.tmp 6) _ rfl w.heap.size 5 i0 (.int .u8 0) 1 Tryd.underlying41 hi hz0 hz1 hz2 rfl _ 0 [] rfl HO.out w.heap.size (some a) bs.length c (ubs bs) rfl (ubs_length _) (HX.out.alloc _) (ubs_one _) (by unfold maxLen; omega) (by omega) (by simp) ?_; intro v' w1 hown hgr hat; replace hown := hid hown; replace hgr := hid hgr; replace hat := hid hat)
    go_ret
    refine ⟨_, rfl, ?_, ((Below.refl _ _).alloc (Nat.le_refl _) _).grown hgr.out (by simp) (fun k hk => by cases hk; exact Nat.le_refl _)⟩
    have := hown.out
    rw [Nat.zero_add, List.nil_append] at this
    exact this

/-- Flag. -/
theorem be_one (n : Nat) : be n 1 = [UInt8.ofNat n] := by simp [be, List.range_succ]
def flagB (b : Bool) : List UInt8 := [if b then 1 else 0]
end Go.Proofs.YtjfpdbhjbleffaaDoor
