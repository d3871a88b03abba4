/-
  The statement's own function 'alive': the chapter's example.
-/
import Derived.Test.YtmgdngpdgjdicaaR4
namespace Go.Proofs.Ytmgdngpdgjdicaa
open Go.RowKit

theorem strB : Try.prog.underlying 9 = some .string := Try.underlying9
theorem convert_any {w : World} {B : Nat} {A : Option Addr} {bs : List UInt8} (h : Rb w B A bs) (c : Nat) : (convert 30 9 (.slice A bs.length c)).run Try.prog w = .ok (.string ⟨bs.toArray⟩) w :=
  run_convert_rb _ _ 5 Try.underlying30 Try.underlying5 strB h c

theorem WI.wt {w : World} {base p k : Nat} {v : Value} {bs : List UInt8} (h : WI w base p k v bs) {g : Nat} (hg : Wt p v g) : base ≤ g := by
  rcases hg with rfl | hg
  · exact h.low
  · exact (World.ownsRow.lt h.own g hg).1
theorem exBytes : wput 0 (wput 0 [] (be 258 2)) (flagB true) = [1, 2, 1] := by decide
theorem exNum : val ([1, 2, 1].take 2) = 258 := by decide
set_option maxHeartbeats 1000000 in
theorem alive_any (w : World) : Calls Try.prog 7 #[] w fun e w' => e = .returned (.bool true) ∧ Below w.heap.size w w' := by
  have h0 : WI (w.alloc (.cells #[.nilIface, .slice none 0 0] 32)) w.heap.size w.heap.size 0 (.slice none 0 0) [] :=
    ⟨At.new _ _ _, World.ownsRow_nil _ _ _ _, Nat.le_refl _⟩
  have H0 := hid (num_fit _ _ _ _ _ 258 2 (.inr (.inl rfl)) (by omega) _ h0 (by simp) (by simp))
  clear h0
  have he0 := errV_zero
  go_enter Try.func7, Try.ntmps7
  go_wp2_with (first
    | (go_at_call 9; refine H0.out.mono ?_; rintro e w1 ⟨x, rfl, rfl, v1, hi1, hf1, ho1⟩; replace hi1 := hid hi1; replace hf1 := hid hf1; clear ho1)
    | (go_at_call 17; refine (flag_any _ _ _ _ _ true w1 hi1.out (by have := hf1.out.size; simp at this; omega) (by simp [wput, be])).mono ?_; rintro e w2 ⟨x, rfl, rfl, v2, hi2, hf2, ho2⟩; replace hi2 := hid hi2; replace hf2 := hid hf2; clear ho2)
    | (go_at_call 19; have D := done_good _ _ _ _ w2 hi2.out (by simp [wput, be, flagB]); rw [exBytes] at D; refine D.mono ?_; clear D; rintro e w3 ⟨x, rfl, hx3⟩; obtain ⟨A3, c3, rfl, -⟩ := own_form hx3.1; replace hx3 := hid hx3)
    | (go_at_call 23; refine (from_any [1, 2, 1] (some ⟨w3.heap.size, 0, none⟩) 3 _ (Rd.of_drop (At.new _ _ _) 0 rfl (by simp)) (by simp)).mono ?_; rintro e w4 ⟨p4, rfl, hp4, hr4, hb4⟩; have hcv : (convert 30 9 (.slice A3 3 c3)).run Try.prog w4 = .ok (.string ⟨#[1, 2, 1]⟩) w4 := convert_any (((Rd.of_own hx3.out.1).below (((Below.refl _ _).alloc (Nat.le_refl _) (.cells #[.int .u8 1, .int .u8 2, .int .u8 1] 5)).trans (hb4.mono (by simp))) : Rb w4 w3.heap.size A3 [1, 2, 1])) c3; replace hp4 := hid hp4; replace hr4 := hid hr4; replace hb4 := hid hb4)
    | (go_at_call 25; have D := rnum_good _ _ _ _ 2 (.inr (.inl rfl)) w4 hr4.out (by simp); rw [exNum] at D; refine D.mono ?_; clear D; rintro e w5 ⟨x, rfl, rfl, hr5, hf5⟩; replace hr5 := hid hr5; replace hf5 := hid hf5)
    | (go_at_call 33; refine (rflag_good _ _ _ 1 [] w5 hr5.out (by decide)).mono ?_; rintro e w6 ⟨x, rfl, rfl, hr6, hf6⟩; replace hr6 := hid hr6; replace hf6 := hid hf6)
    | (go_at_call 37; refine (end_done _ _ _ w6 hr6.out).mono ?_; rintro e w7 ⟨rfl, rfl⟩))
  go_ret
  refine ⟨rfl, ?_⟩
  have f0 : Fr (fun _ => False) w (w.alloc (.cells #[.nilIface, .slice none 0 0] 32)) := (Fr.refl _ _).alloc _
  have f1 := f0.next hf1.out (fun g hg h => by rcases h with h | h; omega; simp [Value.ownBlock] at h)
  have f2 := f1.next hf2.out (fun g hg h => by have := hi1.out.wt h; omega)
  have f3 := f2.trans (Fr.of_new hx3.out.2)
  have f4 := (f3.alloc (.cells #[.int .u8 1, .int .u8 2, .int .u8 1] 5)).trans (Fr.of_new hb4.out)
  have hp := hp4.out
  have h3 := f3.size
  have f5 := f4.next hf5.out (fun g hg h => by have : g = p4 := h; simp at hp; omega)
  have f6 := f5.next hf6.out (fun g hg h => by have : g = p4 := h; simp at hp; omega)
  exact f6.below (fun _ h => h.elim) (Nat.le_refl _)
end Go.Proofs.Ytmgdngpdgjdicaa
