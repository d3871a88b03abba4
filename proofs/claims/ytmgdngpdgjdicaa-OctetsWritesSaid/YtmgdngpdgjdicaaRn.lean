/-
  The document's own writer: numbers.
-/
import Derived.Test.YtmgdngpdgjdicaaRf
namespace Go.Proofs.Ytmgdngpdgjdicaa
open Go.RowKit

theorem fits_yes (n s : Nat) (hs : Sz s) (hn : n < 256 ^ s) (w : World) : Calls Try.prog 41 #[.int .u64 n, .int .i64 s] w fun e w' => e = .returned (.bool true) ∧ w = w' := by
  rcases hs with rfl | rfl | rfl | rfl
  all_goals
    go_enter Try.func41, Try.ntmps41
    go_wp2
    refine wp_loop_rounds 9 ?_
    repeat (rw [rounds_succ]; go_wp2)
    go_ret
    refine ⟨?_, rfl⟩
    show Ending.returned (.bool _) = _
    congr 2
    simp
    omega
theorem fits_no (n : Nat) (s : Int) (h64 : n < 18446744073709551616) (h : ∀ k : Nat, Sz k → s = k → 256 ^ k ≤ n) (w : World) : Calls Try.prog 41 #[.int .u64 n, .int .i64 s] w fun e w' => e = .returned (.bool false) ∧ w = w' := by
  by_cases hz : s = 1 ∨ s = 2 ∨ s = 4 ∨ s = 8
  · obtain ⟨k, hk, rfl⟩ : ∃ k : Nat, Sz k ∧ s = k := by
      rcases hz with rfl | rfl | rfl | rfl
      · exact ⟨1, .inl rfl, rfl⟩
      · exact ⟨2, .inr (.inl rfl), rfl⟩
      · exact ⟨4, .inr (.inr (.inl rfl)), rfl⟩
      · exact ⟨8, .inr (.inr (.inr rfl)), rfl⟩
    have hn := h k hk rfl
    clear h hz
    rcases hk with rfl | rfl | rfl | rfl
    all_goals
      go_enter Try.func41, Try.ntmps41
      go_wp2
      refine wp_loop_rounds 9 ?_
      repeat (rw [rounds_succ]; go_wp2)
      go_ret
      refine ⟨?_, rfl⟩
      show Ending.returned (.bool _) = _
      congr 2
      simp
      omega
  · have h1 : (s != 1) = true := by simp; omega
    have h2 : (s != 2) = true := by simp; omega
    have h4 : (s != 4) = true := by simp; omega
    have h8 : (s != 8) = true := by simp; omega
    clear h hz
    go_enter Try.func41, Try.ntmps41
    go_wp2
    go_ret
    exact ⟨rfl, rfl⟩
def NumberOut (bs : List UInt8) (w : World) (x : Value) (w' : World) : Prop := ∃ A c, x = .slice A bs.length c ∧ Rb w' w'.heap.size A bs ∧ (∀ b o, A = some ⟨b, o, none⟩ → w.heap.size ≤ b) ∧ Below w.heap.size w w'
set_option maxHeartbeats 1000000 in
theorem number_any (n s : Nat) (hs : Sz s) (hn : n < 256 ^ s) (w : World) : Calls Try.prog 42 #[.int .u64 n, .int .i64 s] w fun e w' => ∃ x, e = .returned x ∧ NumberOut (be n s) w x w' := by
  unfold NumberOut
  simp only [be_length]
  rcases hs with rfl | rfl | rfl | rfl
  · have hmk : ∀ w : World, (Instr.makeSlice 30 (.int .i64 1) (.int .i64 1)).run Try.prog w = .ok (.slice (some ⟨w.heap.size, 0, none⟩) 1 1) (w.alloc (.cells #[.int .u8 0] 5)) := fun _ => by kernel_rfl
    go_enter Try.func42, Try.ntmps42
    go_wp2
    refine wp_loop_rounds 9 ?_
    repeat (rw [rounds_succ]; go_wp2)
    go_ret
    refine ⟨_, rfl, some ⟨w.heap.size, 0, none⟩, 1, rfl, ?_, (fun b o e => by cases e; exact Nat.le_refl _), (Below.refl _ _).alloc (Nat.le_refl _) _⟩
    refine Rd.of_drop (At.new _ _ _) 0 ?_ (by simp)
    simp [be, ubs, ub, List.range_succ]
    all_goals omega
  · have hmk : ∀ w : World, (Instr.makeSlice 30 (.int .i64 2) (.int .i64 2)).run Try.prog w = .ok (.slice (some ⟨w.heap.size, 0, none⟩) 2 2) (w.alloc (.cells #[.int .u8 0, .int .u8 0] 5)) := fun _ => by kernel_rfl
    go_enter Try.func42, Try.ntmps42
    go_wp2
    refine wp_loop_rounds 9 ?_
    repeat (rw [rounds_succ]; go_wp2)
    go_ret
    refine ⟨_, rfl, some ⟨w.heap.size, 0, none⟩, 2, rfl, ?_, (fun b o e => by cases e; exact Nat.le_refl _), (Below.refl _ _).alloc (Nat.le_refl _) _⟩
    refine Rd.of_drop (At.new _ _ _) 0 ?_ (by simp)
    simp [be, ubs, ub, List.range_succ]
    all_goals omega
  · have hmk : ∀ w : World, (Instr.makeSlice 30 (.int .i64 4) (.int .i64 4)).run Try.prog w = .ok (.slice (some ⟨w.heap.size, 0, none⟩) 4 4) (w.alloc (.cells #[.int .u8 0, .int .u8 0, .int .u8 0, .int .u8 0] 5)) := fun _ => by kernel_rfl
    go_enter Try.func42, Try.ntmps42
    go_wp2
    refine wp_loop_rounds 9 ?_
    repeat (rw [rounds_succ]; go_wp2)
    go_ret
    refine ⟨_, rfl, some ⟨w.heap.size, 0, none⟩, 4, rfl, ?_, (fun b o e => by cases e; exact Nat.le_refl _), (Below.refl _ _).alloc (Nat.le_refl _) _⟩
    refine Rd.of_drop (At.new _ _ _) 0 ?_ (by simp)
    simp [be, ubs, ub, List.range_succ]
    all_goals omega
  · have hmk : ∀ w : World, (Instr.makeSlice 30 (.int .i64 8) (.int .i64 8)).run Try.prog w = .ok (.slice (some ⟨w.heap.size, 0, none⟩) 8 8) (w.alloc (.cells #[.int .u8 0, .int .u8 0, .int .u8 0, .int .u8 0, .int .u8 0, .int .u8 0, .int .u8 0, .int .u8 0] 5)) := fun _ => by kernel_rfl
    go_enter Try.func42, Try.ntmps42
    go_wp2
    refine wp_loop_rounds 9 ?_
    repeat (rw [rounds_succ]; go_wp2)
    go_ret
    refine ⟨_, rfl, some ⟨w.heap.size, 0, none⟩, 8, rfl, ?_, (fun b o e => by cases e; exact Nat.le_refl _), (Below.refl _ _).alloc (Nat.le_refl _) _⟩
    refine Rd.of_drop (At.new _ _ _) 0 ?_ (by simp)
    simp [be, ubs, ub, List.range_succ]
    all_goals omega
end Go.Proofs.Ytmgdngpdgjdicaa
