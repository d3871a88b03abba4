/-
  ShaRoots, walked.
-/
import Derived.Test.YtobehmjmmnmflaaDoorRt
namespace Go.Proofs.YtobehmjmmnmflaaDoor
open Go.RowKit

theorem tcs_all : ((List.range 64).all fun i => decide (PR.getD i 0 * 79228162514264337593543950336 < tc i * tc i * tc i)) = true := by decide +kernel
theorem tss_all : ((List.range 8).all fun i => decide (PR.getD i 0 * 18446744073709551616 < ts i * ts i)) = true := by decide +kernel
theorem tcs_ok {i : Nat} (h : i < 64) : prN i * 79228162514264337593543950336 < tc i * tc i * tc i := by
  have h1 := List.all_eq_true.1 tcs_all i (List.mem_range.2 h)
  unfold prN
  exact of_decide_eq_true h1
theorem tss_ok {i : Nat} (h : i < 8) : prN i * 18446744073709551616 < ts i * ts i := by
  have h1 := List.all_eq_true.1 tss_all i (List.mem_range.2 h)
  unfold prN
  exact of_decide_eq_true h1
theorem cube_root {i : Nat} (h : i < 64) (x : Nat) : decide (x ^ 3 ≤ prN i * 4294967296 ^ 3) = decide (x < tc i) := by
  obtain ⟨t1, _, t3, _, _⟩ := tc_ok h
  have t6 := tcs_ok h
  have e1 : x ^ 3 = x * x * x := by rw [Nat.pow_succ, Nat.pow_succ, Nat.pow_one]
  rw [Nat.div_lt_iff_lt_mul (by omega)] at t3
  rw [e1, Bool.eq_iff_iff, decide_eq_true_eq, decide_eq_true_eq]
  constructor
  · intro hx
    rcases Nat.lt_or_ge x (tc i) with hl | hl
    · exact hl
    · have := Nat.mul_le_mul (Nat.mul_le_mul hl hl) hl
      omega
  · intro hx
    have hle : x ≤ tc i - 1 := by omega
    have := Nat.mul_le_mul (Nat.mul_le_mul hle hle) hle
    omega
theorem square_root {i : Nat} (h : i < 8) (x : Nat) : decide (x ^ 2 ≤ prN i * 4294967296 ^ 2) = decide (x < ts i) := by
  obtain ⟨t1, _, t3, _, _⟩ := ts_ok h
  have t6 := tss_ok h
  have e1 : x ^ 2 = x * x := by rw [Nat.pow_succ, Nat.pow_one]
  rw [Nat.div_lt_iff_lt_mul (by omega)] at t3
  rw [e1, Bool.eq_iff_iff, decide_eq_true_eq, decide_eq_true_eq]
  constructor
  · intro hx
    rcases Nat.lt_or_ge x (ts i) with hl | hl
    · exact hl
    · have := Nat.mul_le_mul hl hl
      omega
  · intro hx
    have hle : x ≤ ts i - 1 := by omega
    have := Nat.mul_le_mul hle hle
    omega
theorem root3_any (i : Nat) (hi : i < 64) (w : World) :
    Calls Tryd.prog 12 #[uw (KT.getD i 0), .int .i64 (i : Int), .int .i64 3] w fun e w' => e = .returned (.bool true) ∧ Below w.heap.size w w' := by
  obtain ⟨t1, t2, _, _, t5⟩ := tc_ok hi
  exact rootR_any i 3 (tc i) (KT.getD i 0).toNat hi (by omega) (fun x _ => cube_root hi x) t1 t2 t5.symm w
theorem root2_any (i : Nat) (hi : i < 8) (w : World) :
    Calls Tryd.prog 12 #[uw (IV.l.getD i 0), .int .i64 (i : Int), .int .i64 2] w fun e w' => e = .returned (.bool true) ∧ Below w.heap.size w w' := by
  obtain ⟨t1, t2, _, _, t5⟩ := ts_ok hi
  exact rootR_any i 2 (ts i) (IV.l.getD i 0).toNat (by omega) (by omega) (fun x _ => square_root hi x) t1 t2 t5.symm w
theorem num_any (w : World) :
    Calls Tryd.prog 27 #[.iface 29 (.int .i64 1)] w fun e w' => e = .returned (.int .i64 1) ∧ w' = w := by
  have hta : ∀ w : World, (Instr.typeAssert (.iface 29 (.int .i64 1)) 25 29 true).run Tryd.prog w = .ok (.tuple #[.int .i64 1, .bool true]) w := fun _ => by kernel_rfl
  go_enter Tryd.func27, Tryd.ntmps27
  go_wp2
  go_ret
  exact ⟨rfl, rfl⟩
theorem is_any (w : World) :
    Calls Tryd.prog 11 #[.iface 29 (.int .i64 1), .int .i64 1] w fun e w' => e = .returned (.bool true) ∧ w' = w := by
  have HN := hid (num_any w)
  go_enter Tryd.func11, Tryd.ntmps11
  go_wp2_with (go_at_call 27; refine HN.out.mono ?_; rintro e w' ⟨rfl, hw⟩; rw [hw])
  go_ret
  exact ⟨rfl, rfl⟩
/-- Beside the tables the whole law's world. -/
structure LrW (w W : World) : Prop where
  below : Below w.heap.size w W
theorem LrW.next {w W W' : World} (h : LrW w W) (hb : Below W.heap.size W W') : LrW w W' := ⟨h.below.trans (hb.mono h.below.size)⟩
set_option maxRecDepth 100000 in
set_option maxHeartbeats 4000000 in
theorem roots_law (i : Int) (w : World) (hT : Tabs w) (hR : Tabr w) (hI : Tab w 1 IV.l) :
    Calls Tryd.prog 3 #[.int .i64 i] w fun e w' => e = .returned (.bool true) ∧ Below w.heap.size w w' := by
  have HA := hid (alive_any w hT)
  have HT := hid (fun W (h : LrW w W) => hT.below h.below)
  have HR := hid (fun W (h : LrW w W) => hR.below h.below)
  have HI := hid (fun W (h : LrW w W) => show Tab W 1 IV.l from Tab.below (x := IV.a) (xs := [IV.b, IV.c, IV.d, IV.e, IV.f, IV.g, IV.h]) hI h.below)
  have L0 := hid (show LrW w w from ⟨Below.refl _ _⟩)
  have KI := hid is_any
  clear hT hR hI
  by_cases h0 : i < 0
  · have C1 := hid (fun W => show Calls Tryd.prog 9 #[.int .i64 i] W (fun e w' => e = .returned (.tuple #[.int .u32 0, .iface 29 (.int .i64 1)]) ∧ Below W.heap.size W w') from constant_low i h0 W)
    have C2 := hid (fun W => show Calls Tryd.prog 10 #[.int .i64 i] W (fun e w' => e = .returned (.tuple #[.int .u32 0, .iface 29 (.int .i64 1)]) ∧ Below W.heap.size W w') from initial_low i h0 W)
    go_enter Tryd.func3, Tryd.ntmps3
    go_wp2_with (first
      | (go_at_call 8; refine HA.out.mono ?_; rintro e w1 ⟨rfl, hb1⟩; have L1 := hid (L0.out.next hb1); clear hb1)
      | (go_at_call 9; refine (C1.out w1).mono ?_; rintro e w2 ⟨rfl, hb2⟩; have L2 := hid (L1.out.next hb2); clear hb2)
      | (go_at_call 10; refine (C2.out w2).mono ?_; rintro e w3 ⟨rfl, hb3⟩; have L3 := hid (L2.out.next hb3); clear hb3)
      | (go_at_call 11; refine (KI.out w3).mono ?_; rintro e w' ⟨rfl, hw⟩; rw [hw]))
    go_ret
    exact ⟨rfl, L3.out.below⟩
  by_cases h64 : 64 ≤ i
  · have C1 := hid (fun W => show Calls Tryd.prog 9 #[.int .i64 i] W (fun e w' => e = .returned (.tuple #[.int .u32 0, .iface 29 (.int .i64 1)]) ∧ Below W.heap.size W w') from constant_high i h64 W)
    have C2 := hid (fun W => show Calls Tryd.prog 10 #[.int .i64 i] W (fun e w' => e = .returned (.tuple #[.int .u32 0, .iface 29 (.int .i64 1)]) ∧ Below W.heap.size W w') from initial_high i (by omega) W)
    go_enter Tryd.func3, Tryd.ntmps3
    go_wp2_with (first
      | (go_at_call 8; refine HA.out.mono ?_; rintro e w1 ⟨rfl, hb1⟩; have L1 := hid (L0.out.next hb1); clear hb1)
      | (go_at_call 9; refine (C1.out w1).mono ?_; rintro e w2 ⟨rfl, hb2⟩; have L2 := hid (L1.out.next hb2); clear hb2)
      | (go_at_call 10; refine (C2.out w2).mono ?_; rintro e w3 ⟨rfl, hb3⟩; have L3 := hid (L2.out.next hb3); clear hb3)
      | (go_at_call 11; refine (KI.out w3).mono ?_; rintro e w' ⟨rfl, hw⟩; rw [hw]))
    go_ret
    exact ⟨rfl, L3.out.below⟩
  obtain ⟨n, rfl⟩ : ∃ n : Nat, i = (n : Int) := ⟨i.toNat, by omega⟩
  have hn : n < 64 := by omega
  have C1 := hid (fun W (h : LrW w W) => constant_any n hn W (HT.out W h))
  have CK := hid (fun W (h : LrW w W) => Tab.at_ (HR.out W h).rk (i := n) (by rw [KT_length]; exact hn))
  have R3 := hid (fun W => root3_any n hn W)
  obtain ⟨x, hx⟩ : ∃ x, x = KT.getD n 0#32 := ⟨_, rfl⟩
  have hx' : KT.getD n 0 = x := hx.symm
  rw [hx'] at C1 R3
  rw [← hx] at CK
  clear hx hx'
  have hne := w_neq_same 23 x
  have hg1 := fun W => eqGuard_uw (P := Tryd.prog) .neq 23 (.tmp 66) (.tmp 69) x x W
  by_cases h8 : n < 8
  · have C2 := hid (fun W (h : LrW w W) => initial_any n h8 W (HT.out W h))
    have CI := hid (fun W (h : LrW w W) => Tab.at_ (HI.out W h) (i := n) (by exact h8))
    have R2 := hid (fun W => root2_any n h8 W)
    obtain ⟨y, hy⟩ : ∃ y, y = IV.l.getD n 0#32 := ⟨_, rfl⟩
    have hy' : IV.l.getD n 0 = y := hy.symm
    rw [hy'] at C2 R2
    rw [← hy] at CI
    clear hy hy'
    have hg2 := fun W => eqGuard_uw (P := Tryd.prog) .eql 23 (.tmp 81) (.tmp 84) y y W
    have c8 : decide ((n : Int) < 8) = true := by simp; omega
    have tok : Hid True := trivial
    go_enter Tryd.func3, Tryd.ntmps3
    go_wp2_with (first
      | (go_at_call 8; refine HA.out.mono ?_; rintro e w1 ⟨rfl, hb1⟩; have L1 := hid (L0.out.next hb1); clear hb1)
      | (go_at_call 9; refine (C1.out w1 L1.out).mono ?_; rintro e w2 ⟨rfl, hb2⟩; have L2 := hid (L1.out.next hb2); clear hb2)
      | (go_at_call 10; refine (C2.out w2 L2.out).mono ?_; rintro e w3 ⟨rfl, hb3⟩; have L3 := hid (L2.out.next hb3); have ck := CK.out w3 L3.out; clear hb3)
      | (go_at_call 12; have _t := tok; clear tok _t; refine (R3.out w3).mono ?_; rintro e w4 ⟨rfl, hb4⟩; have L4 := hid (L3.out.next hb4); have ci := CI.out w4 L4.out; clear hb4)
      | (go_at_call 12; refine (R2.out w4).mono ?_; rintro e w5 ⟨rfl, hb5⟩; have L5 := hid (L4.out.next hb5); clear hb5))
    go_ret
    exact ⟨rfl, L5.out.below⟩
  · have C2 := hid (fun W => show Calls Tryd.prog 10 #[.int .i64 (n : Int)] W (fun e w' => e = .returned (.tuple #[.int .u32 0, .iface 29 (.int .i64 1)]) ∧ Below W.heap.size W w') from initial_high (n : Int) (by omega) W)
    go_enter Tryd.func3, Tryd.ntmps3
    go_wp2_with (first
      | (go_at_call 8; refine HA.out.mono ?_; rintro e w1 ⟨rfl, hb1⟩; have L1 := hid (L0.out.next hb1); clear hb1)
      | (go_at_call 9; refine (C1.out w1 L1.out).mono ?_; rintro e w2 ⟨rfl, hb2⟩; have L2 := hid (L1.out.next hb2); clear hb2)
      | (go_at_call 10; refine (C2.out w2).mono ?_; rintro e w3 ⟨rfl, hb3⟩; have L3 := hid (L2.out.next hb3); have ck := CK.out w3 L3.out; clear hb3)
      | (go_at_call 11; refine (KI.out w3).mono ?_; rintro e w' ⟨rfl, hw⟩; rw [hw])
      | (go_at_call 12; refine (R3.out w3).mono ?_; rintro e w4 ⟨rfl, hb4⟩; have L4 := hid (L3.out.next hb4); clear hb4))
    go_ret
    exact ⟨rfl, L4.out.below⟩
end Go.Proofs.YtobehmjmmnmflaaDoor
