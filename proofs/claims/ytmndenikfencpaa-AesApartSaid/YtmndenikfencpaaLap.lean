/-
  AesApart, walked.
-/
import Derived.Test.YtmndenikfencpaaFa
namespace Go.Proofs.Ytmndenikfencpaa
open Go.RowKit

set_option maxRecDepth 100000 in
set_option maxHeartbeats 1000000 in
theorem apart_law (a b c : UInt8) (w : World) :
    Calls Try.prog 6 #[.int .u8 (a.toNat : Int), .int .u8 (b.toNat : Int), .int .u8 (c.toNat : Int)] w fun e w' => e = .returned (.bool true) ∧ w' = w := by
  have HA := hid (alive_any w)
  have S1 := psub_any a w
  have S2 := psub_any b w
  have I1 := pinverse_any a w
  have I2 := pinverse_any (inv a) w
  rw [inv_inv] at I2
  have P0 := hid (fun h => show Calls Try.prog 8 #[.int .u8 (a.toNat : Int), .int .u8 ((inv a).toNat : Int)] w (fun e w' => e = .returned (.int .u8 1) ∧ w' = w) from by
    have := pproduct_any a (inv a) w
    rw [inv_prod a h] at this
    exact this)
  have P1 := pproduct_any a b w
  have P2 := pproduct_any b a w
  have P3 := pproduct_any a (xr b c) w
  have P4 := pproduct_any a c w
  have P5 := pproduct_any b c w
  have P6 := pproduct_any a (prod b c) w
  have P7 := pproduct_any (prod a b) c w
  have X1 := b_xr 5 b c
  have X2 := b_xr 5 (prod a b) (prod a c)
  rw [← prod_comm a b] at P2
  rw [show prod a (xr b c) = xr (prod a b) (prod a c) by rw [xr_eq, xr_eq, prod_right]] at P3
  rw [prod_assoc] at P6
  have hs : sT a = sT b → a = b := fun h => sub_inj a b (by rw [sub_sT, sub_sT, h])
  obtain ⟨ia, hia⟩ : ∃ x, x = inv a := ⟨_, rfl⟩
  rw [← hia] at I1 I2 P0
  obtain ⟨s7, hs7⟩ : ∃ x, x = prod (prod a b) c := ⟨_, rfl⟩
  rw [← hs7] at P6 P7
  obtain ⟨p1, hp1⟩ : ∃ x, x = prod a b := ⟨_, rfl⟩
  obtain ⟨p4, hp4⟩ : ∃ x, x = prod a c := ⟨_, rfl⟩
  obtain ⟨p5, hp5⟩ : ∃ x, x = prod b c := ⟨_, rfl⟩
  rw [← hp1] at P1 P2 P3 P7 X2
  rw [← hp4] at P3 P4 X2
  rw [← hp5] at P5 P6
  obtain ⟨y1, hy1⟩ : ∃ x, x = xr b c := ⟨_, rfl⟩
  obtain ⟨y2, hy2⟩ : ∃ x, x = xr p1 p4 := ⟨_, rfl⟩
  rw [← hy1] at P3 X1
  rw [← hy2] at P3 X2
  replace S1 := hid S1
  replace S2 := hid S2
  replace I1 := hid I1
  replace I2 := hid I2
  replace P1 := hid P1
  replace P2 := hid P2
  replace P3 := hid P3
  replace P4 := hid P4
  replace P5 := hid P5
  replace P6 := hid P6
  replace P7 := hid P7
  clear hia hs7 hp1 hp4 hp5 hy1 hy2
  by_cases h0 : a = 0
  · have c0 : ((a.toNat : Int) != 0) = false := by rw [h0]; rfl
    by_cases hab : a = b
    · have c1 : (((sT a).toNat : Int) == ((sT b).toNat : Int)) = true := by rw [hab]; exact beq_self_eq_true _
      have c2 : ((a.toNat : Int) == (b.toNat : Int)) = true := by rw [hab]; exact beq_self_eq_true _
      clear hs h0 hab P0
      go_enter Try.func6, Try.ntmps6
      go_wp2_with (first
    | (go_at_call 7; refine HA.out.mono ?_; rintro e w' ⟨rfl, hw⟩; rw [hw]; clear hw)
    | (go_at_call 12; ((with_reducible refine S1.out.mono ?_); rintro e w' ⟨rfl, hw⟩; rw [hw]; clear hw))
    | (go_at_call 12; ((with_reducible refine S2.out.mono ?_); rintro e w' ⟨rfl, hw⟩; rw [hw]; clear hw))
    | (go_at_call 10; ((with_reducible refine I1.out.mono ?_); rintro e w' ⟨rfl, hw⟩; rw [hw]; clear hw))
    | (go_at_call 10; ((with_reducible refine I2.out.mono ?_); rintro e w' ⟨rfl, hw⟩; rw [hw]; clear hw))
    | (go_at_call 8; (with_reducible first | refine P1.out.mono ?_ | refine P2.out.mono ?_ | refine P3.out.mono ?_ | refine P4.out.mono ?_ | refine P5.out.mono ?_ | refine P6.out.mono ?_ | refine P7.out.mono ?_); rintro e w' ⟨rfl, hw⟩; rw [hw]; clear hw))
      go_ret
      exact ⟨rfl, rfl⟩
    · have c1 : (((sT a).toNat : Int) == ((sT b).toNat : Int)) = false := by
        rw [beq_eq_false_iff_ne]
        exact fun e => hab (hs (UInt8.toNat_inj.1 (by omega)))
      have c2 : ((a.toNat : Int) == (b.toNat : Int)) = false := by
        rw [beq_eq_false_iff_ne]
        exact fun e => hab (UInt8.toNat_inj.1 (by omega))
      clear hs h0 hab P0
      go_enter Try.func6, Try.ntmps6
      go_wp2_with (first
    | (go_at_call 7; refine HA.out.mono ?_; rintro e w' ⟨rfl, hw⟩; rw [hw]; clear hw)
    | (go_at_call 12; ((with_reducible refine S1.out.mono ?_); rintro e w' ⟨rfl, hw⟩; rw [hw]; clear hw))
    | (go_at_call 12; ((with_reducible refine S2.out.mono ?_); rintro e w' ⟨rfl, hw⟩; rw [hw]; clear hw))
    | (go_at_call 10; ((with_reducible refine I1.out.mono ?_); rintro e w' ⟨rfl, hw⟩; rw [hw]; clear hw))
    | (go_at_call 10; ((with_reducible refine I2.out.mono ?_); rintro e w' ⟨rfl, hw⟩; rw [hw]; clear hw))
    | (go_at_call 8; (with_reducible first | refine P1.out.mono ?_ | refine P2.out.mono ?_ | refine P3.out.mono ?_ | refine P4.out.mono ?_ | refine P5.out.mono ?_ | refine P6.out.mono ?_ | refine P7.out.mono ?_); rintro e w' ⟨rfl, hw⟩; rw [hw]; clear hw))
      go_ret
      exact ⟨rfl, rfl⟩
  · have c0 : ((a.toNat : Int) != 0) = true := by
      rw [bne_iff_ne]
      intro e
      exact h0 (UInt8.toNat_inj.1 (by show a.toNat = 0; omega))
    replace P0 := hid (P0.out h0)
    by_cases hab : a = b
    · have c1 : (((sT a).toNat : Int) == ((sT b).toNat : Int)) = true := by rw [hab]; exact beq_self_eq_true _
      have c2 : ((a.toNat : Int) == (b.toNat : Int)) = true := by rw [hab]; exact beq_self_eq_true _
      clear hs h0 hab
      go_enter Try.func6, Try.ntmps6
      go_wp2_with (first
    | (go_at_call 7; refine HA.out.mono ?_; rintro e w' ⟨rfl, hw⟩; rw [hw]; clear hw)
    | (go_at_call 12; ((with_reducible refine S1.out.mono ?_); rintro e w' ⟨rfl, hw⟩; rw [hw]; clear hw))
    | (go_at_call 12; ((with_reducible refine S2.out.mono ?_); rintro e w' ⟨rfl, hw⟩; rw [hw]; clear hw))
    | (go_at_call 10; ((with_reducible refine I1.out.mono ?_); rintro e w' ⟨rfl, hw⟩; rw [hw]; clear hw))
    | (go_at_call 10; ((with_reducible refine I2.out.mono ?_); rintro e w' ⟨rfl, hw⟩; rw [hw]; clear hw))
    | (go_at_call 8; (with_reducible first | refine P0.out.mono ?_ | refine P1.out.mono ?_ | refine P2.out.mono ?_ | refine P3.out.mono ?_ | refine P4.out.mono ?_ | refine P5.out.mono ?_ | refine P6.out.mono ?_ | refine P7.out.mono ?_); rintro e w' ⟨rfl, hw⟩; rw [hw]; clear hw))
      go_ret
      exact ⟨rfl, rfl⟩
    · have c1 : (((sT a).toNat : Int) == ((sT b).toNat : Int)) = false := by
        rw [beq_eq_false_iff_ne]
        exact fun e => hab (hs (UInt8.toNat_inj.1 (by omega)))
      have c2 : ((a.toNat : Int) == (b.toNat : Int)) = false := by
        rw [beq_eq_false_iff_ne]
        exact fun e => hab (UInt8.toNat_inj.1 (by omega))
      clear hs h0 hab
      go_enter Try.func6, Try.ntmps6
      go_wp2_with (first
    | (go_at_call 7; refine HA.out.mono ?_; rintro e w' ⟨rfl, hw⟩; rw [hw]; clear hw)
    | (go_at_call 12; ((with_reducible refine S1.out.mono ?_); rintro e w' ⟨rfl, hw⟩; rw [hw]; clear hw))
    | (go_at_call 12; ((with_reducible refine S2.out.mono ?_); rintro e w' ⟨rfl, hw⟩; rw [hw]; clear hw))
    | (go_at_call 10; ((with_reducible refine I1.out.mono ?_); rintro e w' ⟨rfl, hw⟩; rw [hw]; clear hw))
    | (go_at_call 10; ((with_reducible refine I2.out.mono ?_); rintro e w' ⟨rfl, hw⟩; rw [hw]; clear hw))
    | (go_at_call 8; (with_reducible first | refine P0.out.mono ?_ | refine P1.out.mono ?_ | refine P2.out.mono ?_ | refine P3.out.mono ?_ | refine P4.out.mono ?_ | refine P5.out.mono ?_ | refine P6.out.mono ?_ | refine P7.out.mono ?_); rintro e w' ⟨rfl, hw⟩; rw [hw]; clear hw))
      go_ret
      exact ⟨rfl, rfl⟩
theorem apart_law' (a b c : UInt8) (w : World) :
    Calls Try.prog 6 #[.int .u8 (a.toNat : Int), .int .u8 (b.toNat : Int), .int .u8 (c.toNat : Int)] w fun e w' => e = .returned (.bool true) ∧ Below w.heap.size w w' :=
  (apart_law a b c w).mono fun _ _ h => ⟨h.1, by rw [h.2]; exact Below.refl _ _⟩
end Go.Proofs.Ytmndenikfencpaa
