/-
  The program's search for a root's first bits.
-/
import Derived.Test.YtobehmjmmnmflaaDoorBy
namespace Go.Proofs.YtobehmjmmnmflaaDoor
open Go.RowKit

/-- What is beyond from t on, in a world. -/
def TellsAt (w : World) (f B t : Nat) : Prop := ∀ x : Nat, x ≤ 34359738368 → Calls Tryd.prog f #[.int .u64 (x : Int), .pointer (some ⟨B, 0, none⟩)] w fun e w' => e = .returned (.bool (decide (t ≤ x))) ∧ w' = w
theorem tell_any (f B C t x : Nat) (hf : f = 40 ∨ f = 37) (hx : x ≤ 34359738368) (w : World) (hT : TellsAt w f B t) (hC : At w C #[.func (.func f) #[] #[.pointer (some ⟨B, 0, none⟩)]] 50) :
    Calls Tryd.prog 36 #[.int .i64 (x : Int), .pointer (some ⟨C, 0, none⟩)] w fun e w' => e = .returned (.bool (decide (t ≤ x))) ∧ w' = w := by
  have hc := (hC.cell 0).trans rfl
  have HT := hid (hT x hx)
  clear hT hC
  rcases hf with rfl | rfl
  · go_enter Tryd.func36, Tryd.ntmps36
    go_wp2_with (go_at_call 40; refine HT.out.mono ?_; rintro e w' ⟨rfl, hw⟩; rw [hw])
    go_ret
    exact ⟨rfl, rfl⟩
  · go_enter Tryd.func36, Tryd.ntmps36
    go_wp2_with (go_at_call 37; refine HT.out.mono ?_; rintro e w' ⟨rfl, hw⟩; rw [hw])
    go_ret
    exact ⟨rfl, rfl⟩
theorem search_any (t C : Nat) (ht : t ≤ 34359738368) (w : World)
    (hT : ∀ x : Nat, x ≤ 34359738368 → Calls Tryd.prog 36 #[.int .i64 (x : Int), .pointer (some ⟨C, 0, none⟩)] w fun e w' => e = .returned (.bool (decide (t ≤ x))) ∧ w' = w) :
    Calls Tryd.prog 35 #[.int .i64 34359738368, .func (.func 36) #[] #[.pointer (some ⟨C, 0, none⟩)]] w fun e w' => e = .returned (.int .i64 (t : Int)) ∧ w' = w := by
  have HT := hid hT
  clear hT
  go_enter Tryd.func35, Tryd.ntmps35
  go_wp2
  go_loop [5, 6] (fun i j => ∃ a b : Nat, a ≤ t ∧ t ≤ b ∧ b ≤ 34359738368 ∧ i = .int .i64 a ∧ j = .int .i64 b) (fun i j => (intOf j).toNat - (intOf i).toNat)
  case atStart => exact ⟨0, 34359738368, by omega, ht, by omega, rfl, rfl⟩
  case round =>
    obtain ⟨a, b, h1, h2, h3, rfl, rfl⟩ := hrel
    by_cases hlt : a < b
    · obtain ⟨m, hm⟩ : ∃ m, m = (a + b) / 2 := ⟨_, rfl⟩
      have hm2 : ((a : Int) + (b : Int)) / 2 = (m : Int) := by omega
      have hm3 : a ≤ m ∧ m < b := by omega
      clear hm
      by_cases hc : t ≤ m
      · have HC := hid (decide_eq_true hc)
        go_wp2_with (go_at_call 36; refine (HT.out m (by omega)).mono ?_; rintro e w' ⟨rfl, hw⟩; rw [hw, HC.out])
        go_round
        case rel => exact ⟨a, m, h1, hc, by omega, rfl, by go_num⟩
        case measure => simp [intOf]; omega
      · have HC := hid (decide_eq_false hc)
        go_wp2_with (go_at_call 36; refine (HT.out m (by omega)).mono ?_; rintro e w' ⟨rfl, hw⟩; rw [hw, HC.out])
        go_round
        case rel => exact ⟨m + 1, b, by omega, h2, h3, by go_num, rfl⟩
        case measure => simp [intOf]; omega
    · obtain rfl : a = b := by omega
      obtain rfl : a = t := by omega
      go_wp2
      go_ret
      exact ⟨rfl, rfl⟩
end Go.Proofs.YtobehmjmmnmflaaDoor
