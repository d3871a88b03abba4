/-
  The first bits behind a root's point, as the program finds them.
-/
import Derived.Test.YtobehmjmmnmflaaDoorSe
namespace Go.Proofs.YtobehmjmmnmflaaDoor
open Go.RowKit

theorem fraction_any (f B p t : Nat) (hf : f = 40 ∨ f = 37) (h0 : 1 ≤ t) (ht : t ≤ 34359738368) (w : World) (hB : At w B #[.int .u64 p] 52)
    (hT : ∀ W, At W B #[.int .u64 p] 52 → TellsAt W f B t) :
    Calls Tryd.prog 23 #[.func (.func f) #[] #[.pointer (some ⟨B, 0, none⟩)]] w fun e w' => e = .returned (.int .u32 (((t - 1) % 4294967296 : Nat) : Int)) ∧ w.alloc (.cells #[.func (.func f) #[] #[.pointer (some ⟨B, 0, none⟩)]] 50) = w' := by
  have hs := search_any t w.heap.size ht (w.alloc (.cells #[.func (.func f) #[] #[.pointer (some ⟨B, 0, none⟩)]] 50)) (fun x hx => tell_any f B w.heap.size t x hf hx _ (hT _ (hB.alloc _)) (At.new w _ _))
  have HS := hid hs
  have hr : IntKind.u32.wrap ((t : Int) - 1) = (((t - 1) % 4294967296 : Nat) : Int) := by rw [IntKind.wrap_u32]; omega
  clear hs hB hT hf
  go_enter Tryd.func23, Tryd.ntmps23
  go_wp2_with (go_at_call 35; refine HS.out.mono ?_; rintro e w' ⟨rfl, hw⟩; rw [hw])
  go_ret
  refine ⟨?_, rfl⟩
  have he : ((t - 1 : Nat) : Int) % 4294967296 = (((t - 1) % 4294967296 : Nat) : Int) := by omega
  rw [← he]
  rfl
/-- Where a test that only grows turns. -/
theorem cube_turn (p t : Nat) (h0 : 1 ≤ t) (h1 : (t - 1) * (t - 1) * (t - 1) / 18446744073709551616 < p * 4294967296) (h2 : p * 4294967296 ≤ t * t * t / 18446744073709551616) (x : Nat) : (p * 4294967296 ≤ x * x * x / 18446744073709551616) = (t ≤ x) := by
  refine propext ⟨fun h => ?_, fun h => ?_⟩
  · rcases Nat.lt_or_ge x t with hl | hl
    · have hle : x ≤ t - 1 := by omega
      have : x * x * x / 18446744073709551616 ≤ (t - 1) * (t - 1) * (t - 1) / 18446744073709551616 := Nat.div_le_div_right (Nat.mul_le_mul (Nat.mul_le_mul hle hle) hle)
      omega
    · exact hl
  · exact Nat.le_trans h2 (Nat.div_le_div_right (Nat.mul_le_mul (Nat.mul_le_mul h h) h))
theorem square_turn (p t : Nat) (h0 : 1 ≤ t) (h1 : (t - 1) * (t - 1) / 18446744073709551616 < p) (h2 : p ≤ t * t / 18446744073709551616) (x : Nat) : (p ≤ x * x / 18446744073709551616) = (t ≤ x) := by
  refine propext ⟨fun h => ?_, fun h => ?_⟩
  · rcases Nat.lt_or_ge x t with hl | hl
    · have hle : x ≤ t - 1 := by omega
      have : x * x / 18446744073709551616 ≤ (t - 1) * (t - 1) / 18446744073709551616 := Nat.div_le_div_right (Nat.mul_le_mul hle hle)
      omega
    · exact hl
  · exact Nat.le_trans h2 (Nat.div_le_div_right (Nat.mul_le_mul h h))
theorem cube_tells (p t B : Nat) (hp : p ≤ 400) (h0 : 1 ≤ t) (h1 : (t - 1) * (t - 1) * (t - 1) / 18446744073709551616 < p * 4294967296) (h2 : p * 4294967296 ≤ t * t * t / 18446744073709551616) (W : World) (hB : At W B #[.int .u64 p] 52) : TellsAt W 37 B t := fun x hx => by
  have h := cube_any p x B hp hx W hB
  simp only [cube_turn p t h0 h1 h2 x] at h
  exact h
theorem square_tells (p t B : Nat) (h0 : 1 ≤ t) (h1 : (t - 1) * (t - 1) / 18446744073709551616 < p) (h2 : p ≤ t * t / 18446744073709551616) (W : World) (hB : At W B #[.int .u64 p] 52) : TellsAt W 40 B t := fun x hx => by
  have h := square_any p x B hx W hB
  simp only [square_turn p t h0 h1 h2 x] at h
  exact h
end Go.Proofs.YtobehmjmmnmflaaDoor
