/-
  The program's primes: the test, and the prime of a number.
-/
import Derived.Test.YtobehmjmmnmflaaDoorCe
namespace Go.Proofs.YtobehmjmmnmflaaDoor
open Go.RowKit

/-- Whether no number from 2 on, up to the root, divides it. -/
def isP (n : Nat) : Bool := (List.range n).all fun d => decide (d < 2) || decide (n < d * d) || decide (n % d ≠ 0)
theorem isP_no {n d : Nat} (h2 : 2 ≤ d) (hd : d * d ≤ n) (h : n % d = 0) : isP n = false := by
  have hlt : d < n := by
    have : 2 * d ≤ d * d := Nat.mul_le_mul_right d h2
    omega
  rw [isP, List.all_eq_false]
  refine ⟨d, List.mem_range.2 hlt, ?_⟩
  simp [h]
  omega
theorem isP_yes {n d : Nat} (hd : n < d * d) (h : ∀ e, 2 ≤ e → e < d → n % e ≠ 0) : isP n = true := by
  rw [isP, List.all_eq_true]
  intro e _
  rcases Nat.lt_or_ge e 2 with h2 | h2
  · simp [h2]
  rcases Nat.lt_or_ge e d with he | he
  · simp [h e h2 he]
  · have : d * d ≤ e * e := Nat.mul_le_mul he he
    simp
    omega
/-- The first 64 primes. -/
def PR : List Nat := [2, 3, 5, 7, 11, 13, 17, 19, 23, 29, 31, 37, 41, 43, 47, 53, 59, 61, 67, 71, 73, 79, 83, 89, 97, 101, 103, 107, 109, 113, 127, 131, 137, 139, 149, 151, 157, 163, 167, 173, 179, 181, 191, 193, 197, 199, 211, 223, 227, 229, 233, 239, 241, 251, 257, 263, 269, 271, 277, 281, 283, 293, 307, 311]
def prN (k : Nat) : Nat := PR.getD k 0
theorem pr_all : ((List.range 63).all fun k => decide (prN k < prN (k + 1)) && (isP (prN (k + 1)) && (List.range 312).all fun q => !(decide (prN k < q) && decide (q < prN (k + 1))) || !isP q)) = true := by decide +kernel
theorem pr_le_all : ((List.range 64).all fun k => decide (2 ≤ prN k) && decide (prN k ≤ 311)) = true := by decide +kernel
theorem pr_le {k : Nat} (h : k < 64) : 2 ≤ prN k ∧ prN k ≤ 311 := by
  have := List.all_eq_true.1 pr_le_all k (List.mem_range.2 h)
  simpa using this
theorem pr_up {k : Nat} (h : k < 63) : prN k < prN (k + 1) := by
  have := List.all_eq_true.1 pr_all k (List.mem_range.2 h)
  simp only [Bool.and_eq_true, decide_eq_true_eq] at this
  exact this.1
theorem pr_is {k : Nat} (h : k < 63) : isP (prN (k + 1)) = true := by
  have := List.all_eq_true.1 pr_all k (List.mem_range.2 h)
  simp only [Bool.and_eq_true] at this
  exact this.2.1
theorem pr_not {k q : Nat} (h : k < 63) (h1 : prN k < q) (h2 : q < prN (k + 1)) : isP q = false := by
  have := List.all_eq_true.1 pr_all k (List.mem_range.2 h)
  simp only [Bool.and_eq_true] at this
  have hq := List.all_eq_true.1 this.2.2 q (List.mem_range.2 (by have := (pr_le (k := k + 1) (by omega)).2; omega))
  simpa [h1, h2] using hq
theorem pr_zero : prN 0 = 2 := rfl
attribute [irreducible] isP prN
set_option maxHeartbeats 1000000 in
theorem isPrime_any (n : Nat) (hn : n ≤ 400) (h2 : 2 ≤ n) (w : World) :
    Calls Tryd.prog 39 #[.int .u64 (n : Int)] w fun e w' => e = .returned (.bool (isP n)) ∧ w' = w := by
  go_enter Tryd.func39, Tryd.ntmps39
  go_wp2
  go_loop [3] (fun d => ∃ k : Nat, 2 ≤ k ∧ k ≤ 21 ∧ d = .int .u64 k ∧ Hid (∀ e, 2 ≤ e → e < k → n % e ≠ 0)) (fun d => 30 - (intOf d).toNat)
  case atStart => exact ⟨2, by omega, by omega, rfl, hid (fun e h1 h2 => by omega)⟩
  case round =>
    obtain ⟨k, hk2, hk, rfl, HD⟩ := hrel
    have hkk : k * k ≤ 21 * 21 := Nat.mul_le_mul hk hk
    have hc : (k : Int) * (k : Int) = ((k * k : Nat) : Int) := by push_cast; rfl
    have b0 : (0 : Int) ≤ (k : Int) * (k : Int) := by rw [hc]; omega
    have b1 : (k : Int) * (k : Int) ≤ 441 := by rw [hc]; omega
    by_cases hle : k * k ≤ n
    · have hk20 : k ≤ 20 := by
        rcases Nat.lt_or_ge 20 k with h | h
        · have : 21 * 21 ≤ k * k := Nat.mul_le_mul h h
          omega
        · exact h
      have c1 : decide ((k : Int) * (k : Int) ≤ (n : Int)) = true := by rw [hc]; exact decide_eq_true (by omega)
      clear hc
      by_cases hm : n % k = 0
      · have hm' : (n : Int) % (k : Int) = 0 := by omega
        have HP := hid (isP_no hk2 hle hm)
        go_wp2
        go_ret
        exact ⟨by rw [HP.out]; rfl, rfl⟩
      · have hm' : ¬ (n : Int) % (k : Int) = 0 := by omega
        go_wp2
        go_round
        case rel => exact ⟨k + 1, by omega, by omega, by go_num, hid (fun e h1 h2 => by
          rcases Nat.lt_or_ge e k with h | h
          · exact HD.out e h1 h
          · obtain rfl : e = k := by omega
            exact hm)⟩
        case measure => simp [intOf]; omega
    · have c1 : decide ((k : Int) * (k : Int) ≤ (n : Int)) = false := by rw [hc]; exact decide_eq_false (by omega)
      clear hc
      have HP := hid (isP_yes (by omega) HD.out)
      go_wp2
      go_ret
      exact ⟨by rw [HP.out]; rfl, rfl⟩
set_option maxHeartbeats 1000000 in
theorem prime_any (i : Nat) (hi : i < 64) (w : World) :
    Calls Tryd.prog 25 #[.int .i64 (i : Int)] w fun e w' => e = .returned (.int .u64 (prN i)) ∧ w' = w := by
  go_enter Tryd.func25, Tryd.ntmps25
  go_wp2
  go_loop [3, 5] (fun p c => ∃ k p' : Nat, k ≤ i ∧ c = .int .i64 k ∧ p = .int .u64 p' ∧ p' = prN k) (fun _ c => i - (intOf c).toNat)
  case atStart => exact ⟨0, 2, by omega, rfl, rfl, pr_zero.symm⟩
  case round =>
    obtain ⟨k, p', hk, rfl, rfl, hp⟩ := hrel
    by_cases hlt : k < i
    · have h1 := (pr_le (k := k) (by omega))
      rw [← hp] at h1
      obtain ⟨n, hn⟩ : ∃ n, n = prN (k + 1) := ⟨_, rfl⟩
      have h2 := (pr_le (k := k + 1) (by omega))
      have h3 := pr_up (k := k) (by omega)
      have HY := hid (pr_is (k := k) (by omega))
      have HN := hid (fun q => pr_not (k := k) (q := q) (by omega))
      rw [← hn] at h2 h3 HY HN
      rw [← hp] at h3 HN
      have HE := hid hn
      clear hn hp
      go_wp2
      go_loop [3] (fun p => ∃ q : Nat, p' < q ∧ q ≤ n ∧ p = .int .u64 q) (fun p => n - (intOf p).toNat)
      case atStart => exact ⟨p' + 1, by omega, by omega, by go_num⟩
      case round =>
        obtain ⟨q, hq1, hq2, rfl⟩ := hrel
        by_cases hq : q = n
        · subst hq
          go_wp2_with (go_at_call 39; refine (isPrime_any q (by omega) (by omega) w).mono ?_; rintro e w' ⟨rfl, hw⟩; rw [hw, HY.out])
          go_round
          case rel => exact ⟨k + 1, q, by omega, by go_num, rfl, HE.out⟩
          case measure => simp [intOf]; omega
        · have HF := hid (HN.out q (by omega) (by omega))
          go_wp2_with (go_at_call 39; refine (isPrime_any q (by omega) (by omega) w).mono ?_; rintro e w' ⟨rfl, hw⟩; rw [hw, HF.out])
          go_round
          case rel => exact ⟨q + 1, by omega, by omega, by go_num⟩
          case measure => simp [intOf]; omega
    · obtain rfl : k = i := by omega
      have HP := hid hp
      clear hp
      go_wp2
      go_ret
      exact ⟨by rw [← HP.out]; rfl, rfl⟩
end Go.Proofs.YtobehmjmmnmflaaDoor
