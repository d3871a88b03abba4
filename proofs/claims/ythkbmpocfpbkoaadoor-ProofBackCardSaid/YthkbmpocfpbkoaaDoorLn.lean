/-
  How many bits a number has (math/bits.Len64), and the program's height for a number of blocks.
-/
import Derived.Test.YthkbmpocfpbkoaaDoorJ4
import Derived.Test.YthkbmpocfpbkoaaDoorY3
import Derived.Test.YthkbmpocfpbkoaaDoorT0
namespace Go.Proofs.YthkbmpocfpbkoaaDoor
open Go.RowKit

/-- A table of bits of bytes. -/
def okTab (s : ByteArray) : Bool := (List.range 256).all fun n => match s[n]? with
  | some b => decide (n < 2 ^ b.toNat) && (b.toNat == 0 || decide (2 ^ (b.toNat - 1) ≤ n)) && decide (b.toNat ≤ 8)
  | none => false
theorem okTab_at {s : ByteArray} (h : okTab s = true) {n : Nat} (hn : n < 256) : ∃ b : UInt8, s[n]? = some b ∧ n < 2 ^ b.toNat ∧ (b.toNat = 0 ∨ 2 ^ (b.toNat - 1) ≤ n) ∧ b.toNat ≤ 8 := by
  have := List.all_eq_true.1 h n (List.mem_range.2 hn)
  cases e : s[n]? with
  | none => rw [e] at this; cases this
  | some b =>
    rw [e] at this
    simp only [Bool.and_eq_true, decide_eq_true_eq, Bool.or_eq_true, beq_iff_eq] at this
    exact ⟨b, rfl, this.1.1, this.1.2, this.2⟩
theorem highN_bits {v r : Nat} (hv : v < 4294967296) (h1 : v < 2 ^ r) (h2 : r = 0 ∨ 2 ^ (r - 1) ≤ v) : highN (v + 1) = r := by
  obtain ⟨a, -, c⟩ := highN_spec (b := v + 1) (by omega)
  rcases Nat.lt_trichotomy (highN (v + 1)) r with h | h | h
  · exfalso
    rcases h2 with h2 | h2
    · omega
    · have : (2 : Nat) ^ highN (v + 1) ≤ 2 ^ (r - 1) := Nat.pow_le_pow_right (by omega) (by omega)
      omega
  · exact h
  · have := c r h
    omega
theorem bits_up {v x k b : Nat} (hx : x = v >>> k) (h1 : x < 2 ^ b) (h2 : 2 ^ (b - 1) ≤ x) (hb : 0 < b) : v < 2 ^ (k + b) ∧ 2 ^ (k + b - 1) ≤ v := by
  rw [Nat.shiftRight_eq_div_pow] at hx
  have hp : 0 < 2 ^ k := Nat.two_pow_pos k
  constructor
  · have : v / 2 ^ k < 2 ^ b := by omega
    have := (Nat.div_lt_iff_lt_mul hp).1 this
    rwa [← Nat.pow_add, Nat.add_comm b k] at this
  · have : 2 ^ (b - 1) ≤ v / 2 ^ k := by omega
    have := (Nat.le_div_iff_mul_le hp).1 this
    rwa [← Nat.pow_add, show b - 1 + k = k + b - 1 by omega] at this
theorem okTab_get {s : ByteArray} (h : okTab s = true) {n : Nat} (hl : n < s.size) (hn : n < 256) : n < 2 ^ (s[n]'hl).toNat ∧ ((s[n]'hl).toNat = 0 ∨ 2 ^ ((s[n]'hl).toNat - 1) ≤ n) ∧ (s[n]'hl).toNat ≤ 8 := by
  obtain ⟨b, hb, h1, h2, h3⟩ := okTab_at h hn
  have e : s[n]'hl = b := by
    rw [getElem?_pos s n hl] at hb
    exact Option.some.inj hb
  rw [e]
  exact ⟨h1, h2, h3⟩
theorem len_end {s : ByteArray} (ht : okTab s = true) {y : Nat} (hl : y < s.size) (hy : y < 256) {v : Nat} (k : Int) (kn : Nat) (hk : k = kn) (hk2 : kn ≤ 32) (HR : ∀ b : Nat, y < 2 ^ b → (b = 0 ∨ 2 ^ (b - 1) ≤ y) → highN (v + 1) = kn + b) :
    RowKit.wrap64 (k + RowKit.wrap64 ((s[y]'hl).toNat : Int)) = (highN (v + 1) : Int) := by
  obtain ⟨h1, h2, h3⟩ := okTab_get ht hl hy
  rw [HR _ h1 h2, hk]
  unfold RowKit.wrap64
  omega
theorem len_end0 {s : ByteArray} (ht : okTab s = true) {y : Nat} (hl : y < s.size) (hy : y < 256) {v : Nat} (HR : ∀ b : Nat, y < 2 ^ b → (b = 0 ∨ 2 ^ (b - 1) ≤ y) → highN (v + 1) = 0 + b) :
    RowKit.wrap64 (RowKit.wrap64 ((s[y]'hl).toNat : Int)) = (highN (v + 1) : Int) := by
  have := len_end ht hl hy 0 0 rfl (by omega) HR
  rwa [Int.zero_add] at this
set_option maxRecDepth 100000 in
set_option maxHeartbeats 1000000 in
theorem plen64_any (v : Nat) (W : World) (hv : v < 4294967296) :
    Calls Tryd.prog 64 #[.int .u64 (v : Int)] W fun r W' => r = .returned (.int .i64 (highN (v + 1) : Int)) ∧ W' = W := by
  have c0 : decide (4294967296 ≤ (v : Int)) = false := by simp; omega
  have c0n : decide (4294967296 ≤ v) = false := by simp; omega
  have HV := hid hv
  have s16 := show binOp .shr 33 (.int .u64 (v : Int)) (.int .u64 16) = pure (.int .u64 ((v >>> 16 : Nat) : Int)) from shr_u64 33 v 16 .u64 (by omega)
  by_cases h1 : 65536 ≤ v
  · have c1 : decide (65536 ≤ (v : Int)) = true := by simp; omega
    have c1n : decide (65536 ≤ v) = true := by simp; omega
    obtain ⟨x, hx⟩ : ∃ x, x = v >>> 16 := ⟨_, rfl⟩
    have hxb : 1 ≤ x ∧ x < 65536 := by rw [hx, Nat.shiftRight_eq_div_pow]; omega
    rw [← hx] at s16
    have s8 := show binOp .shr 33 (.int .u64 (x : Int)) (.int .u64 8) = pure (.int .u64 ((x >>> 8 : Nat) : Int)) from shr_u64 33 x 8 .u64 (by omega)
    by_cases h2 : 256 ≤ x
    · have c2 : decide (256 ≤ (x : Int)) = true := by simp; omega
      have c2n : decide (256 ≤ x) = true := by simp; omega
      obtain ⟨y, hy⟩ : ∃ y, y = x >>> 8 := ⟨_, rfl⟩
      have hyb : 1 ≤ y ∧ y < 256 := by rw [hy, Nat.shiftRight_eq_div_pow]; omega
      rw [← hy] at s8
      have em : (y : Int) % 256 = (y : Int) := by omega
      have HY := hid hyb.2
      have HR := hid (fun (b : Nat) (p1 : y < 2 ^ b) (p2 : b = 0 ∨ 2 ^ (b - 1) ≤ y) => show highN (v + 1) = 24 + b from by
        have hb : 0 < b := by
          rcases Nat.eq_zero_or_pos b with e | e
          · subst e; simp at p1; omega
          · exact e
        obtain ⟨a1, a2⟩ := bits_up hy p1 (p2.resolve_left (by omega)) hb
        obtain ⟨a3, a4⟩ := bits_up hx a1 a2 (by omega)
        exact highN_bits HV.out (by rwa [show 24 + b = 16 + (8 + b) by omega]) (.inr (by rwa [show 24 + b - 1 = 16 + (8 + b) - 1 by omega])))
      clear h1 h2 hx hxb hy hyb hv
      go_enter Tryd.func64, Tryd.ntmps64
      go_wp2
      go_ret
      exact ⟨congrArg (fun z => Ending.returned (.int .i64 z)) (len_end (by decide +kernel) _ HY.out 24 24 rfl (by omega) HR.out), rfl⟩
    · have c2 : decide (256 ≤ (x : Int)) = false := by simp; omega
      have c2n : decide (256 ≤ x) = false := by simp; omega
      have em : (x : Int) % 256 = (x : Int) := by omega
      have HY := hid (show x < 256 by omega)
      have HR := hid (fun (b : Nat) (p1 : x < 2 ^ b) (p2 : b = 0 ∨ 2 ^ (b - 1) ≤ x) => show highN (v + 1) = 16 + b from by
        have hb : 0 < b := by
          rcases Nat.eq_zero_or_pos b with e | e
          · subst e; simp at p1; omega
          · exact e
        obtain ⟨a3, a4⟩ := bits_up hx p1 (p2.resolve_left (by omega)) hb
        exact highN_bits HV.out a3 (.inr a4))
      clear h1 h2 hx hxb hv
      go_enter Tryd.func64, Tryd.ntmps64
      go_wp2
      go_ret
      exact ⟨congrArg (fun z => Ending.returned (.int .i64 z)) (len_end (by decide +kernel) _ HY.out 16 16 rfl (by omega) HR.out), rfl⟩
  · have c1 : decide (65536 ≤ (v : Int)) = false := by simp; omega
    have c1n : decide (65536 ≤ v) = false := by simp; omega
    have s8 := show binOp .shr 33 (.int .u64 (v : Int)) (.int .u64 8) = pure (.int .u64 ((v >>> 8 : Nat) : Int)) from shr_u64 33 v 8 .u64 (by omega)
    by_cases h2 : 256 ≤ v
    · have c2 : decide (256 ≤ (v : Int)) = true := by simp; omega
      have c2n : decide (256 ≤ v) = true := by simp; omega
      obtain ⟨y, hy⟩ : ∃ y, y = v >>> 8 := ⟨_, rfl⟩
      have hyb : 1 ≤ y ∧ y < 256 := by rw [hy, Nat.shiftRight_eq_div_pow]; omega
      rw [← hy] at s8
      have em : (y : Int) % 256 = (y : Int) := by omega
      have HY := hid hyb.2
      have HR := hid (fun (b : Nat) (p1 : y < 2 ^ b) (p2 : b = 0 ∨ 2 ^ (b - 1) ≤ y) => show highN (v + 1) = 8 + b from by
        have hb : 0 < b := by
          rcases Nat.eq_zero_or_pos b with e | e
          · subst e; simp at p1; omega
          · exact e
        obtain ⟨a1, a2⟩ := bits_up hy p1 (p2.resolve_left (by omega)) hb
        exact highN_bits HV.out a1 (.inr a2))
      clear h1 h2 hy hyb hv
      go_enter Tryd.func64, Tryd.ntmps64
      go_wp2
      go_ret
      exact ⟨congrArg (fun z => Ending.returned (.int .i64 z)) (len_end (by decide +kernel) _ HY.out 8 8 rfl (by omega) HR.out), rfl⟩
    · have c2 : decide (256 ≤ (v : Int)) = false := by simp; omega
      have c2n : decide (256 ≤ v) = false := by simp; omega
      have em : (v : Int) % 256 = (v : Int) := by omega
      have HY := hid (show v < 256 by omega)
      have HR := hid (fun (b : Nat) (p1 : v < 2 ^ b) (p2 : b = 0 ∨ 2 ^ (b - 1) ≤ v) => show highN (v + 1) = 0 + b from by
        exact highN_bits HV.out (by rwa [Nat.zero_add]) (by rwa [Nat.zero_add]))
      clear h1 h2 hv
      go_enter Tryd.func64, Tryd.ntmps64
      go_wp2
      go_ret
      exact ⟨congrArg (fun z => Ending.returned (.int .i64 z)) (len_end0 (by decide +kernel) _ HY.out HR.out), rfl⟩
end Go.Proofs.YthkbmpocfpbkoaaDoor
