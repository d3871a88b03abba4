/-
  Numbers of many bytes, big-endian. Nothing here speaks of the program.
-/
import Derived.Test.YtjfpdbhjbleffaaDoorBase
namespace Go.Proofs.YtjfpdbhjbleffaaDoor
open Go.RowKit

/-- The number that bytes are; the last k bytes of a number. -/
def beN (l : List UInt8) : Nat := l.foldl (fun a b => a * 256 + b.toNat) 0
def toBE (k v : Nat) : List UInt8 := (List.range k).map fun i => UInt8.ofNat (v / 256 ^ (k - 1 - i))
theorem toBE_length (k v : Nat) : (toBE k v).length = k := by simp [toBE]
theorem toBE_get (k v i : Nat) (h : i < k) : (toBE k v).getD i 0 = UInt8.ofNat (v / 256 ^ (k - 1 - i)) := by simp [toBE, h]
theorem beN_nil : beN [] = 0 := rfl
theorem beN_snoc (l : List UInt8) (b : UInt8) : beN (l ++ [b]) = beN l * 256 + b.toNat := by simp [beN]
theorem beN_from (b : List UInt8) : ∀ s : Nat, b.foldl (fun a b => a * 256 + b.toNat) s = s * 256 ^ b.length + beN b := by
  induction b with
  | nil => intro s; simp [beN_nil]
  | cons x b ih =>
    intro s
    have h0 := ih (0 * 256 + x.toNat)
    have h1 := ih (s * 256 + x.toNat)
    show b.foldl _ (s * 256 + x.toNat) = _
    rw [h1, show beN (x :: b) = b.foldl (fun a b => a * 256 + b.toNat) (0 * 256 + x.toNat) from rfl, h0, List.length_cons, Nat.pow_succ, Nat.add_mul, Nat.zero_mul, Nat.zero_add, Nat.add_assoc, Nat.mul_assoc, Nat.mul_comm 256]
theorem beN_append (a b : List UInt8) : beN (a ++ b) = beN a * 256 ^ b.length + beN b := by
  rw [← beN_from b (beN a)]
  simp [beN]
theorem beN_cons (x : UInt8) (b : List UInt8) : beN (x :: b) = x.toNat * 256 ^ b.length + beN b := by
  have := beN_from b (0 * 256 + x.toNat)
  rw [Nat.zero_mul, Nat.zero_add] at this
  rw [← this]
  simp [beN]
theorem beN_lt (l : List UInt8) : beN l < 256 ^ l.length := by
  induction l with
  | nil => simp [beN_nil]
  | cons x l ih =>
    rw [beN_cons, List.length_cons, Nat.pow_succ]
    have h1 : x.toNat * 256 ^ l.length ≤ 255 * 256 ^ l.length := Nat.mul_le_mul_right _ (by have := x.toNat_lt; omega)
    omega
theorem take_snoc (l : List UInt8) (k : Nat) (h : k < l.length) : l.take (k + 1) = l.take k ++ [l.getD k 0] := by
  rw [List.take_succ_eq_append_getElem h]
  simp [h]
theorem beN_take (l : List UInt8) (k : Nat) (h : k < l.length) : beN (l.take (k + 1)) = beN (l.take k) * 256 + (l.getD k 0).toNat := by rw [take_snoc l k h, beN_snoc]
theorem set_getD (l : List UInt8) (i j : Nat) (x : UInt8) (h : i < l.length) : (l.set i x).getD j 0 = if i = j then x else l.getD j 0 := by
  rw [List.getD_eq_getElem?_getD, List.getElem?_set]
  by_cases e : i = j
  · rw [if_pos e, if_pos e, if_pos h]
    rfl
  · rw [if_neg e, if_neg e, List.getD_eq_getElem?_getD]
theorem ofNat_congr {a b : Nat} (h : a % 256 = b % 256) : UInt8.ofNat a = UInt8.ofNat b := by
  apply UInt8.toNat_inj.1
  rw [UInt8.toNat_ofNat', UInt8.toNat_ofNat']
  exact h
theorem toBE_succ (k v : Nat) : toBE (k + 1) v = toBE k (v / 256) ++ [UInt8.ofNat v] := by
  unfold toBE
  rw [List.range_succ, List.map_append, List.map_singleton, show k + 1 - 1 - k = 0 by omega, Nat.pow_zero, Nat.div_one]
  congr 1
  refine List.map_congr_left fun i hi => ?_
  have : i < k := List.mem_range.1 hi
  rw [Nat.div_div_eq_div_mul, show k + 1 - 1 - i = (k - 1 - i) + 1 by omega, Nat.pow_succ, Nat.mul_comm 256]
theorem beN_toBE (k : Nat) : ∀ v, beN (toBE k v) = v % 256 ^ k := by
  induction k with
  | zero =>
    intro v
    rw [Nat.pow_zero, Nat.mod_one]
    unfold toBE
    exact beN_nil
  | succ k ih =>
    intro v
    have h : v % 256 ^ (k + 1) = v % 256 + 256 * (v / 256 % 256 ^ k) := by rw [show 256 ^ (k + 1) = 256 * 256 ^ k by rw [Nat.pow_succ, Nat.mul_comm], Nat.mod_mul]
    rw [toBE_succ, beN_snoc, ih, UInt8.toNat_ofNat', h]
    omega
theorem toBE_mod (k : Nat) : ∀ v, toBE k (v % 256 ^ k) = toBE k v := by
  induction k with
  | zero => intro v; unfold toBE; rfl
  | succ k ih =>
    intro v
    rw [toBE_succ, toBE_succ, Nat.pow_succ, Nat.mul_comm (256 ^ k), Nat.mod_mul_right_div_self, ih]
    congr 2
    apply ofNat_congr
    exact Nat.mod_mul_right_mod _ _ _
theorem toBE_beN : ∀ (n : Nat) (l : List UInt8), l.length = n → toBE n (beN l) = l := by
  intro n
  induction n with
  | zero =>
    intro l h
    rw [List.eq_nil_of_length_eq_zero h]
    unfold toBE
    rfl
  | succ n ih =>
    intro l h
    rcases List.eq_nil_or_concat l with rfl | ⟨L, b, e⟩
    · cases h
    · rw [List.concat_eq_append] at e
      subst e
      have hb := b.toNat_lt
      rw [toBE_succ, beN_snoc, show (beN L * 256 + b.toNat) / 256 = beN L by omega, ih L (by simpa using h)]
      congr 2
      apply UInt8.toNat_inj.1
      rw [UInt8.toNat_ofNat']
      omega
theorem toBE_cons (k v : Nat) : toBE (k + 1) v = UInt8.ofNat (v / 256 ^ k) :: toBE k v := by
  unfold toBE
  rw [List.range_succ_eq_map, List.map_cons, List.map_map]
  congr 1
  refine List.map_congr_left fun i hi => ?_
  have : i < k := List.mem_range.1 hi
  simp only [Function.comp]
  rw [show k + 1 - 1 - (i + 1) = k - 1 - i by omega]
theorem toBE_zero (v : Nat) : toBE 0 v = [] := by unfold toBE; rfl
attribute [irreducible] toBE beN
end Go.Proofs.YtjfpdbhjbleffaaDoor
