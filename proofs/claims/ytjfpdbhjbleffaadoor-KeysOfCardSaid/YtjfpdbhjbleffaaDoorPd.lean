/-
  The program's padded text.
-/
import Derived.Test.YtjfpdbhjbleffaaDoorTb
namespace Go.Proofs.YtjfpdbhjbleffaaDoor
open Go.RowKit

/-- The padded text, i bytes of its length written, the lowest first. -/
def pd (bs : List UInt8) (i : Nat) : List UInt8 := (bs ++ 128 :: List.replicate (nought bs.length) 0) ++ (List.replicate (8 - i) 0 ++ (be8 (8 * bs.length)).drop (8 - i))
theorem pd_all (bs : List UInt8) : pd bs 8 = padL bs := by
  unfold padL
  simp [pd]
theorem pd_length (bs : List UInt8) (i : Nat) (_h : i ≤ 8) : (pd bs i).length = (padL bs).length := by
  unfold padL
  simp [pd, be8_length]
  try omega
theorem be8_get (m i : Nat) (h : i < 8) : (be8 m)[7 - i]? = some (UInt8.ofNat (m >>> (8 * i))) := by
  simp only [be8, List.getElem?_map]
  rw [List.getElem?_range (by omega)]
  simp only [Option.map_some]
  rw [show 7 - (7 - i) = i by omega]
theorem pd_step (bs : List UInt8) (i : Nat) (h : i < 8) : pd bs (i + 1) = (pd bs i).set ((padL bs).length - 1 - i) (UInt8.ofNat ((8 * bs.length) >>> (8 * i))) := by
  have hl : (padL bs).length - 1 - i = (bs ++ 128 :: List.replicate (nought bs.length) 0).length + (7 - i) := by
    unfold padL
    simp [be8_length]
    omega
  have hg := be8_get (8 * bs.length) i h
  rw [hl]
  unfold pd
  rw [List.set_append_right _ _ (by omega), Nat.add_sub_cancel_left]
  congr 1
  rw [List.set_append_left _ _ (by simp; omega)]
  have e1 : (List.replicate (8 - i) (0 : UInt8)).set (7 - i) (UInt8.ofNat ((8 * bs.length) >>> (8 * i))) = List.replicate (8 - (i + 1)) 0 ++ [UInt8.ofNat ((8 * bs.length) >>> (8 * i))] := by
    rw [show 8 - i = (7 - i) + 1 by omega, List.replicate_succ', List.set_append_right _ _ (by simp)]
    simp [show 8 - (i + 1) = 7 - i by omega]
  rw [e1, List.append_assoc, List.singleton_append]
  congr 1
  obtain ⟨hlt, hge⟩ := List.getElem?_eq_some_iff.1 hg
  rw [show 8 - (i + 1) = 7 - i by omega, show 8 - i = 7 - i + 1 by omega, List.drop_eq_getElem_cons hlt, hge]
theorem pd_start (bs : List UInt8) : (splice (ubs (List.replicate (padL bs).length 0)) 0 (ubs bs)) = ubs (bs ++ 0 :: List.replicate ((padL bs).length - bs.length - 1) 0) := by
  have h := padL_length bs
  simp only [splice, List.take_zero, List.nil_append, ubs_length, Nat.zero_add, ubs_drop, ← ubs_append, List.drop_replicate]
  rw [← List.replicate_succ, show (padL bs).length - bs.length - 1 + 1 = (padL bs).length - bs.length by omega]
theorem pd_zero (bs : List UInt8) : (bs ++ 0 :: List.replicate ((padL bs).length - bs.length - 1) 0).set bs.length 128 = pd bs 0 := by
  have hn : (padL bs).length - bs.length - 1 = nought bs.length + 8 := by unfold padL; simp [be8_length]
  rw [List.set_append_right _ _ (by omega), Nat.sub_self, List.set_cons_zero, hn]
  have h8 : (be8 (8 * bs.length)).drop 8 = [] := List.drop_eq_nil_of_le (by rw [be8_length]; exact Nat.le_refl _)
  unfold pd
  rw [Nat.sub_zero, h8, List.append_nil, List.append_assoc, List.cons_append, List.replicate_append_replicate]
theorem shr_byte (m j : Nat) : ((m : Int) / 2 ^ j) % 256 = ((UInt8.ofNat (m >>> j)).toNat : Int) := by
  have e : (UInt8.ofNat (m >>> j)).toNat = m / 2 ^ j % 256 := by rw [UInt8.toNat_ofNat', Nat.shiftRight_eq_div_pow]
  rw [e, Int.natCast_emod, Int.natCast_ediv, Int.natCast_pow]
  rfl
theorem shr_u64 (t : TypeId) (m j : Nat) (k : IntKind) (h : j ≤ 64) : binOp .shr t (.int .u64 (m : Int)) (.int k (j : Int)) = pure (.int .u64 ((m >>> j : Nat) : Int)) := by
  simp only [binOp]
  unfold Op.shift
  rw [if_neg (by omega)]
  simp only
  congr 2
  show (m : Int).fdiv (2 ^ (min (j : Int).toNat 64)) = _
  rw [Nat.shiftRight_eq_div_pow, Int.fdiv_eq_ediv_of_nonneg _ (Int.pow_nonneg (by omega)), Int.toNat_natCast, Nat.min_eq_left h, Int.natCast_ediv, Int.natCast_pow]
  rfl
theorem run_convert_u64b {P : Program} {w : World} (src dst : TypeId) (hs : P.underlying src = some (.int .u64)) (hd : P.underlying dst = some (.int .u8)) (m : Nat) :
    (convert src dst (.int .u64 (m : Int))).run P w = .ok (.int .u8 ((UInt8.ofNat m).toNat : Int)) w := by
  simp only [convert, Sem.run_bind, run_underlying hs, run_underlying hd, Result.andThen_ok]
  simp [Conv.intToInt, IntKind.wrap, IntKind.signed, IntKind.bits]
end Go.Proofs.YtjfpdbhjbleffaaDoor
