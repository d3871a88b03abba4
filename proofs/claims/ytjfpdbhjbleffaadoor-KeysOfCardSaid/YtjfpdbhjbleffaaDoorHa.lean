/-
  What a tag is, and its small parts in the program: masked block keys, single bytes, comparing bytes.
-/
import Derived.Test.YtjfpdbhjbleffaaDoorCm
import Derived.Test.YtjfpdbhjbleffaaDoorCc
namespace Go.Proofs.YtjfpdbhjbleffaaDoor
open Go.RowKit

/-- Bytes XORed with one byte; the first k of them. -/
def maskL (b : List UInt8) (m : UInt8) : List UInt8 := b.map (· ^^^ m)
def maskk (b : List UInt8) (m : UInt8) (k : Nat) : List UInt8 := (b.take k).map (· ^^^ m) ++ b.drop k
theorem maskL_length (b : List UInt8) (m : UInt8) : (maskL b m).length = b.length := by simp [maskL]
theorem maskk_zero (b : List UInt8) (m : UInt8) : maskk b m 0 = b := by simp [maskk]
theorem maskk_all (b : List UInt8) (m : UInt8) (k : Nat) (h : b.length = k) : maskk b m k = maskL b m := by simp [maskk, maskL, ← h]
theorem maskk_length (b : List UInt8) (m : UInt8) (k : Nat) : (maskk b m k).length = b.length := by simp [maskk]; omega
theorem maskk_get (b : List UInt8) (m : UInt8) (k : Nat) (h : k < b.length) : (maskk b m k).getD k 0 = b.getD k 0 := by
  unfold maskk
  rw [List.getD_eq_getElem?_getD, List.getD_eq_getElem?_getD, List.getElem?_append_right (by simp; omega)]
  simp [Nat.min_eq_left (Nat.le_of_lt h)]
theorem maskk_succ (b : List UInt8) (m : UInt8) (k : Nat) (h : k < b.length) : maskk b m (k + 1) = (maskk b m k).set k (b.getD k 0 ^^^ m) := by
  have hg : b.getD k 0 = b[k] := by simp [h]
  unfold maskk
  have hl : ((b.take k).map (· ^^^ m)).length = k := by simp; omega
  rw [hg, List.set_append_right _ _ (by omega), List.take_succ_eq_append_getElem h, List.map_append, List.append_assoc, List.drop_eq_getElem_cons h, hl, Nat.sub_self]
  rfl
attribute [irreducible] maskk
/-- A key filled up to 64 bytes; the block key. -/
def padK (k : List UInt8) : List UInt8 := k ++ List.replicate (64 - k.length) 0
def blockL (k : List UInt8) : List UInt8 := padK (if 64 < k.length then hashL k else k)
theorem padK_length (k : List UInt8) (h : k.length ≤ 64) : (padK k).length = 64 := by simp [padK]; omega
theorem blockL_length (k : List UInt8) : (blockL k).length = 64 := by
  unfold blockL
  split
  · exact padK_length _ (by rw [hashL_length]; omega)
  · exact padK_length _ (by omega)
/-- The tag. -/
def macL (k t : List UInt8) : List UInt8 := hashL (maskL (blockL k) 92 ++ hashL (maskL (blockL k) 54 ++ t))
theorem macL_length (k t : List UInt8) : (macL k t).length = 32 := hashL_length _
theorem macL_eq (k t : List UInt8) : macL k t = hashL (maskL (blockL k) 92 ++ hashL (maskL (blockL k) 54 ++ t)) := rfl
theorem blockL_long (k : List UInt8) (h : 64 < k.length) : blockL k = padK (hashL k) := by unfold blockL; rw [if_pos h]
theorem blockL_short (k : List UInt8) (h : ¬ 64 < k.length) : blockL k = padK k := by unfold blockL; rw [if_neg h]

theorem n_xor (t : TypeId) (a b : Nat) (ha : a < 2 ^ 63) (hb : b < 2 ^ 63) : binOp .xor t (.int .i64 (a : Int)) (.int .i64 (b : Int)) = pure (.int .i64 ((a ^^^ b : Nat) : Int)) := by
  simp only [binOp_xor, Op.intBits]
  show (pure (.int .i64 (IntKind.i64.wrap ((BitVec.ofInt 64 (a : Int) ^^^ BitVec.ofInt 64 (b : Int)).toNat : Int))) : Sem Value) = _
  congr 2
  have h3 : a ^^^ b < 2 ^ 63 := Nat.xor_lt_two_pow ha hb
  rw [BitVec.ofInt_natCast, BitVec.ofInt_natCast, BitVec.toNat_xor, BitVec.toNat_ofNat, BitVec.toNat_ofNat, Nat.mod_eq_of_lt (by omega), Nat.mod_eq_of_lt (by omega), IntKind.wrap_i64]
  omega
theorem n_or (t : TypeId) (a b : Nat) (ha : a < 2 ^ 63) (hb : b < 2 ^ 63) : binOp .or t (.int .i64 (a : Int)) (.int .i64 (b : Int)) = pure (.int .i64 ((a ||| b : Nat) : Int)) := by
  simp only [binOp_or, Op.intBits]
  show (pure (.int .i64 (IntKind.i64.wrap ((BitVec.ofInt 64 (a : Int) ||| BitVec.ofInt 64 (b : Int)).toNat : Int))) : Sem Value) = _
  congr 2
  have h3 : a ||| b < 2 ^ 63 := Nat.or_lt_two_pow ha hb
  rw [BitVec.ofInt_natCast, BitVec.ofInt_natCast, BitVec.toNat_or, BitVec.toNat_ofNat, BitVec.toNat_ofNat, Nat.mod_eq_of_lt (by omega), Nat.mod_eq_of_lt (by omega), IntKind.wrap_i64]
  omega

set_option maxRecDepth 100000 in
/-- A block key masked: a copy in a block of its own. -/
theorem masked_any (b : List UInt8) (hb : b.length = 64) (m : UInt8) (w : World) :
    Calls Tryd.prog 32 #[.agg (ubs b).toArray, .int .u8 (m.toNat : Int)] w fun e w' => e = .returned (.slice (some ⟨w.heap.size, 0, none⟩) 64 64) ∧ At w' w.heap.size (ubs (maskL b m)).toArray 67 ∧ Below w.heap.size w w' := by
  have h0 := At.new w (ubs b).toArray 67
  have hb0 : Below w.heap.size w (w.alloc (.cells (ubs b).toArray 67)) := (Below.refl _ _).alloc (Nat.le_refl _) _
  have H0 := hid h0
  have HB := hid hb0
  have HL := hid hb
  clear h0 hb0 hb
  go_enter Tryd.func32, Tryd.ntmps32
  go_wp2
  go_loopw [6] (fun i wr => ∃ k : Nat, k ≤ 64 ∧ i = .int .i64 k ∧ At wr w.heap.size (ubs (maskk b m k)).toArray 67 ∧ Below w.heap.size w wr) (fun i _ => 64 - (intOf i).toNat)
  case atStart => exact ⟨0, by omega, rfl, by rw [maskk_zero]; exact H0.out, HB.out⟩
  case round =>
    clear H0 HB
    obtain ⟨k, hk, rfl, hA, hB⟩ := hrel
    have HA := hid hA
    have HB := hid hB
    clear hA hB
    by_cases hlt : k < 64
    · have c0 := at_ub_cell HA.out (i := k) (by rw [maskk_length, HL.out]; exact hlt)
      rw [maskk_get b m k (by rw [HL.out]; exact hlt)] at c0
      have f0 := HA.out.frozen k
      have HN := hid (maskk_succ b m k (by rw [HL.out]; exact hlt))
      obtain ⟨x, hx⟩ : ∃ x, x = b.getD k 0 := ⟨_, rfl⟩
      rw [← hx] at c0 HN
      clear hx
      have hx := b_xor 5 x m
      obtain ⟨y, hy⟩ : ∃ y, y = x ^^^ m := ⟨_, rfl⟩
      rw [← hy] at hx HN
      clear hy
      go_wp2
      go_roundw
      case rel => exact ⟨k + 1, by omega, by go_num, by rw [HN.out]; exact at_ub_put HA.out k _, HB.out.setCell (by simp) _⟩
      case measure => simp [intOf]; omega
    · obtain rfl : k = 64 := by omega
      have HN := hid (maskk_all b m 64 HL.out)
      go_wp2
      go_ret
      exact ⟨rfl, by rw [← HN.out]; exact HA.out, HB.out⟩
end Go.Proofs.YtjfpdbhjbleffaaDoor
