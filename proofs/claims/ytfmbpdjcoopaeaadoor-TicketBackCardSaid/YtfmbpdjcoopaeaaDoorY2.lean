/-
  Words of 32 bits for the walk: a value 'uw x' that the walk does not open, with one law for each operation on it; nothing here speaks of the program.
  A word turned right: the program's and the document's.
  SHA-256 as plain mathematics: words, rounds, compression, padding.
  The program's words of a block.
  The tables of package level as they lie in memory, and what later worlds keep of them.
-/
import Derived.Test.YtfmbpdjcoopaeaaDoorY1
import Derived.Test.YtfmbpdjcoopaeaaDoorProg
import Derived.StillTailTactics
import Derived.BigQuiet
namespace Go.Proofs.YtfmbpdjcoopaeaaDoor
open Go.RowKit

/-- A word of 32 bits as a value. -/
def uw (x : BitVec 32) : Value := .int .u32 (x.toNat : Int)
def us (xs : List (BitVec 32)) : List Value := xs.map uw
theorem us_length (xs : List (BitVec 32)) : (us xs).length = xs.length := by simp [us]
theorem us_get (xs : List (BitVec 32)) (i : Nat) : (us xs)[i]? = xs[i]?.map uw := by simp [us]
theorem us_set (xs : List (BitVec 32)) (i : Nat) (x : BitVec 32) : (us xs).set i (uw x) = us (xs.set i x) := by simp [us, List.map_set]
theorem us_one (xs : List (BitVec 32)) : ∀ u ∈ us xs, u.oneCell' = true := by
  intro u hu
  obtain ⟨b, _, rfl⟩ := List.mem_map.1 hu
  rfl
theorem wrap_u32 (n : Int) : IntKind.u32.wrap n = n % 4294967296 := by simp [IntKind.wrap, IntKind.signed, IntKind.bits]
theorem wrap_w (x : BitVec 32) : IntKind.u32.wrap (x.toNat : Int) = (x.toNat : Int) := by rw [wrap_u32]; have := x.isLt; omega
theorem ofInt_w (x : BitVec 32) : BitVec.ofInt 32 (x.toNat : Int) = x := by rw [BitVec.ofInt_natCast, BitVec.ofNat_toNat, BitVec.setWidth_eq]

section
variable (t : TypeId) (x y : BitVec 32) (n : Int)
theorem w_add : binOp .add t (uw x) (uw y) = pure (uw (x + y)) := by
  simp only [uw, binOp_add, Op.intArith]
  rw [wrap_u32, BitVec.toNat_add]
  congr 2
theorem w_add_l : binOp .add t (uw x) (.int .u32 n) = pure (uw (x + BitVec.ofInt 32 n)) := by
  simp only [uw, binOp_add, Op.intArith]
  rw [wrap_u32, BitVec.toNat_add, BitVec.toNat_ofInt]
  congr 2
  have := x.isLt
  omega
theorem w_mul_l : binOp .mul t (uw x) (.int .u32 n) = pure (uw (x * BitVec.ofInt 32 n)) := by
  simp only [uw, binOp_mul, Op.intArith]
  rw [wrap_u32, BitVec.toNat_mul, BitVec.toNat_ofInt]
  congr 2
  rw [Int.natCast_emod, Int.natCast_mul, Int.toNat_of_nonneg (Int.emod_nonneg _ (by omega))]
  show _ = (x.toNat : Int) * (n % 4294967296) % 4294967296
  rw [Int.mul_emod, Int.mul_emod (x.toNat : Int) (n % 4294967296), Int.emod_emod]
theorem w_and : binOp .and t (uw x) (uw y) = pure (uw (x &&& y)) := by
  simp only [uw, binOp_and, Op.intBits]
  show (pure (.int .u32 (IntKind.u32.wrap ((BitVec.ofInt 32 (x.toNat : Int) &&& BitVec.ofInt 32 (y.toNat : Int)).toNat : Int))) : Sem Value) = _
  rw [ofInt_w, ofInt_w, wrap_w]
theorem w_or : binOp .or t (uw x) (uw y) = pure (uw (x ||| y)) := by
  simp only [uw, binOp_or, Op.intBits]
  show (pure (.int .u32 (IntKind.u32.wrap ((BitVec.ofInt 32 (x.toNat : Int) ||| BitVec.ofInt 32 (y.toNat : Int)).toNat : Int))) : Sem Value) = _
  rw [ofInt_w, ofInt_w, wrap_w]
theorem w_or_l : binOp .or t (uw x) (.int .u32 n) = pure (uw (x ||| BitVec.ofInt 32 n)) := by
  simp only [uw, binOp_or, Op.intBits]
  show (pure (.int .u32 (IntKind.u32.wrap ((BitVec.ofInt 32 (x.toNat : Int) ||| BitVec.ofInt 32 n).toNat : Int))) : Sem Value) = _
  rw [ofInt_w, wrap_w]
theorem w_xor : binOp .xor t (uw x) (uw y) = pure (uw (x ^^^ y)) := by
  simp only [uw, binOp_xor, Op.intBits]
  show (pure (.int .u32 (IntKind.u32.wrap ((BitVec.ofInt 32 (x.toNat : Int) ^^^ BitVec.ofInt 32 (y.toNat : Int)).toNat : Int))) : Sem Value) = _
  rw [ofInt_w, ofInt_w, wrap_w]
theorem w_shl (k : IntKind) (h : 0 ≤ n) : binOp .shl t (uw x) (.int k n) = pure (uw (x <<< n.toNat)) := by
  simp only [uw, binOp]
  unfold Op.shift
  rw [if_neg (by omega)]
  simp only
  congr 2
  show IntKind.u32.wrap ((x.toNat : Int) * 2 ^ (min n.toNat 32)) = _
  rw [wrap_u32, BitVec.toNat_shiftLeft, Nat.shiftLeft_eq]
  rcases Nat.lt_or_ge n.toNat 32 with h1 | h1
  · rw [Nat.min_eq_left (by omega), Int.natCast_emod, Int.natCast_mul, Int.natCast_pow]
    rfl
  · rw [Nat.min_eq_right h1]
    have e : 2 ^ n.toNat = 2 ^ (n.toNat - 32) * 2 ^ 32 := by rw [← Nat.pow_add]; congr 1; omega
    rw [e, ← Nat.mul_assoc, Nat.mul_mod_left]
    have e2 : ((x.toNat : Int) * 2 ^ 32) % 4294967296 = 0 := by omega
    rw [e2]; rfl
theorem w_shr (k : IntKind) (h : 0 ≤ n) : binOp .shr t (uw x) (.int k n) = pure (uw (x >>> n.toNat)) := by
  simp only [uw, binOp]
  unfold Op.shift
  rw [if_neg (by omega)]
  simp only
  congr 2
  show (x.toNat : Int).fdiv (2 ^ (min n.toNat 32)) = _
  rw [BitVec.toNat_ushiftRight, Nat.shiftRight_eq_div_pow]
  rw [Int.fdiv_eq_ediv_of_nonneg _ (Int.pow_nonneg (by omega))]
  rcases Nat.lt_or_ge n.toNat 32 with h1 | h1
  · rw [Nat.min_eq_left (by omega), Int.natCast_ediv, Int.natCast_pow]
    rfl
  · rw [Nat.min_eq_right h1]
    have e : 2 ^ n.toNat = 2 ^ 32 * 2 ^ (n.toNat - 32) := by rw [← Nat.pow_add]; congr 1; omega
    have hp : 0 < 2 ^ (n.toNat - 32) := Nat.pow_pos (by omega)
    have hx := x.isLt
    have e3 : x.toNat / 2 ^ n.toNat = 0 := by
      rw [e]
      exact Nat.div_eq_of_lt (Nat.lt_of_lt_of_le hx (Nat.le_mul_of_pos_right _ hp))
    rw [e3]
    omega
theorem w_not : Op.unary .xor (uw x) = pure (uw (~~~x)) := by
  show (pure (.int .u32 (IntKind.u32.wrap ((BitVec.ofInt 32 IntKind.u32.max ^^^ BitVec.ofInt 32 (x.toNat : Int)).toNat : Int))) : Sem Value) = _
  rw [ofInt_w, wrap_w]
  have e : BitVec.ofInt 32 IntKind.u32.max = BitVec.allOnes 32 := by decide
  rw [e, BitVec.allOnes_xor]
  rfl
theorem w_eql : binOp .eql t (uw x) (uw y) = pure (.bool (x == y)) := by
  simp only [uw, binOp_eql]
  congr 2
  rw [Bool.eq_iff_iff, beq_iff_eq, beq_iff_eq]
  exact ⟨fun h => BitVec.eq_of_toNat_eq (by omega), fun h => by rw [h]⟩
theorem w_cells : (uw x).cells = #[uw x] := rfl
theorem run_store_uw (P : Program) (w : World) (a : Addr) (m : Mode) : (store a (uw x) m).run P w = stored P w a (uw x) m := run_store P w a _ m rfl
theorem storeCells_uw (a : Addr) : storeCells a [uw x] = store a (uw x) := by
  have : a.add 0 = a := by simp [Addr.add]
  simp [storeCells, this]
/-- A byte as a word; a word's last byte. -/
def bw (b : UInt8) : BitVec 32 := BitVec.ofNat 32 b.toNat
theorem bw_of (b : UInt8) : BitVec.ofInt 32 (b.toNat : Int) = bw b := by rw [BitVec.ofInt_natCast]; rfl
theorem bw_of' (b : UInt8) : BitVec.ofInt 32 ((b.toNat : Int) % 4294967296) = bw b := by
  have := b.toNat_lt
  rw [Int.emod_eq_of_lt (by omega) (by omega), bw_of]
theorem bw_of2 (b : UInt8) : BitVec.ofInt 32 (IntKind.u32.wrap (b.toNat : Int)) = bw b := by
  rw [wrap_u32, bw_of']
def wb (x : BitVec 32) : UInt8 := UInt8.ofNat x.toNat
theorem run_convert_wb {P : Program} {w : World} (src dst : TypeId) (hs : P.underlying src = some (.int .u32)) (hd : P.underlying dst = some (.int .u8)) :
    (convert src dst (uw x)).run P w = .ok (.int .u8 ((wb x).toNat : Int)) w := by
  simp only [uw, convert, Sem.run_bind, run_underlying hs, run_underlying hd, Result.andThen_ok]
  simp [Conv.intToInt, wb, IntKind.wrap, IntKind.signed, IntKind.bits]
end
section
variable {w : World} {g : Nat} {t : TypeId} {xs : List (BitVec 32)}
theorem at_us_put (h : At w g (us xs).toArray t) (i : Nat) (x : BitVec 32) : At (w.setCell ⟨g, i, none⟩ (uw x)) g (us (xs.set i x)).toArray t := by
  have := h.put i (uw x)
  rwa [← us_set, ← List.setIfInBounds_toArray]
theorem at_us_cell (h : At w g (us xs).toArray t) {i : Nat} (hi : i < xs.length) : w.cell? ⟨g, i, none⟩ = some (uw (xs.getD i 0#32)) := by
  rw [h.cell i, List.getElem?_toArray, us_get, List.getD_eq_getElem?_getD, List.getElem?_eq_getElem hi]
  rfl
theorem run_storeVar_uw {P : Program} (w : World) (ty : TypeId) (hs : (P.info? ty).map (·.size) = some 1) (ad : Addr) (x : BitVec 32) (u : Value) (hc : w.cell? ad = some u) (hf : w.frozen? ad = false) :
    (storeVar ty ad (uw x)).run P w = .ok () (w.setCell ad (uw x)) := by
  cases hq : P.info? ty with
  | none => simp [hq] at hs
  | some i =>
    have hz : i.size = 1 := by simpa [hq] using hs
    have h0 : ad.add 0 = ad := by simp [Addr.add]
    have := run_store_uw x P w ad .plain
    simp [storeVar, sizeOf, typeInfo, hq, w_cells, hz, storeCells, h0, this, stored, hc, hf]
theorem wp_store_uw {P : Program} {o : Oper} {a : Act} {w : World} {K : Act → World → Prop} {Q : Exit → Act → World → Prop} (ty : TypeId) (p q : Operand) (ho : o.op = .store ty p q) (hs : (P.info? ty).map (·.size) = some 1)
    (ad : Addr) (hx : a.eval p = .pointer (some ad)) (x : BitVec 32) (hy : a.eval q = uw x) (u : Value) (hc : w.cell? ad = some u) (hf : w.frozen? ad = false)
    (h : K (a.put o.dst undef) (w.setCell ad (uw x))) : o.wp P a w K Q := by
  unfold Oper.wp execOp
  simp only [ho, hx, hy, Instr.storeAt, Instr.sureAddr, Sem.run_bind, Sem.run_pure, Result.andThen_ok, run_storeVar_uw w ty hs ad x u hc hf]
  exact h
theorem wpList_store_uw {P : Program} {ops : Array Oper} {rest : List Oper} {o : Oper} {a : Act} {w : World} {Q : Exit → Act → World → Prop} (hgd : o.guard = none) (ty : TypeId) (p q : Operand) (ho : o.op = .store ty p q) (hs : (P.info? ty).map (·.size) = some 1)
    (ad : Addr) (hx : a.eval p = .pointer (some ad)) (x : BitVec 32) (hy : a.eval q = uw x) (u : Value) (hc : w.cell? ad = some u) (hf : w.frozen? ad = false)
    (h : wpList P ops Q rest (a.put o.dst undef) (w.setCell ad (uw x))) : wpList P ops Q (o :: rest) a w :=
  wpList_plain hgd fun _ hK => wp_store_uw ty p q ho hs ad hx x hy u hc hf (hK _ _ h)
/-- 64 noughts. -/
def z64 : List (BitVec 32) := List.replicate 64 0#32
theorem z64_length : z64.length = 64 := by simp [z64]
theorem us_all (xs : List (BitVec 32)) : (us xs).toArray.all (·.oneCell') = true :=
  Array.all_eq_true_iff_forall_mem.2 (fun v hv => us_one xs v (by simpa using hv))
theorem zero64 : #[Value.int .u32 0, .int .u32 0, .int .u32 0, .int .u32 0, .int .u32 0, .int .u32 0, .int .u32 0, .int .u32 0, .int .u32 0, .int .u32 0, .int .u32 0, .int .u32 0, .int .u32 0, .int .u32 0, .int .u32 0, .int .u32 0, .int .u32 0, .int .u32 0, .int .u32 0, .int .u32 0, .int .u32 0, .int .u32 0, .int .u32 0, .int .u32 0, .int .u32 0, .int .u32 0, .int .u32 0, .int .u32 0, .int .u32 0, .int .u32 0, .int .u32 0, .int .u32 0, .int .u32 0, .int .u32 0, .int .u32 0, .int .u32 0, .int .u32 0, .int .u32 0, .int .u32 0, .int .u32 0, .int .u32 0, .int .u32 0, .int .u32 0, .int .u32 0, .int .u32 0, .int .u32 0, .int .u32 0, .int .u32 0, .int .u32 0, .int .u32 0, .int .u32 0, .int .u32 0, .int .u32 0, .int .u32 0, .int .u32 0, .int .u32 0, .int .u32 0, .int .u32 0, .int .u32 0, .int .u32 0, .int .u32 0, .int .u32 0, .int .u32 0, .int .u32 0] = (us z64).toArray := rfl
/-- A difference that fits. -/
theorem sub_fits (k n : Nat) (h : n ≤ k) (h2 : k < 64) : IntKind.i64.wrap ((k : Int) - n) = (k : Int) - n ∧ ((k : Int) - n).toNat = k - n ∧ 0 ≤ (k : Int) - n ∧ (k : Int) - n < 64 :=
  ⟨by rw [IntKind.wrap_i64]; omega, by omega, by omega, by omega⟩
/-- An element of an array that lies in no memory. -/
theorem run_index_row {P : Program} (w : World) (T e : TypeId) (n : Nat) (j : IntKind) (hT : P.underlying T = some (.array n e)) (he : P.underlying e = some (.int j)) (hs : (P.info? e).map (·.size) = some 1)
    (vs : List Value) (i : Nat) (hi : i < n) (v : Value) (hv : vs[i]? = some v) (k : IntKind) : (Instr.index T (.agg vs.toArray) (.int k (i : Int))).run P w = .ok v w := by
  cases hq : P.info? e with
  | none => simp [hq] at hs
  | some inf =>
    have hz : inf.size = 1 := by simpa [hq] using hs
    simp only [Instr.index, asIntOf, Sem.run_bind, Sem.run_pure, Result.andThen_ok, run_underlying hT]
    rw [if_pos (by omega)]
    simp [sizeOf, typeInfo, hq, hz, part, isAgg, run_underlying he, hv]
end
attribute [go_sem ↓] storeCells_uw w_cells
attribute [go_sem] bw_of bw_of' bw_of2 w_add w_add_l w_mul_l w_and w_or w_or_l w_xor w_shl w_shr w_not w_eql run_store_uw run_convert_wb
end Go.Proofs.YtfmbpdjcoopaeaaDoor

namespace Go.Proofs.YtfmbpdjcoopaeaaDoor
open Go.RowKit

/-- A word turned right. -/
def rot (x : BitVec 32) (k : Nat) : BitVec 32 := x >>> k ||| x <<< (32 - k)

theorem and31 (k : Nat) (h1 : 1 ≤ k) (h2 : k ≤ 31) : bits .and .u64 (IntKind.u64.wrap (-(k : Int))) 31 = 32 - (k : Int) := by
  have e : ∀ j : Nat, j < 31 → bits .and .u64 (IntKind.u64.wrap (-((j + 1 : Nat) : Int))) 31 = 32 - ((j + 1 : Nat) : Int) := by decide
  have := e (k - 1) (by omega)
  rwa [show k - 1 + 1 = k by omega] at this

set_option maxRecDepth 100000 in
theorem rotl_any (x : BitVec 32) (k : Nat) (w : World) (h1 : 1 ≤ k) (h2 : k ≤ 31) :
    Calls Tryd.prog 216 #[uw x, .int .i64 (-(k : Int))] w fun e w' => e = .returned (uw (rot x k)) ∧ w = w' := by
  have hn := and31 k h1 h2
  have hs := w_shl 213 x (32 - (k : Int)) .u64 (by omega)
  have ht := w_shr 213 x (k : Int) .u64 (by omega)
  rw [show (32 - (k : Int)).toNat = 32 - k by omega] at hs
  rw [Int.toNat_natCast] at ht
  have hd : (32 - (32 - (k : Int))) = k := by omega
  have hc : x <<< (32 - k) ||| x >>> k = rot x k := BitVec.or_comm _ _
  go_enter Tryd.func216, Tryd.ntmps216
  go_wp2
  go_ret
  exact ⟨rfl, rfl⟩
set_option maxRecDepth 100000 in
theorem right_any (x : BitVec 32) (k : Nat) (w : World) (h1 : 1 ≤ k) (h2 : k ≤ 31) :
    Calls Tryd.prog 203 #[uw x, .int .i64 (k : Int)] w fun e w' => e = .returned (uw (rot x k)) ∧ w = w' := by
  go_enter Tryd.func203, Tryd.ntmps203
  go_wp2_with (go_at_call 216; refine (rotl_any _ _ _ h1 h2).mono ?_; rintro e w' ⟨rfl, rfl⟩)
  go_ret
  exact ⟨rfl, rfl⟩
set_option maxRecDepth 100000 in
theorem turn_any (x : BitVec 32) (k : Nat) (w : World) (h1 : 1 ≤ k) (h2 : k ≤ 31) :
    Calls Tryd.prog 176 #[uw x, .int .i64 (k : Int)] w fun e w' => e = .returned (uw (rot x k)) ∧ w = w' := by
  have hs := w_shl 213 x (32 - (k : Int)) .u64 (by omega)
  rw [show (32 - (k : Int)).toNat = 32 - k by omega] at hs
  go_enter Tryd.func176, Tryd.ntmps176
  go_wp2
  go_ret
  exact ⟨rfl, rfl⟩
/-- The same, the number as the walk has it. -/
theorem right_i (x : BitVec 32) (n : Int) (w : World) (h1 : 1 ≤ n) (h2 : n ≤ 31) :
    Calls Tryd.prog 203 #[uw x, .int .i64 n] w fun e w' => e = .returned (uw (rot x n.toNat)) ∧ w' = w := by
  have := right_any x n.toNat w (by omega) (by omega)
  rw [Int.toNat_of_nonneg (by omega)] at this
  exact this.mono fun _ _ h => ⟨h.1, h.2.symm⟩
theorem turn_i (x : BitVec 32) (n : Int) (w : World) (h1 : 1 ≤ n) (h2 : n ≤ 31) :
    Calls Tryd.prog 176 #[uw x, .int .i64 n] w fun e w' => e = .returned (uw (rot x n.toNat)) ∧ w' = w := by
  have := turn_any x n.toNat w (by omega) (by omega)
  rw [Int.toNat_of_nonneg (by omega)] at this
  exact this.mono fun _ _ h => ⟨h.1, h.2.symm⟩
theorem right_j (x : BitVec 32) (n : Int) (w : World) (h1 : 1 ≤ n) (h2 : n ≤ 31) :
    Calls Tryd.prog 203 #[uw x, .int .i64 n] w fun e w' => e = .returned (uw (rot x n.toNat)) ∧ w = w' :=
  (right_i x n w h1 h2).mono fun _ _ h => ⟨h.1, h.2.symm⟩
theorem turn_j (x : BitVec 32) (n : Int) (w : World) (h1 : 1 ≤ n) (h2 : n ≤ 31) :
    Calls Tryd.prog 176 #[uw x, .int .i64 n] w fun e w' => e = .returned (uw (rot x n.toNat)) ∧ w = w' :=
  (turn_i x n w h1 h2).mono fun _ _ h => ⟨h.1, h.2.symm⟩
end Go.Proofs.YtfmbpdjcoopaeaaDoor

namespace Go.Proofs.YtfmbpdjcoopaeaaDoor

def KT : List (BitVec 32) := [
  0x428a2f98#32, 0x71374491#32, 0xb5c0fbcf#32, 0xe9b5dba5#32, 0x3956c25b#32, 0x59f111f1#32, 0x923f82a4#32, 0xab1c5ed5#32,
  0xd807aa98#32, 0x12835b01#32, 0x243185be#32, 0x550c7dc3#32, 0x72be5d74#32, 0x80deb1fe#32, 0x9bdc06a7#32, 0xc19bf174#32,
  0xe49b69c1#32, 0xefbe4786#32, 0x0fc19dc6#32, 0x240ca1cc#32, 0x2de92c6f#32, 0x4a7484aa#32, 0x5cb0a9dc#32, 0x76f988da#32,
  0x983e5152#32, 0xa831c66d#32, 0xb00327c8#32, 0xbf597fc7#32, 0xc6e00bf3#32, 0xd5a79147#32, 0x06ca6351#32, 0x14292967#32,
  0x27b70a85#32, 0x2e1b2138#32, 0x4d2c6dfc#32, 0x53380d13#32, 0x650a7354#32, 0x766a0abb#32, 0x81c2c92e#32, 0x92722c85#32,
  0xa2bfe8a1#32, 0xa81a664b#32, 0xc24b8b70#32, 0xc76c51a3#32, 0xd192e819#32, 0xd6990624#32, 0xf40e3585#32, 0x106aa070#32,
  0x19a4c116#32, 0x1e376c08#32, 0x2748774c#32, 0x34b0bcb5#32, 0x391c0cb3#32, 0x4ed8aa4a#32, 0x5b9cca4f#32, 0x682e6ff3#32,
  0x748f82ee#32, 0x78a5636f#32, 0x84c87814#32, 0x8cc70208#32, 0x90befffa#32, 0xa4506ceb#32, 0xbef9a3f7#32, 0xc67178f2#32]

/-- The eight numbers of a state. -/
structure S8 where
  a : BitVec 32
  b : BitVec 32
  c : BitVec 32
  d : BitVec 32
  e : BitVec 32
  f : BitVec 32
  g : BitVec 32
  h : BitVec 32
def S8.l (s : S8) : List (BitVec 32) := [s.a, s.b, s.c, s.d, s.e, s.f, s.g, s.h]
def IV : S8 := ⟨0x6a09e667#32, 0xbb67ae85#32, 0x3c6ef372#32, 0xa54ff53a#32, 0x510e527f#32, 0x9b05688c#32, 0x1f83d9ab#32, 0x5be0cd19#32⟩

/-- The words behind i bytes. -/
def wl (bs : List UInt8) : Nat → List (BitVec 32)
  | 0 => z64
  | i + 1 => (wl bs i).set (i / 4) ((wl bs i).getD (i / 4) 0#32 <<< 8 ||| bw (bs.getD i 0))
def sg0 (x : BitVec 32) : BitVec 32 := rot x 7 ^^^ rot x 18 ^^^ x >>> 3
def sg1 (y : BitVec 32) : BitVec 32 := rot y 17 ^^^ rot y 19 ^^^ y >>> 10
/-- The words behind n mixed ones. -/
def wx (bs : List UInt8) : Nat → List (BitVec 32)
  | 0 => wl bs 64
  | n + 1 => (wx bs n).set (16 + n) ((wx bs n).getD n 0#32 + sg0 ((wx bs n).getD (n + 1) 0#32) + (wx bs n).getD (n + 9) 0#32 + sg1 ((wx bs n).getD (n + 14) 0#32))
theorem wl_zero (bs : List UInt8) : wl bs 0 = z64 := rfl
theorem wl_succ (bs : List UInt8) (i : Nat) : wl bs (i + 1) = (wl bs i).set (i / 4) ((wl bs i).getD (i / 4) 0#32 <<< 8 ||| bw (bs.getD i 0)) := rfl
theorem wx_zero (bs : List UInt8) : wx bs 0 = wl bs 64 := rfl
theorem wx_succ (bs : List UInt8) (n : Nat) : wx bs (n + 1) = (wx bs n).set (16 + n) ((wx bs n).getD n 0#32 + sg0 ((wx bs n).getD (n + 1) 0#32) + (wx bs n).getD (n + 9) 0#32 + sg1 ((wx bs n).getD (n + 14) 0#32)) := rfl
theorem wl_length (bs : List UInt8) (i : Nat) : (wl bs i).length = 64 := by
  induction i with
  | zero => simp [wl, z64_length]
  | succ i ih => simp [wl, ih]
theorem wx_length (bs : List UInt8) (n : Nat) : (wx bs n).length = 64 := by
  induction n with
  | zero => simp [wx, wl_length]
  | succ i ih => simp [wx, ih]

attribute [irreducible] wl wx sg0 sg1
def rp (s : S8) (k w : BitVec 32) : BitVec 32 := s.h + (rot s.e 6 ^^^ rot s.e 11 ^^^ rot s.e 25) + (s.e &&& s.f ^^^ ~~~s.e &&& s.g) + k + w
def rq (s : S8) : BitVec 32 := (rot s.a 2 ^^^ rot s.a 13 ^^^ rot s.a 22) + (s.a &&& s.b ^^^ s.a &&& s.c ^^^ s.b &&& s.c)
def rnd (s : S8) (k w : BitVec 32) : S8 := ⟨rp s k w + rq s, s.a, s.b, s.c, s.d + rp s k w, s.e, s.f, s.g⟩
def rnds (s : S8) (ws : List (BitVec 32)) : Nat → S8
  | 0 => s
  | t + 1 => rnd (rnds s ws t) (KT.getD t 0#32) (ws.getD t 0#32)
def S8.add (s t : S8) : S8 := ⟨s.a + t.a, s.b + t.b, s.c + t.c, s.d + t.d, s.e + t.e, s.f + t.f, s.g + t.g, s.h + t.h⟩
/-- A state compressed with a block. -/
def comp (s : S8) (bs : List UInt8) : S8 := s.add (rnds s (wx bs 48) 64)

/-- Eight bytes of a number, the highest first. -/
def be8 (n : Nat) : List UInt8 := (List.range 8).map fun i => UInt8.ofNat (n >>> (8 * (7 - i)))
def nought (n : Nat) : Nat := (119 - n % 64) % 64
def padL (bs : List UInt8) : List UInt8 := bs ++ 128 :: (List.replicate (nought bs.length) 0 ++ be8 (8 * bs.length))
theorem be8_length (n : Nat) : (be8 n).length = 8 := by simp [be8]
theorem padL_length (bs : List UInt8) : (padL bs).length = (bs.length + 8) / 64 * 64 + 64 := by
  simp only [padL, List.length_append, List.length_cons, List.length_replicate, be8_length, nought]
  omega
/-- The states behind k blocks. -/
def folds (p : List UInt8) : Nat → S8
  | 0 => IV
  | k + 1 => comp (folds p k) ((p.drop (64 * k)).take 64)
def bytesOf (s : S8) : List UInt8 := (List.range 32).map fun i => wb (s.l.getD (i / 4) 0#32 >>> (24 - i % 4 * 8))
/-- A text's hash. -/
def hashL (bs : List UInt8) : List UInt8 := bytesOf (folds (padL bs) ((padL bs).length / 64))
theorem hashL_length (bs : List UInt8) : (hashL bs).length = 32 := by simp [hashL, bytesOf]
theorem rnds_zero (s : S8) (ws : List (BitVec 32)) : rnds s ws 0 = s := rfl
theorem rnds_succ (s : S8) (ws : List (BitVec 32)) (t : Nat) : rnds s ws (t + 1) = rnd (rnds s ws t) (KT.getD t 0#32) (ws.getD t 0#32) := rfl
theorem comp_eq (s : S8) (bs : List UInt8) : comp s bs = s.add (rnds s (wx bs 48) 64) := rfl
theorem folds_zero (p : List UInt8) : folds p 0 = IV := rfl
theorem folds_succ (p : List UInt8) (k : Nat) : folds p (k + 1) = comp (folds p k) ((p.drop (64 * k)).take 64) := rfl
attribute [irreducible] rnds comp folds padL hashL bytesOf
end Go.Proofs.YtfmbpdjcoopaeaaDoor

namespace Go.Proofs.YtfmbpdjcoopaeaaDoor
open Go.RowKit

theorem sizeB64 : (Tryd.prog.info? 208).map (·.size) = some 64 := by kernel_rfl
theorem sizeW64 : (Tryd.prog.info? 261).map (·.size) = some 64 := by kernel_rfl
theorem sizeU32 : (Tryd.prog.info? 213).map (·.size) = some 1 := by kernel_rfl
set_option maxRecDepth 100000 in
set_option maxHeartbeats 4000000 in
theorem words_any (bs : List UInt8) (w : World) (hl : bs.length = 64) :
    Calls Tryd.prog 202 #[.agg (ubs bs).toArray] w fun e w' => e = .returned (.agg (us (wx bs 48)).toArray) ∧ Below w.heap.size w w' := by
  have hsz : (Tryd.prog.info? 208).map (·.size) = some (ubs bs).toArray.size := by rw [sizeB64]; simp [ubs_length, hl]
  have HL := hid hl
  have HZ := hid hsz
  clear hl hsz
  have D1 := hid (((At.new w (ubs bs).toArray 208).alloc (.cells (us z64).toArray 261)).alloc (.cells (us z64).toArray 261))
  have hz := zero64
  go_enter Tryd.func202, Tryd.ntmps202
  go_wp2_with (refine wpList_load_row rfl _ (.tmp 1) rfl w.heap.size rfl 208 (ubs bs).toArray (0, 0) _ D1.out Tryd.underlying208 rfl HZ.out ?_)
  clear hz
  go_loopw [10] (fun i wr => ∃ k : Nat, k ≤ 64 ∧ i = .int .i64 k ∧ At wr (w.heap.size + 1 + 1) (us (wl bs k)).toArray 261 ∧ At wr (w.heap.size + 1) (us z64).toArray 261 ∧ Below w.heap.size w wr) (fun i _ => 64 - (intOf i).toNat)
  case atStart =>
    refine ⟨0, by omega, rfl, by rw [wl_zero]; exact At.new_at (by simp), At.alloc (At.new_at (by simp)) _, ?_⟩
    exact (((Below.refl _ _).alloc (Nat.le_refl _) _).alloc (by simp) _).alloc (by simp; omega) _
  case round =>
    obtain ⟨k, hk, rfl, hA, hR, hB⟩ := hrel
    have HA := hid hA
    have HR := hid hR
    have HB := hid hB
    clear hA hR hB
    by_cases hlt : k < 64
    · have hb : (ubs bs)[k]? = some (.int .u8 ((bs.getD k 0).toNat : Int)) := by
        rw [ubs_get, List.getElem?_eq_getElem (by rw [HL.out]; exact hlt), List.getD_eq_getElem?_getD, List.getElem?_eq_getElem (by rw [HL.out]; exact hlt)]; rfl
      have hix : ∀ w : World, (Instr.index 208 (.agg (ubs bs).toArray) (.int .i64 (k : Int))).run Tryd.prog w = .ok (.int .u8 ((bs.getD k 0).toNat : Int)) w :=
        fun w => run_index_row w _ _ 64 _ Tryd.underlying208 Tryd.underlying5 sizeU8 _ k hlt _ hb _
      clear hb
      have hc := at_us_cell HA.out (i := k / 4) (by rw [wl_length]; omega)
      have hf := HA.out.frozen (k / 4)
      go_wp2
      go_simp

      go_wp2
      go_roundw
      case rel =>
        refine ⟨k + 1, by omega, by go_num, ?_, HR.out.far (p := ⟨w.heap.size + 1 + 1, k / 4, none⟩) (by simp) _, HB.out.setCell (by simp; omega) _⟩
        have := at_us_put HA.out (k / 4) ((wl bs k).getD (k / 4) 0#32 <<< 8 ||| bw (bs.getD k 0))
        simpa [wl_succ] using this
      case measure => simp [intOf]; omega
    · obtain rfl : k = 64 := by omega
      have HX : Hid (wx bs 0 = wl bs 64) := hid (wx_zero bs)
      go_wp2
      rw [show ((64 : Nat) : Int) = 64 from rfl]
      go_loopw [6] (fun i wr => ∃ k : Nat, 16 ≤ k ∧ k ≤ 64 ∧ i = .int .i64 k ∧ At wr (w.heap.size + 1 + 1) (us (wx bs (k - 16))).toArray 261 ∧ At wr (w.heap.size + 1) (us z64).toArray 261 ∧ Below w.heap.size w wr) (fun i _ => 64 - (intOf i).toNat)
      case atStart =>
        exact ⟨16, by omega, by omega, rfl, by rw [HX.out]; exact HA.out, HR.out, HB.out⟩
      case round =>
        clear HA HR HB
        obtain ⟨k, hk1, hk, rfl, hA, hR, hB⟩ := hrel
        have HA := hid hA
        have HR := hid hR
        have HB := hid hB
        clear hA hR hB
        by_cases hlt : k < 64
        · have S15 : Hid (IntKind.i64.wrap ((k : Int) - 15) = (k : Int) - 15 ∧ ((k : Int) - 15).toNat = k - 15 ∧ 0 ≤ (k : Int) - 15 ∧ (k : Int) - 15 < 64) := sub_fits k 15 (by omega) (by omega)
          have S2 : Hid (IntKind.i64.wrap ((k : Int) - 2) = (k : Int) - 2 ∧ ((k : Int) - 2).toNat = k - 2 ∧ 0 ≤ (k : Int) - 2 ∧ (k : Int) - 2 < 64) := sub_fits k 2 (by omega) (by omega)
          have S16 : Hid (IntKind.i64.wrap ((k : Int) - 16) = (k : Int) - 16 ∧ ((k : Int) - 16).toNat = k - 16 ∧ 0 ≤ (k : Int) - 16 ∧ (k : Int) - 16 < 64) := sub_fits k 16 (by omega) (by omega)
          have S7 : Hid (IntKind.i64.wrap ((k : Int) - 7) = (k : Int) - 7 ∧ ((k : Int) - 7).toNat = k - 7 ∧ 0 ≤ (k : Int) - 7 ∧ (k : Int) - 7 < 64) := sub_fits k 7 (by omega) (by omega)
          obtain ⟨x, hx⟩ : ∃ x, x = (wx bs (k - 16)).getD (k - 15) 0#32 := ⟨_, rfl⟩
          obtain ⟨y, hy⟩ : ∃ x, x = (wx bs (k - 16)).getD (k - 2) 0#32 := ⟨_, rfl⟩
          obtain ⟨u, hu⟩ : ∃ x, x = (wx bs (k - 16)).getD (k - 16) 0#32 := ⟨_, rfl⟩
          obtain ⟨v, hv⟩ : ∃ x, x = (wx bs (k - 16)).getD (k - 7) 0#32 := ⟨_, rfl⟩
          obtain ⟨z, hz⟩ : ∃ x, x = (wx bs (k - 16)).getD k 0#32 := ⟨_, rfl⟩
          have cx := at_us_cell HA.out (i := k - 15) (by rw [wx_length]; omega)
          have cy := at_us_cell HA.out (i := k - 2) (by rw [wx_length]; omega)
          have cu := at_us_cell HA.out (i := k - 16) (by rw [wx_length]; omega)
          have cv := at_us_cell HA.out (i := k - 7) (by rw [wx_length]; omega)
          have cz := at_us_cell HA.out (i := k) (by rw [wx_length]; omega)
          have fz := HA.out.frozen k
          rw [← hx] at cx
          rw [← hy] at cy
          rw [← hu] at cu
          rw [← hv] at cv
          rw [← hz] at cz
          have EX := hid (show wx bs (k + 1 - 16) = (wx bs (k - 16)).set k (u + sg0 x + v + sg1 y) by
            rw [show k + 1 - 16 = (k - 16) + 1 by omega, wx_succ, hu, hx, hv, hy]
            rw [show 16 + (k - 16) = k by omega, show k - 16 + 1 = k - 15 by omega, show k - 16 + 9 = k - 7 by omega, show k - 16 + 14 = k - 2 by omega])
          have HU := hid hu
          have HV := hid hv
          clear hx hy hu hv hz
          have FD := hid (fun n : Nat => (⟨(show At (wr.drewN n) (w.heap.size + 1 + 1) (us (wx bs (k - 16))).toArray 261 from HA.out), (show At (wr.drewN n) (w.heap.size + 1) (us z64).toArray 261 from HR.out), below_drewN HB.out n⟩ : _ ∧ _ ∧ _))
          clear cu cv cz fz HA HR HB
          go_wp2
          obtain ⟨a15, b15, c15, d15⟩ := S15.out
          obtain ⟨a2, b2, c2, d2⟩ := S2.out
          go_quiet (fail)
          clear a15 b15 c15 d15 a2 b2 c2 d2 cx cy
          have FD1 := FD.out nq
          clear FD
          generalize wr.drewN nq = W1 at FD1 ⊢
          go_wp2
          refine wp_region_still_tail 29 (by kernel_rfl) (by kernel_rfl) ?_
          simp only [List.take_succ_cons, List.take_zero, List.drop_succ_cons, List.drop_zero]
          obtain ⟨W2, hW2⟩ : ∃ W2 : World, { W1 with drawn := W1.drawn + 1 } = W2 := ⟨_, rfl⟩
          rw [hW2]
          have FD2 : At W2 (w.heap.size + 1 + 1) (us (wx bs (k - 16))).toArray 261 ∧ At W2 (w.heap.size + 1) (us z64).toArray 261 ∧ Below w.heap.size w W2 := by
            subst hW2
            exact ⟨FD1.1, FD1.2.1, below_drewN FD1.2.2 1⟩
          clear FD1 hW2
          obtain ⟨hA, hR, hB⟩ := FD2
          have HA := hid hA
          have HR := hid hR
          have HB := hid hB
          clear hA hR hB
          have cu := at_us_cell HA.out (i := k - 16) (by rw [wx_length]; omega)
          have cv := at_us_cell HA.out (i := k - 7) (by rw [wx_length]; omega)
          have cz := at_us_cell HA.out (i := k) (by rw [wx_length]; omega)
          have fz := HA.out.frozen k
          rw [← HU.out] at cu
          rw [← HV.out] at cv
          have e16 : (16 : Int) ≤ k := by omega
          have e7 : (7 : Int) ≤ k := by omega
          have e64 : (k : Int) < 64 := by omega
          obtain ⟨a16, b16, c16, d16⟩ := S16.out
          obtain ⟨a7, b7, c7, d7⟩ := S7.out
          repeat (first | still_step | still_call (right_i _ _ _ (by omega) (by omega)))
          refine wpStill_nil ?_
          clear a16 b16 c16 d16 a7 b7 c7 d7
          go_wp2_with (refine wpList_store_uw rfl _ (.tmp 66) (.tmp 65) rfl sizeU32 ⟨w.heap.size + 1 + 1, k, none⟩ rfl _ rfl _ cz fz ?_)
          go_roundw
          case rel =>
            refine ⟨k + 1, by omega, by omega, by go_num, ?_, HR.out.far (p := ⟨w.heap.size + 1 + 1, k, none⟩) (by simp) _, HB.out.setCell (by simp; omega) _⟩
            rw [EX.out, show sg0 x = rot x 7 ^^^ rot x 18 ^^^ x >>> 3 by unfold sg0; rfl, show sg1 y = rot y 17 ^^^ rot y 19 ^^^ y >>> 10 by unfold sg1; rfl]
            exact at_us_put HA.out k _
          case measure => simp [intOf]; omega
        · obtain rfl : k = 64 := by omega
          have HS := hid (show (Tryd.prog.info? 261).map (·.size) = some (us (wx bs (64 - 16))).toArray.size by rw [sizeW64]; simp [us_length, wx_length])
          go_wp2_with (first
            | (refine wpList_load_row rfl _ (.tmp 3) rfl (w.heap.size + 1 + 1) rfl 261 (us (wx bs (64 - 16))).toArray (0, 0) _ HA.out Tryd.underlying261 rfl HS.out ?_)
            | (refine wpList_store_row rfl _ (.tmp 2) (.tmp 67) rfl (w.heap.size + 1) (us (wx bs (64 - 16))).toArray rfl rfl 261 (us z64).toArray HR.out HS.out ?e3 (us_all _) ?e4; rotate_right))
          case e3 => simp [us_length, wx_length, z64_length]
          refine bodyPost_ret (results_cell_row rfl _ _ (w.heap.size + 1) 261 (us (wx bs (64 - 16))).toArray (0, 0) _ rfl (setRow_heap _ _ _ _ _ _ HR.out) Tryd.underlying261 rfl HS.out) rfl ?_
          exact ⟨rfl, below_setRow HB.out (by omega) _⟩
end Go.Proofs.YtfmbpdjcoopaeaaDoor

namespace Go.Proofs.YtfmbpdjcoopaeaaDoor
open Go.RowKit

/-- A table of words as it lies. -/
def Tab (w : World) (g : Nat) (xs : List (BitVec 32)) : Prop := ∀ (i : Nat) (v : Value), (us xs)[i]? = some v → w.cell? ⟨g, i, none⟩ = some v
theorem Tab.lt {w : World} {g : Nat} {x : BitVec 32} {xs : List (BitVec 32)} (h : Tab w g (x :: xs)) : g < w.heap.size := block_lt_of_cell (h 0 (uw x) rfl)
theorem Tab.at_ {w : World} {g : Nat} {xs : List (BitVec 32)} (h : Tab w g xs) {i : Nat} (hi : i < xs.length) : w.cell? ⟨g, i, none⟩ = some (uw (xs.getD i 0#32)) :=
  h i _ (by rw [us_get, List.getD_eq_getElem?_getD, List.getElem?_eq_getElem hi]; rfl)
theorem Tab.below {w w' : World} {g : Nat} {x : BitVec 32} {xs : List (BitVec 32)} (h : Tab w g (x :: xs)) (hb : Below w.heap.size w w') : Tab w' g (x :: xs) :=
  fun i v hv => (hb.cell (p := ⟨g, i, none⟩) h.lt).trans (h i v hv)
theorem run_loadVar_tab {P : Program} (w : World) (g : Nat) (ty : TypeId) (xs : List (BitVec 32)) (d : TypeDesc) (hg : Tab w g xs)
    (hu : P.underlying ty = some d) (hd : (match d with | .struct _ | .array _ _ => true | _ => false) = true) (hi : (P.info? ty).map (·.size) = some xs.length) :
    (loadVar ty ⟨g, 0, none⟩).run P w = .ok (.agg (us xs).toArray) w := by
  have hl : (loadCells ⟨g, 0, none⟩ (us xs).length).run P w = .ok (us xs).toArray w :=
    run_loadCells_list (P := P) w ⟨g, 0, none⟩ (us xs) (fun j v hv => by
      have hadd : (⟨g, 0, none⟩ : Addr).add j = ⟨g, j, none⟩ := by unfold Addr.add; split <;> simp_all
      rw [hadd]
      exact hg j v hv)
  rw [us_length] at hl
  cases hq : P.info? ty with
  | none => simp [hq] at hi
  | some i =>
    have hs : i.size = xs.length := by simpa [hq] using hi
    have hagg : (isAgg ty).run P w = .ok true w := by
      unfold isAgg
      rw [Sem.run_bind, run_underlying hu w]
      cases d <;> simp_all
    simp [loadVar, Sem.run_bind, hagg, sizeOf, typeInfo, hq, hs, hl]
theorem wp_load_tab {P : Program} {o : Oper} {a : Act} {w : World} {K : Act → World → Prop} {Q : Exit → Act → World → Prop} (ty : TypeId) (x : Operand) (ho : o.op = .load ty x)
    (g : Nat) (hx : a.eval x = .pointer (some ⟨g, 0, none⟩)) (xs : List (BitVec 32)) (d : TypeDesc) (hg : Tab w g xs)
    (hu : P.underlying ty = some d) (hd : (match d with | .struct _ | .array _ _ => true | _ => false) = true) (hi : (P.info? ty).map (·.size) = some xs.length)
    (h : K (a.put o.dst (.agg (us xs).toArray)) w) : o.wp P a w K Q := by
  unfold Oper.wp execOp
  simp only [ho, hx, Instr.loadAt, Instr.sureAddr, Sem.run_bind, Sem.run_pure, Result.andThen_ok, run_loadVar_tab w g ty xs d hg hu hd hi]
  exact h
theorem wpList_load_tab {P : Program} {ops : Array Oper} {rest : List Oper} {o : Oper} {a : Act} {w : World} {Q : Exit → Act → World → Prop} (hgd : o.guard = none) (ty : TypeId) (x : Operand) (ho : o.op = .load ty x)
    (g : Nat) (hx : a.eval x = .pointer (some ⟨g, 0, none⟩)) (xs : List (BitVec 32)) (d : TypeDesc) (hg : Tab w g xs)
    (hu : P.underlying ty = some d) (hd : (match d with | .struct _ | .array _ _ => true | _ => false) = true) (hi : (P.info? ty).map (·.size) = some xs.length)
    (h : wpList P ops Q rest (a.put o.dst (.agg (us xs).toArray)) w) : wpList P ops Q (o :: rest) a w :=
  wpList_plain hgd fun _ hK => wp_load_tab ty x ho g hx xs d hg hu hd hi (hK _ _ h)

/-- The tables that the text lays: the program's constants and initial values; the document's constants. (The document's initial values: 'Tab' by itself.) -/
structure Tabs (w : World) : Prop where
  k : Tab w 3 KT
  i : Tab w 2 IV.l
structure Tabr (w : World) : Prop where
  rk : Tab w 1 KT
theorem Tabs.below {w w' : World} (h : Tabs w) (hb : Below w.heap.size w w') : Tabs w' := ⟨h.k.below hb, h.i.below hb⟩
theorem Tabr.below {w w' : World} (h : Tabr w) (hb : Below w.heap.size w w') : Tabr w' := ⟨h.rk.below hb⟩

/-- Words added one by one, k of them. -/
def addk (xs ys : List (BitVec 32)) : Nat → List (BitVec 32)
  | 0 => xs
  | k + 1 => (addk xs ys k).set k (xs.getD k 0#32 + ys.getD k 0#32)
theorem addk_zero (xs ys : List (BitVec 32)) : addk xs ys 0 = xs := rfl
theorem addk_succ (xs ys : List (BitVec 32)) (k : Nat) : addk xs ys (k + 1) = (addk xs ys k).set k (xs.getD k 0#32 + ys.getD k 0#32) := rfl
theorem addk_length (xs ys : List (BitVec 32)) (k : Nat) : (addk xs ys k).length = xs.length := by
  induction k with
  | zero => rfl
  | succ k ih => rw [addk_succ, List.length_set, ih]
theorem addk_get (xs ys : List (BitVec 32)) (k j : Nat) (h : k ≤ j) : (addk xs ys k).getD j 0#32 = xs.getD j 0#32 := by
  induction k with
  | zero => rfl
  | succ k ih =>
    rw [addk_succ, List.getD_eq_getElem?_getD, List.getElem?_set_ne (by omega), ← List.getD_eq_getElem?_getD]
    exact ih (by omega)
theorem addk_all (s t : S8) : addk s.l t.l 8 = (s.add t).l := rfl
theorem l_length (s : S8) : s.l.length = 8 := rfl
attribute [irreducible] addk
def z8 : List (BitVec 32) := List.replicate 8 0#32
theorem zero8 : #[Value.int .u32 0, .int .u32 0, .int .u32 0, .int .u32 0, .int .u32 0, .int .u32 0, .int .u32 0, .int .u32 0] = (us z8).toArray := rfl
theorem z8_length : z8.length = 8 := by simp [z8]
theorem Tabs.drewN {w : World} (h : Tabs w) (n : Nat) : Tabs (w.drewN n) := ⟨h.k, h.i⟩
theorem KT_length : KT.length = 64 := rfl
end Go.Proofs.YtfmbpdjcoopaeaaDoor
