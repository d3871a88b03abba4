/-
  Words of 32 bits for the walk: a value 'uw x' that the walk does not open, with one law for each operation on it; nothing here speaks of the program.
-/
import Derived.Test.YtjfpdbhjbleffaaDoorCm
import Derived.Test.YtjfpdbhjbleffaaDoorBase
namespace Go.Proofs.YtjfpdbhjbleffaaDoor
open Go.RowKit

/-- A word of 32 bits as a value. -/
def uw (x : BitVec 32) : Value := .int .u32 (x.toNat : Int)
def us (xs : List (BitVec 32)) : List Value := xs.map uw
theorem us_length (xs : List (BitVec 32)) : (us xs).length = xs.length := by simp [us]
theorem us_get (xs : List (BitVec 32)) (i : Nat) : (us xs)[i]? = xs[i]?.map uw := by simp [us]
theorem us_set (xs : List (BitVec 32)) (i : Nat) (x : BitVec 32) : (us xs).set i (uw x) = us (xs.set i x) := by simp [us, List.map_set]
theorem us_one (xs : List (BitVec 32)) : ∀ u ∈ us xs, u.oneCell' = true := by
  intro u hu
  obtain ⟨b, _, rfl⟩ := List.mem_map.1 hu
  rfl
theorem uw_inj {a b : BitVec 32} (h : uw a = uw b) : a = b := by
  unfold uw at h
  injection h with _ h
  exact BitVec.eq_of_toNat_eq (by omega)
theorem us_inj {a b : List (BitVec 32)} (h : us a = us b) : a = b := by
  unfold us at h
  exact List.map_inj_right (fun x y hxy => uw_inj hxy) |>.1 h

theorem wrap_u32 (n : Int) : IntKind.u32.wrap n = n % 4294967296 := by simp [IntKind.wrap, IntKind.signed, IntKind.bits]
theorem wrap_w (x : BitVec 32) : IntKind.u32.wrap (x.toNat : Int) = (x.toNat : Int) := by rw [wrap_u32]; have := x.isLt; omega
theorem ofInt_w (x : BitVec 32) : BitVec.ofInt 32 (x.toNat : Int) = x := by rw [BitVec.ofInt_natCast, BitVec.ofNat_toNat, BitVec.setWidth_eq]

section
variable (t : TypeId) (x y : BitVec 32) (n : Int)
theorem w_add : binOp .add t (uw x) (uw y) = pure (uw (x + y)) := by
  simp only [uw, binOp_add, Op.intArith]
  rw [wrap_u32, BitVec.toNat_add]
  congr 2
theorem w_add_l : binOp .add t (uw x) (.int .u32 n) = pure (uw (x + BitVec.ofInt 32 n)) := by
  simp only [uw, binOp_add, Op.intArith]
  rw [wrap_u32, BitVec.toNat_add, BitVec.toNat_ofInt]
  congr 2
  have := x.isLt
  omega
theorem w_mul_l : binOp .mul t (uw x) (.int .u32 n) = pure (uw (x * BitVec.ofInt 32 n)) := by
  simp only [uw, binOp_mul, Op.intArith]
  rw [wrap_u32, BitVec.toNat_mul, BitVec.toNat_ofInt]
  congr 2
  rw [Int.natCast_emod, Int.natCast_mul, Int.toNat_of_nonneg (Int.emod_nonneg _ (by omega))]
  show _ = (x.toNat : Int) * (n % 4294967296) % 4294967296
  rw [Int.mul_emod, Int.mul_emod (x.toNat : Int) (n % 4294967296), Int.emod_emod]
theorem w_and : binOp .and t (uw x) (uw y) = pure (uw (x &&& y)) := by
  simp only [uw, binOp_and, Op.intBits]
  show (pure (.int .u32 (IntKind.u32.wrap ((BitVec.ofInt 32 (x.toNat : Int) &&& BitVec.ofInt 32 (y.toNat : Int)).toNat : Int))) : Sem Value) = _
  rw [ofInt_w, ofInt_w, wrap_w]
theorem w_or : binOp .or t (uw x) (uw y) = pure (uw (x ||| y)) := by
  simp only [uw, binOp_or, Op.intBits]
  show (pure (.int .u32 (IntKind.u32.wrap ((BitVec.ofInt 32 (x.toNat : Int) ||| BitVec.ofInt 32 (y.toNat : Int)).toNat : Int))) : Sem Value) = _
  rw [ofInt_w, ofInt_w, wrap_w]
theorem w_or_l : binOp .or t (uw x) (.int .u32 n) = pure (uw (x ||| BitVec.ofInt 32 n)) := by
  simp only [uw, binOp_or, Op.intBits]
  show (pure (.int .u32 (IntKind.u32.wrap ((BitVec.ofInt 32 (x.toNat : Int) ||| BitVec.ofInt 32 n).toNat : Int))) : Sem Value) = _
  rw [ofInt_w, wrap_w]
theorem w_xor : binOp .xor t (uw x) (uw y) = pure (uw (x ^^^ y)) := by
  simp only [uw, binOp_xor, Op.intBits]
  show (pure (.int .u32 (IntKind.u32.wrap ((BitVec.ofInt 32 (x.toNat : Int) ^^^ BitVec.ofInt 32 (y.toNat : Int)).toNat : Int))) : Sem Value) = _
  rw [ofInt_w, ofInt_w, wrap_w]
theorem w_shl (k : IntKind) (h : 0 ≤ n) : binOp .shl t (uw x) (.int k n) = pure (uw (x <<< n.toNat)) := by
  simp only [uw, binOp]
  unfold Op.shift
  rw [if_neg (by omega)]
  simp only
  congr 2
  show IntKind.u32.wrap ((x.toNat : Int) * 2 ^ (min n.toNat 32)) = _
  rw [wrap_u32, BitVec.toNat_shiftLeft, Nat.shiftLeft_eq]
  rcases Nat.lt_or_ge n.toNat 32 with h1 | h1
  · rw [Nat.min_eq_left (by omega), Int.natCast_emod, Int.natCast_mul, Int.natCast_pow]
    rfl
  · rw [Nat.min_eq_right h1]
    have e : 2 ^ n.toNat = 2 ^ (n.toNat - 32) * 2 ^ 32 := by rw [← Nat.pow_add]; congr 1; omega
    rw [e, ← Nat.mul_assoc, Nat.mul_mod_left]
    have e2 : ((x.toNat : Int) * 2 ^ 32) % 4294967296 = 0 := by omega
    rw [e2]; rfl
theorem w_shr (k : IntKind) (h : 0 ≤ n) : binOp .shr t (uw x) (.int k n) = pure (uw (x >>> n.toNat)) := by
  simp only [uw, binOp]
  unfold Op.shift
  rw [if_neg (by omega)]
  simp only
  congr 2
  show (x.toNat : Int).fdiv (2 ^ (min n.toNat 32)) = _
  rw [BitVec.toNat_ushiftRight, Nat.shiftRight_eq_div_pow]
  rw [Int.fdiv_eq_ediv_of_nonneg _ (Int.pow_nonneg (by omega))]
  rcases Nat.lt_or_ge n.toNat 32 with h1 | h1
  · rw [Nat.min_eq_left (by omega), Int.natCast_ediv, Int.natCast_pow]
    rfl
  · rw [Nat.min_eq_right h1]
    have e : 2 ^ n.toNat = 2 ^ 32 * 2 ^ (n.toNat - 32) := by rw [← Nat.pow_add]; congr 1; omega
    have hp : 0 < 2 ^ (n.toNat - 32) := Nat.pow_pos (by omega)
    have hx := x.isLt
    have e3 : x.toNat / 2 ^ n.toNat = 0 := by
      rw [e]
      exact Nat.div_eq_of_lt (Nat.lt_of_lt_of_le hx (Nat.le_mul_of_pos_right _ hp))
    rw [e3]
    omega
theorem w_not : Op.unary .xor (uw x) = pure (uw (~~~x)) := by
  show (pure (.int .u32 (IntKind.u32.wrap ((BitVec.ofInt 32 IntKind.u32.max ^^^ BitVec.ofInt 32 (x.toNat : Int)).toNat : Int))) : Sem Value) = _
  rw [ofInt_w, wrap_w]
  have e : BitVec.ofInt 32 IntKind.u32.max = BitVec.allOnes 32 := by decide
  rw [e, BitVec.allOnes_xor]
  rfl
theorem w_eql : binOp .eql t (uw x) (uw y) = pure (.bool (x == y)) := by
  simp only [uw, binOp_eql]
  congr 2
  rw [Bool.eq_iff_iff, beq_iff_eq, beq_iff_eq]
  exact ⟨fun h => BitVec.eq_of_toNat_eq (by omega), fun h => by rw [h]⟩
theorem w_cells : (uw x).cells = #[uw x] := rfl
theorem run_store_uw (P : Program) (w : World) (a : Addr) (m : Mode) : (store a (uw x) m).run P w = stored P w a (uw x) m := run_store P w a _ m rfl
theorem storeCells_uw (a : Addr) : storeCells a [uw x] = store a (uw x) := by
  have : a.add 0 = a := by simp [Addr.add]
  simp [storeCells, this]
/-- A byte as a word; a word's last byte. -/
def bw (b : UInt8) : BitVec 32 := BitVec.ofNat 32 b.toNat
theorem bw_of (b : UInt8) : BitVec.ofInt 32 (b.toNat : Int) = bw b := by rw [BitVec.ofInt_natCast]; rfl
theorem bw_of' (b : UInt8) : BitVec.ofInt 32 ((b.toNat : Int) % 4294967296) = bw b := by
  have := b.toNat_lt
  rw [Int.emod_eq_of_lt (by omega) (by omega), bw_of]
theorem bw_of2 (b : UInt8) : BitVec.ofInt 32 (IntKind.u32.wrap (b.toNat : Int)) = bw b := by
  rw [wrap_u32, bw_of']
def wb (x : BitVec 32) : UInt8 := UInt8.ofNat x.toNat
theorem run_convert_wb {P : Program} {w : World} (src dst : TypeId) (hs : P.underlying src = some (.int .u32)) (hd : P.underlying dst = some (.int .u8)) :
    (convert src dst (uw x)).run P w = .ok (.int .u8 ((wb x).toNat : Int)) w := by
  simp only [uw, convert, Sem.run_bind, run_underlying hs, run_underlying hd, Result.andThen_ok]
  simp [Conv.intToInt, wb, IntKind.wrap, IntKind.signed, IntKind.bits]
end
section
variable {w : World} {g : Nat} {t : TypeId} {xs : List (BitVec 32)}
theorem at_us_put (h : At w g (us xs).toArray t) (i : Nat) (x : BitVec 32) : At (w.setCell ⟨g, i, none⟩ (uw x)) g (us (xs.set i x)).toArray t := by
  have := h.put i (uw x)
  rwa [← us_set, ← List.setIfInBounds_toArray]
theorem at_us_cell (h : At w g (us xs).toArray t) {i : Nat} (hi : i < xs.length) : w.cell? ⟨g, i, none⟩ = some (uw (xs.getD i 0#32)) := by
  rw [h.cell i, List.getElem?_toArray, us_get, List.getD_eq_getElem?_getD, List.getElem?_eq_getElem hi]
  rfl
theorem run_storeVar_uw {P : Program} (w : World) (ty : TypeId) (hs : (P.info? ty).map (·.size) = some 1) (ad : Addr) (x : BitVec 32) (u : Value) (hc : w.cell? ad = some u) (hf : w.frozen? ad = false) :
    (storeVar ty ad (uw x)).run P w = .ok () (w.setCell ad (uw x)) := by
  cases hq : P.info? ty with
  | none => simp [hq] at hs
  | some i =>
    have hz : i.size = 1 := by simpa [hq] using hs
    have h0 : ad.add 0 = ad := by simp [Addr.add]
    have := run_store_uw x P w ad .plain
    simp [storeVar, sizeOf, typeInfo, hq, w_cells, hz, storeCells, h0, this, stored, hc, hf]
theorem wp_store_uw {P : Program} {o : Oper} {a : Act} {w : World} {K : Act → World → Prop} {Q : Exit → Act → World → Prop} (ty : TypeId) (p q : Operand) (ho : o.op = .store ty p q) (hs : (P.info? ty).map (·.size) = some 1)
    (ad : Addr) (hx : a.eval p = .pointer (some ad)) (x : BitVec 32) (hy : a.eval q = uw x) (u : Value) (hc : w.cell? ad = some u) (hf : w.frozen? ad = false)
    (h : K (a.put o.dst undef) (w.setCell ad (uw x))) : o.wp P a w K Q := by
  unfold Oper.wp execOp
  simp only [ho, hx, hy, Instr.storeAt, Instr.sureAddr, Sem.run_bind, Sem.run_pure, Result.andThen_ok, run_storeVar_uw w ty hs ad x u hc hf]
  exact h
theorem wpList_store_uw {P : Program} {ops : Array Oper} {rest : List Oper} {o : Oper} {a : Act} {w : World} {Q : Exit → Act → World → Prop} (hgd : o.guard = none) (ty : TypeId) (p q : Operand) (ho : o.op = .store ty p q) (hs : (P.info? ty).map (·.size) = some 1)
    (ad : Addr) (hx : a.eval p = .pointer (some ad)) (x : BitVec 32) (hy : a.eval q = uw x) (u : Value) (hc : w.cell? ad = some u) (hf : w.frozen? ad = false)
    (h : wpList P ops Q rest (a.put o.dst undef) (w.setCell ad (uw x))) : wpList P ops Q (o :: rest) a w :=
  wpList_plain hgd fun _ hK => wp_store_uw ty p q ho hs ad hx x hy u hc hf (hK _ _ h)
/-- 64 noughts. -/
def z64 : List (BitVec 32) := List.replicate 64 0#32
theorem z64_length : z64.length = 64 := by simp [z64]
theorem us_all (xs : List (BitVec 32)) : (us xs).toArray.all (·.oneCell') = true :=
  Array.all_eq_true_iff_forall_mem.2 (fun v hv => us_one xs v (by simpa using hv))
theorem zero64 : #[Value.int .u32 0, .int .u32 0, .int .u32 0, .int .u32 0, .int .u32 0, .int .u32 0, .int .u32 0, .int .u32 0, .int .u32 0, .int .u32 0, .int .u32 0, .int .u32 0, .int .u32 0, .int .u32 0, .int .u32 0, .int .u32 0, .int .u32 0, .int .u32 0, .int .u32 0, .int .u32 0, .int .u32 0, .int .u32 0, .int .u32 0, .int .u32 0, .int .u32 0, .int .u32 0, .int .u32 0, .int .u32 0, .int .u32 0, .int .u32 0, .int .u32 0, .int .u32 0, .int .u32 0, .int .u32 0, .int .u32 0, .int .u32 0, .int .u32 0, .int .u32 0, .int .u32 0, .int .u32 0, .int .u32 0, .int .u32 0, .int .u32 0, .int .u32 0, .int .u32 0, .int .u32 0, .int .u32 0, .int .u32 0, .int .u32 0, .int .u32 0, .int .u32 0, .int .u32 0, .int .u32 0, .int .u32 0, .int .u32 0, .int .u32 0, .int .u32 0, .int .u32 0, .int .u32 0, .int .u32 0, .int .u32 0, .int .u32 0, .int .u32 0, .int .u32 0] = (us z64).toArray := rfl
/-- A difference that fits. -/
theorem sub_fits (k n : Nat) (h : n ≤ k) (h2 : k < 64) : IntKind.i64.wrap ((k : Int) - n) = (k : Int) - n ∧ ((k : Int) - n).toNat = k - n ∧ 0 ≤ (k : Int) - n ∧ (k : Int) - n < 64 :=
  ⟨by rw [IntKind.wrap_i64]; omega, by omega, by omega, by omega⟩
/-- An element of an array that lies in no memory. -/
theorem run_index_row {P : Program} (w : World) (T e : TypeId) (n : Nat) (j : IntKind) (hT : P.underlying T = some (.array n e)) (he : P.underlying e = some (.int j)) (hs : (P.info? e).map (·.size) = some 1)
    (vs : List Value) (i : Nat) (hi : i < n) (v : Value) (hv : vs[i]? = some v) (k : IntKind) : (Instr.index T (.agg vs.toArray) (.int k (i : Int))).run P w = .ok v w := by
  cases hq : P.info? e with
  | none => simp [hq] at hs
  | some inf =>
    have hz : inf.size = 1 := by simpa [hq] using hs
    simp only [Instr.index, asIntOf, Sem.run_bind, Sem.run_pure, Result.andThen_ok, run_underlying hT]
    rw [if_pos (by omega)]
    simp [sizeOf, typeInfo, hq, hz, part, isAgg, run_underlying he, hv]
end
attribute [go_sem ↓] storeCells_uw w_cells
attribute [go_sem] bw_of bw_of' bw_of2 w_add w_add_l w_mul_l w_and w_or w_or_l w_xor w_shl w_shr w_not w_eql run_store_uw run_convert_wb
end Go.Proofs.YtjfpdbhjbleffaaDoor
