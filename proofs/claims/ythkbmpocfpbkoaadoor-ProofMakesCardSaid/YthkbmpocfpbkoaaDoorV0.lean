/-
  Parts put together: the library's Grow and Concat, and the program's hash of parts.
  What a tag is, and its small parts in the program: masked block keys, single bytes, comparing bytes.
  The program's block key.
-/
import Derived.Test.YthkbmpocfpbkoaaDoorY4
import Derived.Test.YthkbmpocfpbkoaaDoorK3
import Derived.Test.YthkbmpocfpbkoaaDoorY1
namespace Go.Proofs.YthkbmpocfpbkoaaDoor
open Go.RowKit

theorem run_append_made {P : Program} (w : World) (t u ty e : TypeId) (i : TypeInfo) (z : Value) (ht : P.underlying t = some (.slice e)) (hu : P.underlying u = some (.int .i64)) (hi : P.info? e = some i) (hz : i.zero = some z) (hs : i.size = 1) (hby : i.bytes = 1)
    (n : Nat) (h0 : 0 < n) (hn : n ≤ 140737488355328) :
    (Builtin.append_ #[t, u] ty #[.slice none 0 0, .int .i64 (n : Int)]).run P w =
      .ok (.slice (some ⟨w.heap.size, 0, none⟩) n (grownCap w n 0 e)) (w.drew.alloc (.cells (Builtin.zeroCells z.cells n ++ Builtin.zeroCells z.cells (grownCap w n 0 e - n)) e)) := by
  have hw : IntKind.i64.wrap (n : Int) = n := by rw [IntKind.wrap_i64]; omega
  have h1 : ¬ ((n : Int) < 0) := by omega
  have h2 : ¬ (281474976710656 < (n : Int)) := by omega
  have h3 : n ≠ 0 := by omega
  have h4 : ¬ (9223372036854775807 < (n : Int)) := by omega
  have h5 : ¬ (281474976710656 < Builtin.nextslicecap n 0) := by rw [nextslicecap_zero h0]; omega
  simp [Builtin.append_, run_underlying ht, run_underlying hu, sizeOf, typeInfo, zeroValue, hi, hz, hs, hby, asInt, asIntOf, hw, h2, h3, h4, h5, Question.forced, newRow, grownCap, Builtin.firstCells]
  exact fun h => absurd h h1
theorem wpList_append_made {P : Program} {w : World} {ops : Array Oper} {rest : List Oper} {o : Oper} {a : Go.Act} {Q : Exit → Go.Act → World → Prop} (hgd : o.guard = none) (s x : Operand) (t u : TypeId)
    (ho : o.op = .call { callee := .builtin .append, args := #[s, x], argTypes := #[t, u] }) (e : TypeId) (i : TypeInfo) (z : Value) (ht : P.underlying t = some (.slice e)) (hu : P.underlying u = some (.int .i64)) (hi : P.info? e = some i) (hz : i.zero = some z) (hs : i.size = 1) (hby : i.bytes = 1)
    (n : Nat) (hx : a.eval s = .slice none 0 0) (hy : a.eval x = .int .i64 (n : Int)) (h0 : 0 < n) (hn : n ≤ 140737488355328)
    (h : wpList P ops Q rest (a.put o.dst (.slice (some ⟨w.heap.size, 0, none⟩) n (grownCap w n 0 e))) (w.drew.alloc (.cells (Builtin.zeroCells z.cells n ++ Builtin.zeroCells z.cells (grownCap w n 0 e - n)) e))) : wpList P ops Q (o :: rest) a w := by
  refine wpList_plain hgd fun K hK => ?_
  unfold Oper.wp execOp
  simp only [ho, resolve, invoke, builtin, Sem.run_bind, Sem.run_pure, Result.andThen_ok, List.map_toArray, List.map_cons, List.map_nil, hx, hy, run_append_made (P := P) w t u o.type e i z ht hu hi hz hs hby n h0 hn]
  exact hK _ _ h

/-- A part: an address, bytes, a capacity. -/
structure Part where
  A : Option Addr
  bs : List UInt8
  c : Nat
def Part.v (p : Part) : Value := .slice p.A p.bs.length p.c
def joined (ps : List Part) : List UInt8 := ps.flatMap (·.bs)
theorem joined_take (ps : List Part) (k : Nat) (h : k < ps.length) : joined (ps.take (k + 1)) = joined (ps.take k) ++ ps[k].bs := by
  unfold joined
  rw [List.take_succ_eq_append_getElem h, List.flatMap_append]
  congr 1
  exact List.flatMap_singleton _ _
theorem joined_le (ps : List Part) (k : Nat) : (joined (ps.take k)).length ≤ (joined ps).length := by
  conv => rhs; rw [← List.take_append_drop k ps]
  simp only [joined, List.flatMap_append, List.length_append]
  omega
attribute [irreducible] joined
end Go.Proofs.YthkbmpocfpbkoaaDoor

namespace Go.Proofs.YthkbmpocfpbkoaaDoor
open Go.RowKit

/-- Bytes XORed with one byte; the first k of them. -/
def maskL (b : List UInt8) (m : UInt8) : List UInt8 := b.map (· ^^^ m)
def maskk (b : List UInt8) (m : UInt8) (k : Nat) : List UInt8 := (b.take k).map (· ^^^ m) ++ b.drop k
theorem maskL_length (b : List UInt8) (m : UInt8) : (maskL b m).length = b.length := by simp [maskL]
theorem maskk_zero (b : List UInt8) (m : UInt8) : maskk b m 0 = b := by simp [maskk]
theorem maskk_all (b : List UInt8) (m : UInt8) (k : Nat) (h : b.length = k) : maskk b m k = maskL b m := by simp [maskk, maskL, ← h]
theorem maskk_length (b : List UInt8) (m : UInt8) (k : Nat) : (maskk b m k).length = b.length := by simp [maskk]; omega
theorem maskk_get (b : List UInt8) (m : UInt8) (k : Nat) (h : k < b.length) : (maskk b m k).getD k 0 = b.getD k 0 := by
  unfold maskk
  rw [List.getD_eq_getElem?_getD, List.getD_eq_getElem?_getD, List.getElem?_append_right (by simp; omega)]
  simp [Nat.min_eq_left (Nat.le_of_lt h)]
theorem maskk_succ (b : List UInt8) (m : UInt8) (k : Nat) (h : k < b.length) : maskk b m (k + 1) = (maskk b m k).set k (b.getD k 0 ^^^ m) := by
  have hg : b.getD k 0 = b[k] := by simp [h]
  unfold maskk
  have hl : ((b.take k).map (· ^^^ m)).length = k := by simp; omega
  rw [hg, List.set_append_right _ _ (by omega), List.take_succ_eq_append_getElem h, List.map_append, List.append_assoc, List.drop_eq_getElem_cons h, hl, Nat.sub_self]
  rfl
attribute [irreducible] maskk
/-- A key filled up to 64 bytes; the block key. -/
def padK (k : List UInt8) : List UInt8 := k ++ List.replicate (64 - k.length) 0
def blockL (k : List UInt8) : List UInt8 := padK (if 64 < k.length then hashL k else k)
theorem padK_length (k : List UInt8) (h : k.length ≤ 64) : (padK k).length = 64 := by simp [padK]; omega
theorem blockL_length (k : List UInt8) : (blockL k).length = 64 := by
  unfold blockL
  split
  · exact padK_length _ (by rw [hashL_length]; omega)
  · exact padK_length _ (by omega)
/-- The tag. -/
def macL (k t : List UInt8) : List UInt8 := hashL (maskL (blockL k) 92 ++ hashL (maskL (blockL k) 54 ++ t))
theorem macL_length (k t : List UInt8) : (macL k t).length = 32 := hashL_length _
theorem macL_eq (k t : List UInt8) : macL k t = hashL (maskL (blockL k) 92 ++ hashL (maskL (blockL k) 54 ++ t)) := rfl
theorem blockL_long (k : List UInt8) (h : 64 < k.length) : blockL k = padK (hashL k) := by unfold blockL; rw [if_pos h]
theorem blockL_short (k : List UInt8) (h : ¬ 64 < k.length) : blockL k = padK k := by unfold blockL; rw [if_neg h]

theorem n_xor (t : TypeId) (a b : Nat) (ha : a < 2 ^ 63) (hb : b < 2 ^ 63) : binOp .xor t (.int .i64 (a : Int)) (.int .i64 (b : Int)) = pure (.int .i64 ((a ^^^ b : Nat) : Int)) := by
  simp only [binOp_xor, Op.intBits]
  show (pure (.int .i64 (IntKind.i64.wrap ((BitVec.ofInt 64 (a : Int) ^^^ BitVec.ofInt 64 (b : Int)).toNat : Int))) : Sem Value) = _
  congr 2
  have h3 : a ^^^ b < 2 ^ 63 := Nat.xor_lt_two_pow ha hb
  rw [BitVec.ofInt_natCast, BitVec.ofInt_natCast, BitVec.toNat_xor, BitVec.toNat_ofNat, BitVec.toNat_ofNat, Nat.mod_eq_of_lt (by omega), Nat.mod_eq_of_lt (by omega), IntKind.wrap_i64]
  omega
theorem n_or (t : TypeId) (a b : Nat) (ha : a < 2 ^ 63) (hb : b < 2 ^ 63) : binOp .or t (.int .i64 (a : Int)) (.int .i64 (b : Int)) = pure (.int .i64 ((a ||| b : Nat) : Int)) := by
  simp only [binOp_or, Op.intBits]
  show (pure (.int .i64 (IntKind.i64.wrap ((BitVec.ofInt 64 (a : Int) ||| BitVec.ofInt 64 (b : Int)).toNat : Int))) : Sem Value) = _
  congr 2
  have h3 : a ||| b < 2 ^ 63 := Nat.or_lt_two_pow ha hb
  rw [BitVec.ofInt_natCast, BitVec.ofInt_natCast, BitVec.toNat_or, BitVec.toNat_ofNat, BitVec.toNat_ofNat, Nat.mod_eq_of_lt (by omega), Nat.mod_eq_of_lt (by omega), IntKind.wrap_i64]
  omega

end Go.Proofs.YthkbmpocfpbkoaaDoor

namespace Go.Proofs.YthkbmpocfpbkoaaDoor
open Go.RowKit

def n64 : List UInt8 := List.replicate 64 0
theorem n64_length : n64.length = 64 := by simp [n64]
theorem noughts64 : #[Value.int .u8 0, .int .u8 0, .int .u8 0, .int .u8 0, .int .u8 0, .int .u8 0, .int .u8 0, .int .u8 0, .int .u8 0, .int .u8 0, .int .u8 0, .int .u8 0, .int .u8 0, .int .u8 0, .int .u8 0, .int .u8 0, .int .u8 0, .int .u8 0, .int .u8 0, .int .u8 0, .int .u8 0, .int .u8 0, .int .u8 0, .int .u8 0, .int .u8 0, .int .u8 0, .int .u8 0, .int .u8 0, .int .u8 0, .int .u8 0, .int .u8 0, .int .u8 0, .int .u8 0, .int .u8 0, .int .u8 0, .int .u8 0, .int .u8 0, .int .u8 0, .int .u8 0, .int .u8 0, .int .u8 0, .int .u8 0, .int .u8 0, .int .u8 0, .int .u8 0, .int .u8 0, .int .u8 0, .int .u8 0, .int .u8 0, .int .u8 0, .int .u8 0, .int .u8 0, .int .u8 0, .int .u8 0, .int .u8 0, .int .u8 0, .int .u8 0, .int .u8 0, .int .u8 0, .int .u8 0, .int .u8 0, .int .u8 0, .int .u8 0, .int .u8 0] = (ubs n64).toArray := rfl
theorem sizeB64' : (Tryd.prog.info? 163).map (·.size) = some 64 := by kernel_rfl
theorem padK_splice (k : List UInt8) (h : k.length ≤ 64) : splice (ubs n64) 0 ((ubs k).take 64) = ubs (padK k) := by
  rw [List.take_of_length_le (by rw [ubs_length]; exact h)]
  simp only [splice, List.take_zero, List.nil_append, ubs_length, Nat.zero_add, ubs_drop, ← ubs_append, n64, List.drop_replicate, padK]
/-- What holds while a block key is made: its result, the block, the rest below. -/
structure BkW (w : World) (xs : List UInt8) (W : World) : Prop where
  res : At W w.heap.size (ubs n64).toArray 163
  blk : At W (w.heap.size + 1) (ubs xs).toArray 163
  below : Below w.heap.size w W
theorem BkW.next {w W W' : World} {xs : List UInt8} (h : BkW w xs W) (hb : Below W.heap.size W W') : BkW w xs W' :=
  ⟨h.res.new_ hb, h.blk.new_ hb, h.below.trans (hb.mono h.below.size)⟩
theorem BkW.fill {w W W' : World} {xs ys : List UInt8} (h : BkW w xs W) (hf : Fr (fun k => k = w.heap.size + 1) W W') (ha : At W' (w.heap.size + 1) (ubs ys).toArray 163) : BkW w ys W' :=
  ⟨h.res.fr hf (by omega), ha, h.below.trans (hf.below (fun k hk => by omega) h.below.size)⟩
theorem BkW.start (w : World) : BkW w n64 ((w.alloc (.cells (ubs n64).toArray 163)).alloc (.cells (ubs n64).toArray 163)) :=
  ⟨(At.new w _ _).alloc _, At.new_at (by simp), ((Below.refl _ _).alloc (Nat.le_refl _) _).alloc (by simp) _⟩
/-- A hash put into a block of its own. -/
theorem stored_below (w : World) (h : List UInt8) : Below w.heap.size w ((w.alloc (.cells (ubs n32).toArray 35)).setRow w.heap.size (ubs h).toArray) := below_setRow ((Below.refl _ _).alloc (Nat.le_refl _) _) (Nat.le_refl _) _
theorem stored_at (w : World) (h : List UInt8) : At ((w.alloc (.cells (ubs n32).toArray 35)).setRow w.heap.size (ubs h).toArray) w.heap.size (ubs h).toArray 35 := setRow_heap _ _ (ubs n32).toArray _ _ _ (At.new _ _ _)
theorem stored_rb (w : World) (h : List UInt8) : Rb ((w.alloc (.cells (ubs n32).toArray 35)).setRow w.heap.size (ubs h).toArray) ((w.alloc (.cells (ubs n32).toArray 35)).setRow w.heap.size (ubs h).toArray).heap.size (some ⟨w.heap.size, 0, none⟩) h := rb_at (stored_at w h)
end Go.Proofs.YthkbmpocfpbkoaaDoor
