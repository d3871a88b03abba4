/-
  The document's encryption of a block.
-/
import Derived.Test.YtenlidbgllahhaaEk
import Derived.BigQuiet
import Derived.Deep.Cut
namespace Go.Proofs.Ytenlidbgllahhaa
open Go.RowKit

/-- XOR that the walk does not open. -/
def xr (a b : UInt8) : UInt8 := a ^^^ b
theorem xr_eq (a b : UInt8) : xr a b = a ^^^ b := rfl
theorem b_xr (t : TypeId) (a b : UInt8) : binOp .xor t (.int .u8 (a.toNat : Int)) (.int .u8 (b.toNat : Int)) = pure (.int .u8 ((xr a b).toNat : Int)) := b_xor t a b
attribute [irreducible] xr
/-- Bytes substituted and moved; columns mixed; a round; all rounds. -/
def shF (b : List UInt8) (i : Nat) : UInt8 := sT (b.getD (4 * ((i / 4 + i % 4) % 4) + i % 4) 0)
def mix0 (p q u v : UInt8) : UInt8 := xr (xr (xr (xr (dbl p) (dbl q)) q) u) v
def mix1 (p q u v : UInt8) : UInt8 := xr (xr (xr (xr p (dbl q)) (dbl u)) u) v
def mix2 (p q u v : UInt8) : UInt8 := xr (xr (xr (xr p q) (dbl u)) (dbl v)) v
def mix3 (p q u v : UInt8) : UInt8 := xr (xr (xr (xr (dbl p) p) q) u) (dbl v)
def mixF (s : List UInt8) (i : Nat) : UInt8 :=
  (if i % 4 = 0 then mix0 else if i % 4 = 1 then mix1 else if i % 4 = 2 then mix2 else mix3) (s.getD (4 * (i / 4)) 0) (s.getD (4 * (i / 4) + 1) 0) (s.getD (4 * (i / 4) + 2) 0) (s.getD (4 * (i / 4) + 3) 0)
theorem mixF_at (s : List UInt8) (c : Nat) : mixF s (4 * c) = mix0 (s.getD (4 * c) 0) (s.getD (4 * c + 1) 0) (s.getD (4 * c + 2) 0) (s.getD (4 * c + 3) 0)
    ∧ mixF s (4 * c + 1) = mix1 (s.getD (4 * c) 0) (s.getD (4 * c + 1) 0) (s.getD (4 * c + 2) 0) (s.getD (4 * c + 3) 0)
    ∧ mixF s (4 * c + 2) = mix2 (s.getD (4 * c) 0) (s.getD (4 * c + 1) 0) (s.getD (4 * c + 2) 0) (s.getD (4 * c + 3) 0)
    ∧ mixF s (4 * c + 3) = mix3 (s.getD (4 * c) 0) (s.getD (4 * c + 1) 0) (s.getD (4 * c + 2) 0) (s.getD (4 * c + 3) 0) := by
  unfold mixF
  rw [show 4 * c % 4 = 0 by omega, show (4 * c + 1) % 4 = 1 by omega, show (4 * c + 2) % 4 = 2 by omega, show (4 * c + 3) % 4 = 3 by omega, show 4 * c / 4 = c by omega, show (4 * c + 1) / 4 = c by omega, show (4 * c + 2) / 4 = c by omega, show (4 * c + 3) / 4 = c by omega]
  exact ⟨rfl, rfl, rfl, rfl⟩
def shL (b : List UInt8) : List UInt8 := mk16 (shF b)
def mixL (s : List UInt8) : List UInt8 := mk16 (mixF s)
def roundL (keys : List UInt8) (n : Nat) (b : List UInt8) : List UInt8 := addL (if n < 10 then mixL (shL b) else shL b) keys n
def encK (keys b : List UInt8) : Nat → List UInt8
  | 0 => addL b keys 0
  | k + 1 => roundL keys (k + 1) (encK keys b k)
def encL (keys b : List UInt8) : List UInt8 := encK keys b 10
theorem encK_zero (keys b : List UInt8) : encK keys b 0 = addL b keys 0 := rfl
theorem encK_succ (keys b : List UInt8) (k : Nat) : encK keys b (k + 1) = roundL keys (k + 1) (encK keys b k) := rfl
theorem encL_eq (keys b : List UInt8) : encK keys b 10 = encL keys b := rfl
theorem addL_length (b keys : List UInt8) (n : Nat) : (addL b keys n).length = 16 := mk16_length _
theorem shL_length (b : List UInt8) : (shL b).length = 16 := mk16_length _
theorem mixL_length (b : List UInt8) : (mixL b).length = 16 := mk16_length _
theorem encK_length (keys b : List UInt8) (k : Nat) : (encK keys b k).length = 16 := by
  cases k with
  | zero => exact addL_length _ _ _
  | succ k => rw [encK_succ]; exact addL_length _ _ _
attribute [irreducible] encK
/-- The table of substitutes, read by a byte. -/
theorem sT_some (x : UInt8) : (⟨STab.toArray⟩ : ByteArray)[x.toNat]? = some (sT x) := by
  have h := all_bytes (p := fun x => (⟨STab.toArray⟩ : ByteArray)[x.toNat]? == some (sT x)) (by decide +kernel) x
  simpa using h
theorem run_sT {o : Oper} {a : Go.Act} {W : World} (s : ByteArray) (c : Operand) (ho : o.op = .index 9 (.const (.string s)) c) (hs : s = ⟨STab.toArray⟩) (x : UInt8) (hx : a.eval c = .int .u8 (x.toNat : Int)) :
    (execOp a.eval o).run Try.prog W = .ok (.value (.int .u8 ((sT x).toNat : Int))) W := by
  unfold execOp
  have e1 : a.eval (.const (.string s)) = .string s := rfl
  simp only [ho, hx, e1]
  subst hs
  have h := sT_some x
  simp [Instr.index, asIntOf, run_underlying Try.underlying9, h]
end Go.Proofs.Ytenlidbgllahhaa
