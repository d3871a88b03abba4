/-
  What layer 8's laws share: what the program's leaves and nodes answer, said of one world and all later ones; hashes stored.
-/
import Derived.Test.YthbppiobadcbkaaDoorN1
import Derived.Test.YthbppiobadcbkaaDoorDc
import Derived.Test.YthbppiobadcbkaaDoorY1
import Derived.Test.YthbppiobadcbkaaDoorY9
namespace Go.Proofs.YthbppiobadcbkaaDoor
open Go.RowKit

theorem zeroH8 : (Tryd.prog.info? 29).bind (·.zero) = some (.agg (ubs n32).toArray) := by kernel_rfl
theorem run_build_hash0 {o : Oper} {a : Go.Act} {W : World} (ho : o.op = .build 29 #[]) : (execOp a.eval o).run Tryd.prog W = .ok (.value (.agg (ubs n32).toArray)) W :=
  run_build_of _ _ ho _ (by kernel_rfl)
/-- Whether an index is one. -/
def ixB (i : Nat) : Bool := decide (i ≤ 4294967295)
/-- A leaf's text and hash, as the program answers. -/
def lfT (i e : Nat) (d t : List UInt8) : List UInt8 := if ixB i then leafT i e d t else []
def lfH (i e : Nat) (d t : List UInt8) : List UInt8 := if ixB i then hashL (leafT i e d t) else n32
def LeafTextC (w : World) : Prop := ∀ (W : World) (i e : Nat) (d t : List UInt8), Below w.heap.size w W → i < 18446744073709551616 → e < 18446744073709551616 → d.length = 32 → t.length = 16 →
  Calls Tryd.prog 9 #[.int .u64 (i : Int), .agg (sv e d t).toArray] W fun r w' => ∃ A n c, r = .returned (.tuple #[.slice A n c, errV (if ixB i then 0 else 1)]) ∧ n = (lfT i e d t).length ∧ Rb w' w'.heap.size A (lfT i e d t) ∧ Below W.heap.size W w'
def LeafC (w : World) : Prop := ∀ (W : World) (i e : Nat) (d t : List UInt8), Below w.heap.size w W → i < 18446744073709551616 → e < 18446744073709551616 → d.length = 32 → t.length = 16 →
  Calls Tryd.prog 8 #[.int .u64 (i : Int), .agg (sv e d t).toArray] W fun r w' => r = .returned (.tuple #[.agg (ubs (lfH i e d t)).toArray, errV (if ixB i then 0 else 1)]) ∧ Below W.heap.size W w'
/-- What a text is of, as the program answers. -/
def KindC (w : World) : Prop := ∀ (W : World) (b : List UInt8) (A : Option Addr) (c : Nat), Below w.heap.size w W → Rb W W.heap.size A b → b.length ≤ 1000 →
  Calls Tryd.prog 15 #[.slice A b.length c] W fun r w' => r = .returned (.int .i64 (kindN b : Int)) ∧ Below W.heap.size W w'
/-- Whether a height is a node's. -/
def htB (h : Int) : Bool := decide (1 ≤ h) && decide (h ≤ 32)
def jnT (h : Int) (l r : List UInt8) : List UInt8 := if htB h then joinT h.toNat l r else []
def jnH (h : Int) (l r : List UInt8) : List UInt8 := if htB h then hashL (joinT h.toNat l r) else n32
def JoinTextC (w : World) : Prop := ∀ (W : World) (h : Int) (l r : List UInt8), Below w.heap.size w W → -9223372036854775808 ≤ h → h < 9223372036854775808 → l.length = 32 → r.length = 32 →
  Calls Tryd.prog 17 #[.int .i64 h, .agg (ubs l).toArray, .agg (ubs r).toArray] W fun e w' => ∃ A n c, e = .returned (.tuple #[.slice A n c, errV (if htB h then 0 else 1)]) ∧ n = (jnT h l r).length ∧ Rb w' w'.heap.size A (jnT h l r) ∧ Below W.heap.size W w'
def JoinC (w : World) : Prop := ∀ (W : World) (h : Int) (l r : List UInt8), Below w.heap.size w W → -9223372036854775808 ≤ h → h < 9223372036854775808 → l.length = 32 → r.length = 32 →
  Calls Tryd.prog 16 #[.int .i64 h, .agg (ubs l).toArray, .agg (ubs r).toArray] W fun e w' => e = .returned (.tuple #[.agg (ubs (jnH h l r)).toArray, errV (if htB h then 0 else 1)]) ∧ Below W.heap.size W w'
/-- An empty hash, as the program answers. -/
def emB (h : Int) : Bool := decide (0 ≤ h) && decide (h ≤ 32)
def emH (h : Int) : List UInt8 := if emB h then emptyL h.toNat else n32
def EmptyC (w : World) : Prop := ∀ (W : World) (h : Int), Below w.heap.size w W → -9223372036854775808 ≤ h → h < 9223372036854775808 →
  Calls Tryd.prog 18 #[.int .i64 h] W fun e w' => e = .returned (.tuple #[.agg (ubs (emH h)).toArray, errV (if emB h then 0 else 1)]) ∧ Below W.heap.size W w'
def EmptiesC (w : World) : Prop := ∀ (W : World), Below w.heap.size w W →
  Calls Tryd.prog 22 #[] W fun e w' => e = .returned (.agg (ubs (eRow 33)).toArray) ∧ Below W.heap.size W w'
def Alive8C (w : World) : Prop := ∀ W : World, Below w.heap.size w W → Calls Tryd.prog 7 #[] W fun e w' => e = .returned (.bool true) ∧ Below W.heap.size W w'
end Go.Proofs.YthbppiobadcbkaaDoor
