/-
  Layer 12: StepCuts: the root behind any cutting step, and what any leaf and path come to.
-/
import Derived.Test.YtdegmcfcbndelaaDoorL6
import Derived.Test.YtdegmcfcbndelaaDoorL9
import Derived.Test.YtdegmcfcbndelaaDoorJ1
namespace Go.Proofs.YtdegmcfcbndelaaDoor
open Go.RowKit

theorem sizeCut12 : (Tryd.prog.info? 83).map (·.size) = some 33 := by kernel_rfl
theorem run_loadC12 {o : Oper} {a : Go.Act} {W : World} (x : Operand) (ho : o.op = .load 83 x) (b : Nat) (hx : a.eval x = .pointer (some ⟨b, 0, none⟩)) (C : List Value) (h : At W b C.toArray 83) (hl : C.length = 33) : (execOp a.eval o).run Tryd.prog W = .ok (.value (.agg C.toArray)) W :=
  run_load_part _ x ho b 0 hx C _ (fun j u hu => by rw [Nat.zero_add, h.cell, List.getElem?_toArray]; exact hu) Tryd.underlying83 rfl (by rw [sizeCut12, hl])
/-- What the law has in memory. -/
structure ScW (W : World) (leaf : List UInt8) (A : Option Addr) (n c a b : Nat) (V : World) : Prop where
  bl : Below W.heap.size W V
  cu : At V W.heap.size (cutV leaf A n c).toArray 83
  sz : At V (W.heap.size + 1) #[.int .u64 (a : Int), .int .u64 (b : Int)] 84
section
variable {W V V' : World} {leaf : List UInt8} {A : Option Addr} {n c a b : Nat}
theorem ScW.new (k : ScW W leaf A n c a b V) (hb : Below V.heap.size V V') : ScW W leaf A n c a b V' := ⟨k.bl.trans (hb.mono k.bl.size), k.cu.new_ hb, k.sz.new_ hb⟩
theorem ScW.drew (k : ScW W leaf A n c a b V) : ScW W leaf A n c a b V.drew := k.new (Below.refl _ _).drew
theorem ScW.start : ScW W leaf A n c a b ((W.alloc (.cells (cutV leaf A n c).toArray 83)).alloc (.cells #[.int .u64 (a : Int), .int .u64 (b : Int)] 84)) :=
  ⟨((Below.refl _ _).alloc (Nat.le_refl _) _).alloc (by simp) _, (At.new _ _ _).alloc _, At.new_at (by simp)⟩
theorem ScW.put (k : ScW W leaf A n c a b V) {G : Nat} (hG : W.heap.size + 2 ≤ G) (cs : Array Value) : ScW W leaf A n c a b (V.setRow G cs) :=
  ⟨below_setRow k.bl (by omega) _, At.setRow_far k.cu (by omega), At.setRow_far k.sz (by omega)⟩
theorem ScW.far (k : ScW W leaf A n c a b V) : W.heap.size + 2 ≤ V.heap.size := by have := k.sz.lt; omega
end
end Go.Proofs.YtdegmcfcbndelaaDoor
