/-
  TicketSigns of layer 13: the ticket of any order, its bytes, which tags are its own.
-/
import Derived.Test.YtfmbpdjcoopaeaaDoorMD
import Derived.Test.YtfmbpdjcoopaeaaDoorMA
import Derived.Test.YtfmbpdjcoopaeaaDoorK7
import Derived.Test.YtfmbpdjcoopaeaaDoorM6
import Derived.Test.YtfmbpdjcoopaeaaDoorMB
import Derived.Test.YtfmbpdjcoopaeaaDoorMH
import Derived.Test.YtfmbpdjcoopaeaaDoorY1
namespace Go.Proofs.YtfmbpdjcoopaeaaDoor
open Go.RowKit

theorem run_loadTg {o : Oper} {a : Go.Act} {W : World} (x : Operand) (ho : o.op = .load 30 x) (b off : Nat) (hx : a.eval x = .pointer (some ⟨b, off, none⟩)) (l : List UInt8) (hc : W.rangeAt b off (ubs l)) (hl : l.length = 16) : (execOp a.eval o).run Tryd.prog W = .ok (.value (.agg (ubs l).toArray)) W :=
  run_load_part _ x ho b off hx (ubs l) _ hc Tryd.underlying30 rfl (by rw [size16, ubs_length, hl])
theorem okT_tk0 : okT tk0 := ⟨by decide, by decide, ⟨(fun _ h => nomatch h), (fun _ h => nomatch h), by decide⟩, by simp [tk0]⟩
theorem oi_tk0 (W : World) (B : Nat) : OrI W B tk0.o none none 0 0 := ⟨Rd.nil _ _ _, Ss.nil _ _ _, Nat.le_refl _, Nat.le_refl _⟩
/-- What holds behind the first calls: the arguments' boxes, the document's ticket. -/
structure TsW (w : World) (key : List UInt8) (C R : List Value) (D : Nat) (od : Ord13) (AI A' : Option Addr) (cI c' : Nat) (V : World) : Prop where
  bl : Below w.heap.size w V
  k : At V w.heap.size (ubs key).toArray 25
  o : At V (w.heap.size + 1) C.toArray 105
  r : At V D R.toArray 107
  i : OrI V V.heap.size od AI A' cI c'
theorem TsW.new {w V V' : World} {key : List UInt8} {C R : List Value} {D : Nat} {od : Ord13} {AI A' : Option Addr} {cI c' : Nat} (k : TsW w key C R D od AI A' cI c' V) (hb : Below V.heap.size V V') : TsW w key C R D od AI A' cI c' V' := ⟨k.bl.trans (hb.mono k.bl.size), k.k.new_ hb, k.o.new_ hb, k.r.new_ hb, k.i.later hb⟩
/-- Beside: the ticket that was signed. -/
structure TsX (w : World) (key : List UInt8) (C R S : List Value) (D X : Nat) (od : Ord13) (AI A' A1 A2 : Option Addr) (cI c' c1 c2 : Nat) (V : World) : Prop where
  m : TsW w key C R D od AI A' cI c' V
  s : At V X S.toArray 105
  j : OrI V V.heap.size od A1 A2 c1 c2
theorem TsX.new {w V V' : World} {key : List UInt8} {C R S : List Value} {D X : Nat} {od : Ord13} {AI A' A1 A2 : Option Addr} {cI c' c1 c2 : Nat} (k : TsX w key C R S D X od AI A' A1 A2 cI c' c1 c2 V) (hb : Below V.heap.size V V') : TsX w key C R S D X od AI A' A1 A2 cI c' c1 c2 V' := ⟨k.m.new hb, k.s.new_ hb, k.j.later hb⟩
/-- Beside: the bytes, and the document's ticket with its own tag. -/
structure TsY (w : World) (key : List UInt8) (C R S T : List Value) (D X Y : Nat) (od : Ord13) (AI A' A1 A2 Ab : Option Addr) (cI c' c1 c2 : Nat) (pb : List UInt8) (V : World) : Prop where
  x : TsX w key C R S D X od AI A' A1 A2 cI c' c1 c2 V
  y : At V Y T.toArray 107
  b : Rb V V.heap.size Ab pb
theorem TsY.new {w V V' : World} {key : List UInt8} {C R S T : List Value} {D X Y : Nat} {od : Ord13} {AI A' A1 A2 Ab : Option Addr} {cI c' c1 c2 : Nat} {pb : List UInt8} (k : TsY w key C R S T D X Y od AI A' A1 A2 Ab cI c' c1 c2 pb V) (hb : Below V.heap.size V V') : TsY w key C R S T D X Y od AI A' A1 A2 Ab cI c' c1 c2 pb V' := ⟨k.x.new hb, k.y.new_ hb, (Rd.below k.b hb).mono hb.size⟩
end Go.Proofs.YtfmbpdjcoopaeaaDoor
