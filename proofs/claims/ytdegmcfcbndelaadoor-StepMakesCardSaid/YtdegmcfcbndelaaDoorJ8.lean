/-
  Whether an error is none.
  A loop over an iterator that lays its own blocks between rounds and reads them again behind them: its contract, and the law for the loop. The loop's body turns nothing that was laid since the iterator was called, but for what it lays itself. Nothing here speaks of the program.
-/
import Derived.Test.YtdegmcfcbndelaaDoorY9
import Derived.Test.YtdegmcfcbndelaaDoorY1
namespace Go.Proofs.YtdegmcfcbndelaaDoor
open Go.RowKit

end Go.Proofs.YtdegmcfcbndelaaDoor

namespace Go.Proofs.YtdegmcfcbndelaaDoor
open Go.RowKit

section
variable {F : Fence} {n : Nat} {P : Program}
/-- Whatever lay from block B on lies as it lay. -/
structure KeepsAll (B : Nat) (A A' : World) : Prop where
  size : A.heap.size ≤ A'.heap.size
  same : ∀ k, B ≤ k → k < A.heap.size → A'.heap[k]? = A.heap[k]?
theorem KeepsAll.refl (B : Nat) (A : World) : KeepsAll B A A := ⟨Nat.le_refl _, fun _ _ _ => rfl⟩
theorem KeepsAll.trans {B : Nat} {X Y Z : World} (h : KeepsAll B X Y) (k : KeepsAll B Y Z) : KeepsAll B X Z :=
  ⟨Nat.le_trans h.size k.size, fun i hi hl => (k.same i hi (Nat.lt_of_lt_of_le hl h.size)).trans (h.same i hi hl)⟩
theorem KeepsAll.mono {B B' : Nat} {X Y : World} (h : KeepsAll B X Y) (hb : B ≤ B') : KeepsAll B' X Y := ⟨h.size, fun k hk hl => h.same k (Nat.le_trans hb hk) hl⟩
theorem KeepsAll.of_below {B : Nat} {X Y : World} (h : Below X.heap.size X Y) : KeepsAll B X Y := ⟨h.size, fun k _ hl => h.block k hl⟩
theorem KeepsAll.putObj {B : Nat} (W : World) (l : Nat) (o : Obj) (hl : l < B) : KeepsAll B W (W.putObj l o) :=
  ⟨(grownBy_putObj' W l o).size, fun k hk _ => World.putObj_heap_other (by omega)⟩
theorem KeepsAll.setCell {B : Nat} (W : World) (p : Addr) (v : Value) (hl : p.block < B) : KeepsAll B W (W.setCell p v) :=
  ⟨by simp [World.setCell], fun k hk _ => Below.heap_setCell W p v k (by omega)⟩
theorem KeepsAll.setRow {B : Nat} (W : World) (g : Nat) (cs : Array Value) (hl : g < B) : KeepsAll B W (W.setRow g cs) := ⟨by simp, fun k hk _ => setRow_other W g k cs (by omega)⟩
theorem KeepsAll.from {B : Nat} {X Y : World} (h : KeepsAll B X Y) : KeepsFrom B X Y := ⟨h.size, fun k _ hk h0 _ => (h.same k hk (Array.getElem?_eq_some_iff.1 h0).1).trans h0⟩
/-- What speaks of nothing from block B on. -/
def FreeB {β : Type} (B : Nat) (J : β → World → Prop) : Prop := ∀ s W W', J s W → Below B W W' → J s W'
theorem FreeB.and {β : Type} {B : Nat} {I J : β → World → Prop} (h : FreeB B I) (h' : FreeB B J) : FreeB B (fun s W => I s W ∧ J s W) := fun s W W' hs hb => ⟨h s W W' hs.1 hb, h' s W W' hs.2 hb⟩
/-- What an iterator promises that may lay blocks of its own: what its caller says (J) speaks of nothing that is laid from its call on, and a round turns nothing of it. -/
def SeqFree {α : Type} (F : Fence) (n : Nat) (P : Program) (g : Nat) (lb : Array Value) (encs : α → Array Value) (Kp : World → World → Prop) (S Sp : List α → Prop) (N : Nat) (w : World) : Prop :=
  ∀ (l : Nat) (J Jx : List α → World → Prop) (W : World), Below w.heap.size w W → FreeB W.heap.size J → FreeB W.heap.size Jx →
    (∀ pre x W1, J pre W1 → pre.length < N → YieldAt F (n - 1) P l (encs x) W1 fun e W' =>
      (e = .returned (.bool true) ∧ J (pre ++ [x]) W' ∧ Kp W1 W' ∧ KeepsAll W.heap.size W1 W') ∨ (e = .returned (.bool false) ∧ Jx (pre ++ [x]) W' ∧ KeepsAll W.heap.size W1 W')) →
    J [] W →
    CallsIn F n P g (#[.func (.yield l) #[] #[]] ++ lb) W fun e W' => (∃ v, e = .returned v) ∧ ((∃ xs, S xs ∧ J xs W') ∨ (∃ pre, Sp pre ∧ Jx pre W'))
theorem SeqFree.later {α : Type} {g : Nat} {lb : Array Value} {encs : α → Array Value} {Kp : World → World → Prop} {S Sp : List α → Prop} {N : Nat} {w w' : World} (h : SeqFree F n P g lb encs Kp S Sp N w) (hb : Below w.heap.size w w') : SeqFree F n P g lb encs Kp S Sp N w' :=
  fun l J Jx W hW => h l J Jx W (hb.trans (hW.mono hb.size))
theorem SeqFree.imp {α : Type} {g : Nat} {lb : Array Value} {encs : α → Array Value} {Kp : World → World → Prop} {S Sp S' Sp' : List α → Prop} {N : Nat} {w : World} (h : SeqFree F n P g lb encs Kp S Sp N w) (hs : ∀ xs, S xs → S' xs) (hp : ∀ xs, Sp xs → Sp' xs) : SeqFree F n P g lb encs Kp S' Sp' N w :=
  fun l J Jx W hW hJ hJx hY h0 => (h l J Jx W hW hJ hJx hY h0).mono fun _ _ ⟨h1, h2⟩ => ⟨h1, h2.imp (fun ⟨xs, a, b⟩ => ⟨xs, hs xs a, b⟩) (fun ⟨xs, a, b⟩ => ⟨xs, hp xs a, b⟩)⟩
theorem belowB_putObj {B : Nat} (W : World) (l : Nat) (o : Obj) (hl : B ≤ l) (hw : l < W.heap.size) : Below B W (W.putObj l o) :=
  (Below.refl _ W).grown (grownBy_putObj' W l o) (by omega) fun r e => by cases e; exact hl
theorem FreeB.putObj {β : Type} {B : Nat} {J : β → World → Prop} (h : FreeB B J) {s : β} {W : World} (hs : J s W) (l : Nat) (o : Obj) (hl : B ≤ l) (hw : l < W.heap.size) : J s (W.putObj l o) := h s W _ hs (belowB_putObj W l o hl hw)
theorem FreeB.alloc {β : Type} {B : Nat} {J : β → World → Prop} (h : FreeB B J) {s : β} {W : World} (hs : J s W) (o : Obj) (hw : B ≤ W.heap.size) : J s (W.alloc o) := h s W _ hs ((Below.refl _ _).alloc hw _)
theorem FreeB.mono {β : Type} {B B' : Nat} {J : β → World → Prop} (h : FreeB B J) (hb : B ≤ B') : FreeB B' J := fun s W W' hs hg => h s W W' hs (hg.mono hb)
theorem Booked.later {w W W' : World} {rec : LoopState → Option Code → Loop} {st : LoopState} {c : Option Code} {B : Nat} (h : Booked w rec st c W) (hb : Below B W W') (hB : w.heap.size + 2 ≤ B) : Booked w rec st c W' :=
  ⟨(hb.block _ (by omega)).trans h.l, (hb.block _ (by omega)).trans h.d⟩
end
end Go.Proofs.YtdegmcfcbndelaaDoor
