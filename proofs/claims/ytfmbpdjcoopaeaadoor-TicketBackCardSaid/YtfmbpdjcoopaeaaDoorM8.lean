/-
  Trees as sorted lists of leaves: what is set is found; a node above two; a leaf and its path come to the root. Nothing here walks.
  Whether an error is none.
  A loop over an iterator that lays its own blocks between rounds and reads them again behind them: its contract, and the law for the loop. The loop's body turns nothing that was laid since the iterator was called, but for what it lays itself. Nothing here speaks of the program.
  What layer 9's laws share: what the program's trees answer, said of one world and all later ones, whatever their memory looks like.
  A number shifted to the left. Nothing here speaks of the program.
-/
import Derived.Test.YtfmbpdjcoopaeaaDoorTy
import Derived.Test.YtfmbpdjcoopaeaaDoorY9
import Derived.Test.YtfmbpdjcoopaeaaDoorY1
import Derived.Test.YtfmbpdjcoopaeaaDoorNl0
import Derived.RangeFuncNested
namespace Go.Proofs.YtfmbpdjcoopaeaaDoor

/-- Leaves in order, each index once. -/
def srt (L : List (Nat × List UInt8)) : Prop := L.Pairwise fun p q => p.1 < q.1
theorem srt.nil : srt [] := List.Pairwise.nil
theorem srt.filter {L : List (Nat × List UInt8)} (h : srt L) (f : Nat × List UInt8 → Bool) : srt (L.filter f) := List.Pairwise.filter f h
/-- A leaf set, said at once. -/
def setT (i : Nat) (h : List UInt8) (L : List (Nat × List UInt8)) : List (Nat × List UInt8) := L.filter (fun p => decide (p.1 < i)) ++ ((if h = emptyL 0 then [] else [(i, h)]) ++ L.filter (fun p => decide (i < p.1)))
theorem mem_setT {i : Nat} {h : List UInt8} {L : List (Nat × List UInt8)} {p : Nat × List UInt8} (hp : p ∈ setT i h L) : p ∈ L ∨ (p = (i, h) ∧ h ≠ emptyL 0) := by
  unfold setT at hp
  rcases List.mem_append.1 hp with hp | hp
  · exact .inl (List.mem_filter.1 hp).1
  rcases List.mem_append.1 hp with hp | hp
  · by_cases e : h = emptyL 0
    · rw [if_pos e] at hp; cases hp
    · rw [if_neg e] at hp
      exact .inr ⟨by simpa using hp, e⟩
  · exact .inl (List.mem_filter.1 hp).1
theorem srt.setT {i : Nat} {h : List UInt8} {L : List (Nat × List UInt8)} (hs : srt L) : srt (setT i h L) := by
  unfold Go.Proofs.YtfmbpdjcoopaeaaDoor.setT
  refine List.pairwise_append.2 ⟨hs.filter _, List.pairwise_append.2 ⟨?_, hs.filter _, ?_⟩, ?_⟩
  · split
    · exact List.Pairwise.nil
    · exact List.pairwise_cons.2 ⟨fun _ h => (nomatch h), List.Pairwise.nil⟩
  · intro p hp q hq
    split at hp
    · cases hp
    · obtain rfl : p = (i, h) := by simpa using hp
      simpa using (List.mem_filter.1 hq).2
  · intro p hp q hq
    have h1 : p.1 < i := by simpa using (List.mem_filter.1 hp).2
    rcases List.mem_append.1 hq with hq | hq
    · split at hq
      · cases hq
      · obtain rfl : q = (i, h) := by simpa using hq
        exact h1
    · have h2 : i < q.1 := by simpa using (List.mem_filter.1 hq).2
      omega
end Go.Proofs.YtfmbpdjcoopaeaaDoor

namespace Go.Proofs.YtfmbpdjcoopaeaaDoor
open Go.RowKit

end Go.Proofs.YtfmbpdjcoopaeaaDoor

namespace Go.Proofs.YtfmbpdjcoopaeaaDoor
open Go.RowKit

section
variable {F : Fence} {n : Nat} {P : Program}
/-- Whatever lay from block B on lies as it lay. -/
structure KeepsAll (B : Nat) (A A' : World) : Prop where
  size : A.heap.size ≤ A'.heap.size
  same : ∀ k, B ≤ k → k < A.heap.size → A'.heap[k]? = A.heap[k]?
theorem KeepsAll.refl (B : Nat) (A : World) : KeepsAll B A A := ⟨Nat.le_refl _, fun _ _ _ => rfl⟩
theorem KeepsAll.trans {B : Nat} {X Y Z : World} (h : KeepsAll B X Y) (k : KeepsAll B Y Z) : KeepsAll B X Z :=
  ⟨Nat.le_trans h.size k.size, fun i hi hl => (k.same i hi (Nat.lt_of_lt_of_le hl h.size)).trans (h.same i hi hl)⟩
theorem KeepsAll.mono {B B' : Nat} {X Y : World} (h : KeepsAll B X Y) (hb : B ≤ B') : KeepsAll B' X Y := ⟨h.size, fun k hk hl => h.same k (Nat.le_trans hb hk) hl⟩
theorem KeepsAll.of_below {B : Nat} {X Y : World} (h : Below X.heap.size X Y) : KeepsAll B X Y := ⟨h.size, fun k _ hl => h.block k hl⟩
theorem KeepsAll.putObj {B : Nat} (W : World) (l : Nat) (o : Obj) (hl : l < B) : KeepsAll B W (W.putObj l o) :=
  ⟨(grownBy_putObj' W l o).size, fun k hk _ => World.putObj_heap_other (by omega)⟩
theorem KeepsAll.setCell {B : Nat} (W : World) (p : Addr) (v : Value) (hl : p.block < B) : KeepsAll B W (W.setCell p v) :=
  ⟨by simp [World.setCell], fun k hk _ => Below.heap_setCell W p v k (by omega)⟩
theorem KeepsAll.setRow {B : Nat} (W : World) (g : Nat) (cs : Array Value) (hl : g < B) : KeepsAll B W (W.setRow g cs) := ⟨by simp, fun k hk _ => setRow_other W g k cs (by omega)⟩
theorem KeepsAll.from {B : Nat} {X Y : World} (h : KeepsAll B X Y) : KeepsFrom B X Y := ⟨h.size, fun k _ hk h0 _ => (h.same k hk (Array.getElem?_eq_some_iff.1 h0).1).trans h0⟩
/-- What speaks of nothing from block B on. -/
def FreeB {β : Type} (B : Nat) (J : β → World → Prop) : Prop := ∀ s W W', J s W → Below B W W' → J s W'
theorem FreeB.and {β : Type} {B : Nat} {I J : β → World → Prop} (h : FreeB B I) (h' : FreeB B J) : FreeB B (fun s W => I s W ∧ J s W) := fun s W W' hs hb => ⟨h s W W' hs.1 hb, h' s W W' hs.2 hb⟩
/-- What an iterator promises that may lay blocks of its own: what its caller says (J) speaks of nothing that is laid from its call on, and a round turns nothing of it. -/
def SeqFree {α : Type} (F : Fence) (n : Nat) (P : Program) (g : Nat) (lb : Array Value) (encs : α → Array Value) (Kp : World → World → Prop) (S Sp : List α → Prop) (N : Nat) (w : World) : Prop :=
  ∀ (l : Nat) (J Jx : List α → World → Prop) (W : World), Below w.heap.size w W → FreeB W.heap.size J → FreeB W.heap.size Jx →
    (∀ pre x W1, J pre W1 → pre.length < N → YieldAt F (n - 1) P l (encs x) W1 fun e W' =>
      (e = .returned (.bool true) ∧ J (pre ++ [x]) W' ∧ Kp W1 W' ∧ KeepsAll W.heap.size W1 W') ∨ (e = .returned (.bool false) ∧ Jx (pre ++ [x]) W' ∧ KeepsAll W.heap.size W1 W')) →
    J [] W →
    CallsIn F n P g (#[.func (.yield l) #[] #[]] ++ lb) W fun e W' => (∃ v, e = .returned v) ∧ ((∃ xs, S xs ∧ J xs W') ∨ (∃ pre, Sp pre ∧ Jx pre W'))
theorem SeqFree.later {α : Type} {g : Nat} {lb : Array Value} {encs : α → Array Value} {Kp : World → World → Prop} {S Sp : List α → Prop} {N : Nat} {w w' : World} (h : SeqFree F n P g lb encs Kp S Sp N w) (hb : Below w.heap.size w w') : SeqFree F n P g lb encs Kp S Sp N w' :=
  fun l J Jx W hW => h l J Jx W (hb.trans (hW.mono hb.size))
theorem SeqFree.imp {α : Type} {g : Nat} {lb : Array Value} {encs : α → Array Value} {Kp : World → World → Prop} {S Sp S' Sp' : List α → Prop} {N : Nat} {w : World} (h : SeqFree F n P g lb encs Kp S Sp N w) (hs : ∀ xs, S xs → S' xs) (hp : ∀ xs, Sp xs → Sp' xs) : SeqFree F n P g lb encs Kp S' Sp' N w :=
  fun l J Jx W hW hJ hJx hY h0 => (h l J Jx W hW hJ hJx hY h0).mono fun _ _ ⟨h1, h2⟩ => ⟨h1, h2.imp (fun ⟨xs, a, b⟩ => ⟨xs, hs xs a, b⟩) (fun ⟨xs, a, b⟩ => ⟨xs, hp xs a, b⟩)⟩
theorem belowB_putObj {B : Nat} (W : World) (l : Nat) (o : Obj) (hl : B ≤ l) (hw : l < W.heap.size) : Below B W (W.putObj l o) :=
  (Below.refl _ W).grown (grownBy_putObj' W l o) (by omega) fun r e => by cases e; exact hl
theorem FreeB.putObj {β : Type} {B : Nat} {J : β → World → Prop} (h : FreeB B J) {s : β} {W : World} (hs : J s W) (l : Nat) (o : Obj) (hl : B ≤ l) (hw : l < W.heap.size) : J s (W.putObj l o) := h s W _ hs (belowB_putObj W l o hl hw)
theorem FreeB.alloc {β : Type} {B : Nat} {J : β → World → Prop} (h : FreeB B J) {s : β} {W : World} (hs : J s W) (o : Obj) (hw : B ≤ W.heap.size) : J s (W.alloc o) := h s W _ hs ((Below.refl _ _).alloc hw _)
theorem FreeB.mono {β : Type} {B B' : Nat} {J : β → World → Prop} (h : FreeB B J) (hb : B ≤ B') : FreeB B' J := fun s W W' hs hg => h s W W' hs (hg.mono hb)
theorem Booked.later {w W W' : World} {rec : LoopState → Option Code → Loop} {st : LoopState} {c : Option Code} {B : Nat} (h : Booked w rec st c W) (hb : Below B W W') (hB : w.heap.size + 2 ≤ B) : Booked w rec st c W' :=
  ⟨(hb.block _ (by omega)).trans h.l, (hb.block _ (by omega)).trans h.d⟩
end
end Go.Proofs.YtfmbpdjcoopaeaaDoor

namespace Go.Proofs.YtfmbpdjcoopaeaaDoor
open Go.RowKit

/-- A tree's memory: which blocks are its own, in which world, where it lies, its height, its leaves. -/
abbrev PtT := (Nat → Prop) → World → Nat → Nat → List (Nat × List UInt8) → Prop
/-- Leaves that are right for a height. -/
structure Gd (h : Nat) (L : List (Nat × List UInt8)) : Prop where
  hh : h ≤ 32
  ok : okL L
  ord : srt L
  lt : ∀ p ∈ L, p.1 < 2 ^ h
  full : ∀ p ∈ L, p.2 ≠ emptyL 0
/-- Some blocks lie as they lay. -/
def KeepsS (S : Nat → Prop) (A B : World) : Prop := ∀ k, S k → B.heap[k]? = A.heap[k]?
theorem KeepsS.refl (S : Nat → Prop) (W : World) : KeepsS S W W := fun _ _ => rfl
theorem KeepsS.trans {S : Nat → Prop} {A B C : World} (h : KeepsS S A B) (k : KeepsS S B C) : KeepsS S A C := fun j hj => (k j hj).trans (h j hj)
theorem KeepsS.of_below {S : Nat → Prop} {A B : World} {m : Nat} (h : Below m A B) (hl : ∀ k, S k → k < m) : KeepsS S A B := fun k hk => h.block k (hl k hk)
section
variable {Pt : PtT} {w0 W W' : World} {S S' : Nat → Prop} {b h : Nat} {L : List (Nat × List UInt8)}
end
theorem Gd.nil {h : Nat} (hh : h ≤ 32) : Gd h [] := ⟨hh, okL.nil, srt.nil, (fun _ h => nomatch h), (fun _ h => nomatch h)⟩
theorem Gd.set {h : Nat} {L : List (Nat × List UInt8)} (g : Gd h L) {i : Nat} {hs : List UInt8} (hi : hasB h 0 i = true) (hl : hs.length = 32) : Gd h (setT i hs L) := by
  have hi' : i < 2 ^ h := by
    unfold hasB at hi
    simpa using hi
  have hp := pow_le32 g.hh
  refine ⟨g.hh, fun p hp' => ?_, g.ord.setT, fun p hp' => ?_, fun p hp' => ?_⟩
  · rcases mem_setT hp' with h1 | ⟨rfl, -⟩
    · exact g.ok p h1
    · exact ⟨by simp; omega, hl⟩
  · rcases mem_setT hp' with h1 | ⟨rfl, -⟩
    · exact g.lt p h1
    · exact hi'
  · rcases mem_setT hp' with h1 | ⟨rfl, h2⟩
    · exact g.full p h1
    · exact h2
end Go.Proofs.YtfmbpdjcoopaeaaDoor

namespace Go.Proofs.YtfmbpdjcoopaeaaDoor
open Go.RowKit

theorem shl_u64 (t : TypeId) (a j : Nat) (k : IntKind) (h : a * 2 ^ j < 18446744073709551616) (hj : j ≤ 64) : binOp .shl t (.int .u64 (a : Int)) (.int k (j : Int)) = pure (.int .u64 ((a * 2 ^ j : Nat) : Int)) := by
  simp only [binOp]
  unfold Op.shift
  rw [if_neg (by omega)]
  simp only
  congr 2
  show IntKind.u64.wrap ((a : Int) * 2 ^ (min (j : Int).toNat 64)) = _
  have e : (a : Int) * 2 ^ (min (j : Int).toNat 64) = ((a * 2 ^ j : Nat) : Int) := by
    rw [Int.toNat_natCast, Nat.min_eq_left hj, Int.natCast_mul, Int.natCast_pow]
    rfl
  rw [e, IntKind.wrap_u64]
  omega
end Go.Proofs.YtfmbpdjcoopaeaaDoor
