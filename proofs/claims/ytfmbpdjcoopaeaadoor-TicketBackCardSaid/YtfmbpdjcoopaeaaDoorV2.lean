/-
  Bytes as values that the walk does not open; the field's elements; nothing here but Double, Product, Inverse, Sub speaks of the program.
  The document's Inverse and Sub.
  The field's laws, by its basis; the tables of inverses and substitutes. Nothing here speaks of the program.
  Rows that are filled in their order; the document's adding of a round key.
  The document's encryption of a block.
  The document's round keys.
  Encryption backwards: each step's inverse, and both ways round. Nothing here speaks of the program.
  Numbers of many bytes, big-endian; the document's Next of layer 5.
  The program's field: doubling, product, inverse, substitute.
  The program's blocks: sum, bytes replaced by a table's, rows turned, columns mixed.
  The document's Next of layer 5, walked.
  The program's Next of layer 5, walked.
  The program's tables: substitutes, and the bytes that have them.
  The program's originals, walked.
  The program's next round key.
  The document's encryption of a block, walked.
  The document's round keys, walked.
  Counters add up; streams; the document's Stream of layer 5.
  The document's Turn of layer 5.
-/
import Derived.Test.YtfmbpdjcoopaeaaDoorY1
import Derived.Test.YtfmbpdjcoopaeaaDoorProg
import Derived.BigQuiet
import Derived.Deep.Cut
import Derived.StillTailTactics
import Derived.Deep.MidRow
import Derived.Test.YtfmbpdjcoopaeaaDoorX0
namespace Go.Proofs.YtfmbpdjcoopaeaaDoor
open Go.RowKit

/-- Doubling in the field. -/
def dbl (x : UInt8) : UInt8 := if 128 ≤ x.toNat then UInt8.ofNat ((x.toNat - 128) * 2) ^^^ 27 else UInt8.ofNat (x.toNat * 2)
/-- Doubled k times; one bit; the product, k bits of it. -/
def dblk (b : UInt8) : Nat → UInt8
  | 0 => b
  | k + 1 => dbl (dblk b k)
def bitB (a : UInt8) (k : Nat) : Bool := a.toNat / 2 ^ k % 2 == 1
def prodk (a b : UInt8) : Nat → UInt8
  | 0 => 0
  | k + 1 => if bitB a k then prodk a b k ^^^ dblk b k else prodk a b k
def prod (a b : UInt8) : UInt8 := prodk a b 8
attribute [irreducible] prodk dblk dbl
end Go.Proofs.YtfmbpdjcoopaeaaDoor

namespace Go.Proofs.YtfmbpdjcoopaeaaDoor
open Go.RowKit

/-- The first of the last k elements whose product with a is 1. -/
def invs (a : UInt8) : Nat → UInt8
  | 0 => 0
  | k + 1 => if prod a (UInt8.ofNat (255 - k)) = 1 then UInt8.ofNat (255 - k) else invs a k
def inv (a : UInt8) : UInt8 := invs a 255
attribute [irreducible] invs
/-- A byte turned left. -/
def rotB (x : UInt8) (k : Nat) : UInt8 := UInt8.ofNat (x.toNat * 2 ^ k % 256 ||| x.toNat / 2 ^ (8 - k))
def subk (x : UInt8) : Nat → UInt8
  | 0 => x ^^^ 99
  | k + 1 => subk x k ^^^ rotB x (k + 1)
def sub (a : UInt8) : UInt8 := subk (inv a) 4
attribute [irreducible] subk rotB
end Go.Proofs.YtfmbpdjcoopaeaaDoor

namespace Go.Proofs.YtfmbpdjcoopaeaaDoor
open Go.RowKit

def STab : List UInt8 := [99, 124, 119, 123, 242, 107, 111, 197, 48, 1, 103, 43, 254, 215, 171, 118, 202, 130, 201, 125, 250, 89, 71, 240, 173, 212, 162, 175, 156, 164, 114, 192, 183, 253, 147, 38, 54, 63, 247, 204, 52, 165, 229, 241, 113, 216, 49, 21, 4, 199, 35, 195, 24, 150, 5, 154, 7, 18, 128, 226, 235, 39, 178, 117, 9, 131, 44, 26, 27, 110, 90, 160, 82, 59, 214, 179, 41, 227, 47, 132, 83, 209, 0, 237, 32, 252, 177, 91, 106, 203, 190, 57, 74, 76, 88, 207, 208, 239, 170, 251, 67, 77, 51, 133, 69, 249, 2, 127, 80, 60, 159, 168, 81, 163, 64, 143, 146, 157, 56, 245, 188, 182, 218, 33, 16, 255, 243, 210, 205, 12, 19, 236, 95, 151, 68, 23, 196, 167, 126, 61, 100, 93, 25, 115, 96, 129, 79, 220, 34, 42, 144, 136, 70, 238, 184, 20, 222, 94, 11, 219, 224, 50, 58, 10, 73, 6, 36, 92, 194, 211, 172, 98, 145, 149, 228, 121, 231, 200, 55, 109, 141, 213, 78, 169, 108, 86, 244, 234, 101, 122, 174, 8, 186, 120, 37, 46, 28, 166, 180, 198, 232, 221, 116, 31, 75, 189, 139, 138, 112, 62, 181, 102, 72, 3, 246, 14, 97, 53, 87, 185, 134, 193, 29, 158, 225, 248, 152, 17, 105, 217, 142, 148, 155, 30, 135, 233, 206, 85, 40, 223, 140, 161, 137, 13, 191, 230, 66, 104, 65, 153, 45, 15, 176, 84, 187, 22]
def sT (a : UInt8) : UInt8 := STab.getD a.toNat 0
end Go.Proofs.YtfmbpdjcoopaeaaDoor

namespace Go.Proofs.YtfmbpdjcoopaeaaDoor
open Go.RowKit

/-- The first j bytes filled by f. -/
def upd (b : List UInt8) (f : Nat → UInt8) (j : Nat) : List UInt8 := (List.range j).map f ++ b.drop j
def mk16 (f : Nat → UInt8) : List UInt8 := (List.range 16).map f
theorem mk16_length (f : Nat → UInt8) : (mk16 f).length = 16 := by simp [mk16]
theorem upd_zero (b : List UInt8) (f : Nat → UInt8) : upd b f 0 = b := by simp [upd]
theorem upd_succ (b : List UInt8) (f : Nat → UInt8) (j : Nat) (h : j < b.length) : upd b f (j + 1) = (upd b f j).set j (f j) := by
  have hl : ((List.range j).map f).length = j := by simp
  unfold upd
  rw [List.set_append_right _ _ (by omega), hl, Nat.sub_self, List.drop_eq_getElem_cons h, List.set_cons_zero, List.range_succ, List.map_append, List.append_assoc]
  rfl
attribute [irreducible] upd mk16
theorem noughts16 : #[Value.int .u8 0, .int .u8 0, .int .u8 0, .int .u8 0, .int .u8 0, .int .u8 0, .int .u8 0, .int .u8 0, .int .u8 0, .int .u8 0, .int .u8 0, .int .u8 0, .int .u8 0, .int .u8 0, .int .u8 0, .int .u8 0] = (ubs n16).toArray := rfl
theorem size16 : (Tryd.prog.info? 30).map (·.size) = some 16 := by kernel_rfl
section
variable {w : World} {g : Nat} {t : TypeId}
end
section
variable {P : Program} {ops : Array Oper} {Q : Exit → Act → World → Prop} {md : Region.Mode} {S : World → Prop} {z : Nat}
end
/-- A block with round key n added. -/
def addF (b keys : List UInt8) (n i : Nat) : UInt8 := b.getD i 0 ^^^ keys.getD (16 * n + i) 0
def addL (b keys : List UInt8) (n : Nat) : List UInt8 := mk16 (addF b keys n)
end Go.Proofs.YtfmbpdjcoopaeaaDoor

namespace Go.Proofs.YtfmbpdjcoopaeaaDoor
open Go.RowKit

/-- XOR that the walk does not open. -/
def xr (a b : UInt8) : UInt8 := a ^^^ b
attribute [irreducible] xr
/-- Bytes substituted and moved; columns mixed; a round; all rounds. -/
def shF (b : List UInt8) (i : Nat) : UInt8 := sT (b.getD (4 * ((i / 4 + i % 4) % 4) + i % 4) 0)
def mix0 (p q u v : UInt8) : UInt8 := xr (xr (xr (xr (dbl p) (dbl q)) q) u) v
def mix1 (p q u v : UInt8) : UInt8 := xr (xr (xr (xr p (dbl q)) (dbl u)) u) v
def mix2 (p q u v : UInt8) : UInt8 := xr (xr (xr (xr p q) (dbl u)) (dbl v)) v
def mix3 (p q u v : UInt8) : UInt8 := xr (xr (xr (xr (dbl p) p) q) u) (dbl v)
def mixF (s : List UInt8) (i : Nat) : UInt8 :=
  (if i % 4 = 0 then mix0 else if i % 4 = 1 then mix1 else if i % 4 = 2 then mix2 else mix3) (s.getD (4 * (i / 4)) 0) (s.getD (4 * (i / 4) + 1) 0) (s.getD (4 * (i / 4) + 2) 0) (s.getD (4 * (i / 4) + 3) 0)
def shL (b : List UInt8) : List UInt8 := mk16 (shF b)
def mixL (s : List UInt8) : List UInt8 := mk16 (mixF s)
def roundL (keys : List UInt8) (n : Nat) (b : List UInt8) : List UInt8 := addL (if n < 10 then mixL (shL b) else shL b) keys n
def encK (keys b : List UInt8) : Nat → List UInt8
  | 0 => addL b keys 0
  | k + 1 => roundL keys (k + 1) (encK keys b k)
def encL (keys b : List UInt8) : List UInt8 := encK keys b 10
theorem encK_succ (keys b : List UInt8) (k : Nat) : encK keys b (k + 1) = roundL keys (k + 1) (encK keys b k) := rfl
theorem addL_length (b keys : List UInt8) (n : Nat) : (addL b keys n).length = 16 := mk16_length _
theorem encK_length (keys b : List UInt8) (k : Nat) : (encK keys b k).length = 16 := by
  cases k with
  | zero => exact addL_length _ _ _
  | succ k => rw [encK_succ]; exact addL_length _ _ _
attribute [irreducible] encK
end Go.Proofs.YtfmbpdjcoopaeaaDoor

namespace Go.Proofs.YtfmbpdjcoopaeaaDoor
open Go.RowKit

/-- The bytes that word i is made with; word i; the round keys, n words of them made, and the factor. -/
def kt (ws : List UInt8) (i : Nat) (f : UInt8) : List UInt8 :=
  if i % 4 = 0 then [xr (sT (ws.getD (4 * i - 3) 0)) f, sT (ws.getD (4 * i - 2) 0), sT (ws.getD (4 * i - 1) 0), sT (ws.getD (4 * i - 4) 0)]
  else [ws.getD (4 * i - 4) 0, ws.getD (4 * i - 3) 0, ws.getD (4 * i - 2) 0, ws.getD (4 * i - 1) 0]
def kb (ws : List UInt8) (i : Nat) (f : UInt8) (j : Nat) : UInt8 := xr (ws.getD (4 * i - 16 + j) 0) ((kt ws i f).getD j 0)
attribute [irreducible] kb kt
/-- While a word is made: the keys so far, the bytes that it is made with. -/
structure KyW (w : World) (m : Nat) (ws : List UInt8) (v : Value) (ts : List UInt8) (T : Nat) (W : World) : Prop where
  o : Own1 w m ws v W
  t : At W T (ubs ts).toArray 5
  ne : v.ownBlock ≠ some T
theorem KyW.start {w W W2 : World} {m : Nat} {ws ts : List UInt8} {v : Value} (h : Own1 w m ws v W) (hb : Below W.heap.size W W2) (T : Nat) (hT : W.heap.size ≤ T) (ht : At W2 T (ubs ts).toArray 5) : KyW w m ws v ts T W2 :=
  ⟨⟨h.len, own_fr h.own (Fr.of_new (S := fun _ => False) hb) (fun _ _ h => h), h.below.trans (hb.mono h.below.size)⟩, ht, fun e => by have := (World.ownsRow.lt h.own T e).2; omega⟩
theorem KyW.next {w W W2 : World} {m : Nat} {ws ts : List UInt8} {v v2 : Value} {T : Nat} {b : UInt8} {o : Obj} (h : KyW w m ws v ts T W) (h2 : W2.ownsRow w.heap.size 5 1 v2 (m + 1) (ubs ws ++ ubs [b])) (hg : (W.alloc o).grownBy W2 v.ownBlock)
    (hb : v2.ownBlock = v.ownBlock ∨ v2.ownBlock = some (W.alloc o).heap.size) : KyW w (m + 1) (ws ++ [b]) v2 ts T W2 :=
  ⟨h.o.next h2 hg, (hg.block T (by have := h.t.lt; simp; omega) (fun e => h.ne e.symm)).trans (h.t.alloc o), fun e => by
    rcases hb with hb | hb
    · exact h.ne (hb ▸ e)
    · rw [hb] at e
      have := h.t.lt
      simp at e
      omega⟩
theorem KyW.drew {w W : World} {m : Nat} {ws ts : List UInt8} {v : Value} {T : Nat} (h : KyW w m ws v ts T W) (n : Nat) : KyW w m ws v ts T (W.drewN n) := ⟨⟨h.o.len, h.o.own, below_drewN h.o.below n⟩, h.t, h.ne⟩
end Go.Proofs.YtfmbpdjcoopaeaaDoor

namespace Go.Proofs.YtfmbpdjcoopaeaaDoor
open Go.RowKit

end Go.Proofs.YtfmbpdjcoopaeaaDoor

namespace Go.Proofs.YtfmbpdjcoopaeaaDoor
open Go.RowKit

/-- The counter behind c by n. -/
def nextL (c : List UInt8) (n : Nat) : List UInt8 := toBE 16 (beN c + n)
end Go.Proofs.YtfmbpdjcoopaeaaDoor

namespace Go.Proofs.YtfmbpdjcoopaeaaDoor
open Go.RowKit

end Go.Proofs.YtfmbpdjcoopaeaaDoor

namespace Go.Proofs.YtfmbpdjcoopaeaaDoor
open Go.RowKit

theorem size16_of {l : List UInt8} (h : l.length = 16) : (Tryd.prog.info? 30).map (·.size) = some (ubs l).toArray.size := by rw [size16]; simp [ubs_length, h]
/-- Three blocks of the call's own. -/
structure Tri (w : World) (x y z : List UInt8) (wr : World) : Prop where
  a0 : At wr w.heap.size (ubs x).toArray 30
  a1 : At wr (w.heap.size + 1) (ubs y).toArray 30
  a2 : At wr (w.heap.size + 2) (ubs z).toArray 30
  below : Below w.heap.size w wr
theorem Tri.start (w : World) (x y z : List UInt8) : Tri w x y z (((w.alloc (.cells (ubs x).toArray 30)).alloc (.cells (ubs y).toArray 30)).alloc (.cells (ubs z).toArray 30)) :=
  ⟨((At.new _ _ _).alloc _).alloc _, (At.new_at (by simp)).alloc _, At.new_at (by simp), (((Below.refl _ _).alloc (Nat.le_refl _) _).alloc (by simp) _).alloc (by simp; omega) _⟩
theorem Tri.drewN {w wr : World} {x y z : List UInt8} (h : Tri w x y z wr) (n : Nat) : Tri w x y z (wr.drewN n) := ⟨h.a0, h.a1, h.a2, below_drewN h.below n⟩
theorem Tri.put {w wr : World} {x y z : List UInt8} (h : Tri w x y z wr) (i : Nat) (b : UInt8) : Tri w (x.set i b) y z (wr.setCell ⟨w.heap.size, i, none⟩ (.int .u8 (b.toNat : Int))) :=
  ⟨at_ub_put h.a0 i b, h.a1.far (p := ⟨w.heap.size, i, none⟩) (by simp) _, h.a2.far (p := ⟨w.heap.size, i, none⟩) (by simp) _, h.below.setCell (by simp) _⟩
theorem info8 : (Tryd.prog.info? 5).map (·.size) = some 1 := by kernel_rfl
/-- Two blocks of the call's own. -/
structure Duo (w : World) (x z : List UInt8) (wr : World) : Prop where
  a0 : At wr w.heap.size (ubs x).toArray 30
  a1 : At wr (w.heap.size + 1) (ubs z).toArray 30
  below : Below w.heap.size w wr
theorem Duo.start (w : World) (x z : List UInt8) : Duo w x z ((w.alloc (.cells (ubs x).toArray 30)).alloc (.cells (ubs z).toArray 30)) :=
  ⟨(At.new _ _ _).alloc _, At.new_at (by simp), ((Below.refl _ _).alloc (Nat.le_refl _) _).alloc (by simp) _⟩
theorem Duo.drewN {w wr : World} {x z : List UInt8} (h : Duo w x z wr) (n : Nat) : Duo w x z (wr.drewN n) := ⟨h.a0, h.a1, below_drewN h.below n⟩
theorem Duo.put {w wr : World} {x z : List UInt8} (h : Duo w x z wr) (i : Nat) (b : UInt8) : Duo w (x.set i b) z (wr.setCell ⟨w.heap.size, i, none⟩ (.int .u8 (b.toNat : Int))) :=
  ⟨at_ub_put h.a0 i b, h.a1.far (p := ⟨w.heap.size, i, none⟩) (by simp) _, h.below.setCell (by simp) _⟩
end Go.Proofs.YtfmbpdjcoopaeaaDoor

namespace Go.Proofs.YtfmbpdjcoopaeaaDoor
open Go.RowKit

end Go.Proofs.YtfmbpdjcoopaeaaDoor

namespace Go.Proofs.YtfmbpdjcoopaeaaDoor
open Go.RowKit

/-- What is carried into byte 15 - j; the counter behind so many bytes. -/
def crk (c : List UInt8) (n : Nat) : Nat → Nat
  | 0 => n
  | j + 1 => ((c.getD (15 - j) 0).toNat + crk c n j) / 256
def cur (c : List UInt8) (n : Nat) : Nat → List UInt8
  | 0 => c
  | j + 1 => (cur c n j).set (15 - j) (UInt8.ofNat ((c.getD (15 - j) 0).toNat + crk c n j))
attribute [irreducible] crk cur
end Go.Proofs.YtfmbpdjcoopaeaaDoor

namespace Go.Proofs.YtfmbpdjcoopaeaaDoor
open Go.RowKit

def n256 : List UInt8 := List.replicate 256 0
attribute [irreducible] n256
structure Sb1 (w : World) (p : List UInt8) (wr : World) : Prop where
  a0 : At wr w.heap.size (ubs n256).toArray 220
  a1 : At wr (w.heap.size + 1) (ubs p).toArray 220
  size : wr.heap.size = w.heap.size + 2
  below : Below w.heap.size w wr
theorem Sb1.start (w : World) : Sb1 w n256 ((w.alloc (.cells (ubs n256).toArray 220)).alloc (.cells (ubs n256).toArray 220)) :=
  ⟨(At.new _ _ _).alloc _, At.new_at (by simp), by simp, ((Below.refl _ _).alloc (Nat.le_refl _) _).alloc (by simp) _⟩
theorem Sb1.put {w wr : World} {p : List UInt8} (h : Sb1 w p wr) (i : Nat) (b : UInt8) : Sb1 w (p.set i b) (wr.setCell ⟨w.heap.size + 1, i, none⟩ (.int .u8 (b.toNat : Int))) :=
  ⟨h.a0.far (p := ⟨w.heap.size + 1, i, none⟩) (by simp) _, at_ub_put h.a1 i b, by rw [← h.size]; simp, h.below.setCell (by simp) _⟩
structure Sb2 (w : World) (p t : List UInt8) (wr : World) : Prop where
  a0 : At wr w.heap.size (ubs n256).toArray 220
  a1 : At wr (w.heap.size + 1) (ubs p).toArray 220
  a2 : At wr (w.heap.size + 2) (ubs t).toArray 220
  below : Below w.heap.size w wr
theorem Sb1.next {w wr : World} {p : List UInt8} (h : Sb1 w p wr) : Sb2 w p n256 (wr.alloc (.cells (ubs n256).toArray 220)) :=
  ⟨h.a0.alloc _, h.a1.alloc _, At.new_at h.size.symm, h.below.alloc (by rw [h.size]; omega) _⟩
theorem Sb2.put {w wr : World} {p t : List UInt8} (h : Sb2 w p t wr) (i : Nat) (b : UInt8) : Sb2 w p (t.set i b) (wr.setCell ⟨w.heap.size + 2, i, none⟩ (.int .u8 (b.toNat : Int))) :=
  ⟨h.a0.far (p := ⟨w.heap.size + 2, i, none⟩) (by simp) _, h.a1.far (p := ⟨w.heap.size + 2, i, none⟩) (by simp) _, at_ub_put h.a2 i b, h.below.setCell (by simp) _⟩
structure Or1 (w : World) (p : List UInt8) (wr : World) : Prop where
  a0 : At wr w.heap.size (ubs n256).toArray 220
  a1 : At wr (w.heap.size + 1) (ubs p).toArray 220
  below : Below w.heap.size w wr
theorem Or1.start {w wr : World} (h : Below ((w.alloc (.cells (ubs n256).toArray 220)).alloc (.cells (ubs n256).toArray 220)).heap.size ((w.alloc (.cells (ubs n256).toArray 220)).alloc (.cells (ubs n256).toArray 220)) wr) : Or1 w n256 wr :=
  ⟨((At.new _ _ _).alloc _).new_ h, At.new_ (At.new_at (by simp)) h, (((Below.refl _ _).alloc (Nat.le_refl _) _).alloc (by simp) _).trans (h.mono (by simp; omega))⟩
theorem Or1.put {w wr : World} {p : List UInt8} (h : Or1 w p wr) (i : Nat) (b : UInt8) : Or1 w (p.set i b) (wr.setCell ⟨w.heap.size + 1, i, none⟩ (.int .u8 (b.toNat : Int))) :=
  ⟨h.a0.far (p := ⟨w.heap.size + 1, i, none⟩) (by simp) _, at_ub_put h.a1 i b, h.below.setCell (by simp) _⟩
end Go.Proofs.YtfmbpdjcoopaeaaDoor

namespace Go.Proofs.YtfmbpdjcoopaeaaDoor
open Go.RowKit

end Go.Proofs.YtfmbpdjcoopaeaaDoor

namespace Go.Proofs.YtfmbpdjcoopaeaaDoor
open Go.RowKit

/-- The first word's bytes, before the factor; the bytes of the round key behind k. -/
def nx0 (k : List UInt8) (i : Nat) : UInt8 := xr (k.getD i 0) (sT (k.getD (12 + (i + 1) % 4) 0))
def nx (k : List UInt8) (f : UInt8) : Nat → UInt8
  | 0 => xr (nx0 k 0) f
  | 1 => nx0 k 1
  | 2 => nx0 k 2
  | 3 => nx0 k 3
  | i + 4 => xr (k.getD (i + 4) 0) (nx k f i)
def nxL (k : List UInt8) (f : UInt8) : List UInt8 := mk16 (nx k f)
theorem nxL_length (k : List UInt8) (f : UInt8) : (nxL k f).length = 16 := mk16_length _
attribute [irreducible] nx nx0
end Go.Proofs.YtfmbpdjcoopaeaaDoor

namespace Go.Proofs.YtfmbpdjcoopaeaaDoor
open Go.RowKit

/-- What holds between rounds: the block that came in, the result, the block in the making. -/
structure EnW (w : World) (b x : List UInt8) (C : Nat) (W : World) : Prop where
  arg : At W w.heap.size (ubs b).toArray 30
  res : At W (w.heap.size + 1) (ubs n16).toArray 30
  cur : At W C (ubs x).toArray 30
  lt : w.heap.size + 1 < C
  below : Below w.heap.size w W
theorem EnW.next {w W W' : World} {b x : List UInt8} {C : Nat} (h : EnW w b x C W) (hb : Below W.heap.size W W') : EnW w b x C W' :=
  ⟨h.arg.new_ hb, h.res.new_ hb, h.cur.new_ hb, h.lt, h.below.trans (hb.mono h.below.size)⟩
theorem EnW.row {w W : World} {b x : List UInt8} {C : Nat} (h : EnW w b x C W) (y : List UInt8) : EnW w b y C (W.setRow C (ubs y).toArray) :=
  ⟨h.arg.setRow_far (by have := h.lt; omega), h.res.setRow_far (by have := h.lt; omega), setRow_heap _ _ _ _ _ _ h.cur, h.lt, below_setRow h.below (by have := h.lt; omega) _⟩
theorem EnW.put {w W : World} {b x : List UInt8} {C : Nat} (h : EnW w b x C W) (i : Nat) (y : UInt8) : EnW w b (x.set i y) C (W.setCell ⟨C, i, none⟩ (.int .u8 (y.toNat : Int))) :=
  ⟨h.arg.far (p := ⟨C, i, none⟩) (by have := h.lt; show w.heap.size ≠ C; omega) _, h.res.far (p := ⟨C, i, none⟩) (by have := h.lt; show w.heap.size + 1 ≠ C; omega) _, at_ub_put h.cur i y, h.lt, h.below.setCell (p := ⟨C, i, none⟩) (by have := h.lt; show w.heap.size ≤ C; omega) _⟩
/-- Beside: the substituted block. -/
structure EmW (w : World) (b x : List UInt8) (C : Nat) (s : List UInt8) (D : Nat) (W : World) : Prop where
  en : EnW w b x C W
  sub : At W D (ubs s).toArray 30
  lt : C < D
theorem EmW.put {w W : World} {b x s : List UInt8} {C D : Nat} (h : EmW w b x C s D W) (i : Nat) (y : UInt8) : EmW w b x C (s.set i y) D (W.setCell ⟨D, i, none⟩ (.int .u8 (y.toNat : Int))) :=
  ⟨⟨h.en.arg.far (p := ⟨D, i, none⟩) (by have := h.lt; have := h.en.lt; show w.heap.size ≠ D; omega) _, h.en.res.far (p := ⟨D, i, none⟩) (by have := h.lt; have := h.en.lt; show w.heap.size + 1 ≠ D; omega) _, h.en.cur.far (p := ⟨D, i, none⟩) (by have := h.lt; show C ≠ D; omega) _, h.en.lt, h.en.below.setCell (p := ⟨D, i, none⟩) (by have := h.lt; have := h.en.lt; show w.heap.size ≤ D; omega) _⟩, at_ub_put h.sub i y, h.lt⟩
theorem EmW.row {w W : World} {b x s : List UInt8} {C D : Nat} (h : EmW w b x C s D W) (y : List UInt8) : EmW w b y C s D (W.setRow C (ubs y).toArray) :=
  ⟨h.en.row y, h.sub.setRow_far (by have := h.lt; omega), h.lt⟩
theorem EmW.start {w W : World} {b x : List UInt8} {C : Nat} (h : EnW w b x C W) (s : List UInt8) : EmW w b x C s W.heap.size (W.alloc (.cells (ubs s).toArray 30)) :=
  ⟨h.next ((Below.refl _ _).alloc (Nat.le_refl _) _), At.new _ _ _, h.cur.lt⟩
theorem EmW.drew {w W : World} {b x s : List UInt8} {C D : Nat} (h : EmW w b x C s D W) (n : Nat) : EmW w b x C s D (W.drewN n) :=
  ⟨⟨h.en.arg, h.en.res, h.en.cur, h.en.lt, below_drewN h.en.below n⟩, h.sub, h.lt⟩
end Go.Proofs.YtfmbpdjcoopaeaaDoor

namespace Go.Proofs.YtfmbpdjcoopaeaaDoor
open Go.RowKit

theorem KyW.alloc {w W : World} {m : Nat} {ws ts : List UInt8} {v : Value} {T : Nat} (h : KyW w m ws v ts T W) (o : Obj) : KyW w m ws v ts T (W.alloc o) :=
  ⟨⟨h.o.len, h.o.own.alloc _, h.o.below.alloc h.o.below.size _⟩, h.t.alloc _, h.ne⟩
end Go.Proofs.YtfmbpdjcoopaeaaDoor

namespace Go.Proofs.YtfmbpdjcoopaeaaDoor
open Go.RowKit

theorem nextL_zero (c : List UInt8) (h : c.length = 16) : nextL c 0 = c := toBE_beN 16 c h
/-- The first m blocks of a stream; its first n bytes. -/
def strk (keys c : List UInt8) : Nat → List UInt8
  | 0 => []
  | m + 1 => strk keys c m ++ encL keys (nextL c m)
theorem strk_zero (keys c : List UInt8) : strk keys c 0 = [] := rfl
theorem strk_succ (keys c : List UInt8) (m : Nat) : strk keys c (m + 1) = strk keys c m ++ encL keys (nextL c m) := rfl
theorem encL_length (keys b : List UInt8) : (encL keys b).length = 16 := encK_length keys b 10
attribute [irreducible] strk
/-- What holds between the rounds of Stream. -/
structure StW (w : World) (keys c : List UInt8) (m : Nat) (v : Value) (W : World) : Prop where
  o : Own1 w (16 * m) (strk keys c m) v W
  ctr : At W w.heap.size (ubs (nextL c m)).toArray 30
  far : v.ownBlock ≠ some w.heap.size
theorem StW.start (w : World) (keys c : List UInt8) (hc : c.length = 16) : StW w keys c 0 (.slice none 0 0) (w.alloc (.cells (ubs c).toArray 30)) :=
  ⟨⟨by rw [strk_zero]; rfl, ⟨by rw [strk_zero]; rfl, .inl ⟨rfl, rfl⟩⟩, (Below.refl _ _).alloc (Nat.le_refl _) _⟩, by rw [nextL_zero c hc]; exact At.new _ _ _, by simp [Value.ownBlock]⟩
theorem StW.new {w W W' : World} {keys c : List UInt8} {m : Nat} {v : Value} (h : StW w keys c m v W) (hb : Below W.heap.size W W') : StW w keys c m v W' :=
  ⟨⟨h.o.len, own_fr h.o.own (Fr.of_new (S := fun _ => False) hb) (fun _ _ => id), h.o.below.trans (hb.mono h.o.below.size)⟩, h.ctr.new_ hb, h.far⟩
theorem StW.grow {w W W' : World} {keys c : List UInt8} {m : Nat} {v v' : Value} (h : StW w keys c m v W) (h2 : W'.ownsRow w.heap.size 5 1 v' (16 * m + 16) (ubs (strk keys c m) ++ ubs (encL keys (nextL c m)))) (hg : W.grownBy W' v.ownBlock) (hv : v'.ownBlock = v.ownBlock ∨ v'.ownBlock = some W.heap.size) :
    Own1 w (16 * (m + 1)) (strk keys c (m + 1)) v' W' ∧ At W' w.heap.size (ubs (nextL c m)).toArray 30 ∧ v'.ownBlock ≠ some w.heap.size := by
  have h3 := h.o.more h2 (by rw [encL_length]) hg
  rw [← strk_succ] at h3
  refine ⟨h3, at_grown h.ctr h.o.own (by decide) hg, ?_⟩
  rcases hv with e | e
  · rw [e]; exact h.far
  · rw [e]
    intro e2
    have h4 := h.ctr.lt
    have h5 : W.heap.size = w.heap.size := Option.some.inj e2
    omega
end Go.Proofs.YtfmbpdjcoopaeaaDoor

namespace Go.Proofs.YtfmbpdjcoopaeaaDoor
open Go.RowKit

/-- A byte written into a row of the call's own. -/
theorem Own1.put {w W : World} {n cap g : Nat} {bs : List UInt8} (h : Own1 w n bs (.slice (some ⟨g, 0, none⟩) n cap) W) (i : Nat) (x : UInt8) : Own1 w n (bs.set i x) (.slice (some ⟨g, 0, none⟩) n cap) (W.setCell ⟨g, i, none⟩ (.int .u8 (x.toNat : Int))) := by
  refine ⟨by rw [List.length_set]; exact h.len, ⟨by rw [ubs_length, List.length_set, ← h.len, Nat.mul_one], ?_⟩, h.below.setCell (by
    obtain ⟨_, _, e, _, _, _, _, h7⟩ := own_form h.own
    cases e
    exact (h7 _ rfl).2.2.1) _⟩
  rcases h.own.2 with ⟨h1, h2⟩ | ⟨g', cap', cur, h1, h2, h3, h4, h5, h6, h7⟩
  · cases h1
  · cases h1
    refine .inr ⟨g, _, cur.setIfInBounds i (ub x), rfl, h2, At.put h3 i (ub x), h4, h5, by rw [Array.size_setIfInBounds]; exact h6, ?_⟩
    rw [Array.toList_setIfInBounds, List.take_set, h7]
    simp [ubs, List.map_set]
end Go.Proofs.YtfmbpdjcoopaeaaDoor
