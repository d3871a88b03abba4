/-
  Bytes as values that the walk does not open; the field's elements; nothing here but Double, Product, Inverse, Sub speaks of the program.
  The document's Inverse and Sub.
  The field's laws, by its basis; the tables of inverses and substitutes. Nothing here speaks of the program.
  Rows that are filled in their order; the document's adding of a round key.
  The document's encryption of a block.
  The document's round keys.
  Encryption backwards: each step's inverse, and both ways round. Nothing here speaks of the program.
  Numbers of many bytes, big-endian; the document's Next of layer 5.
  The program's field: doubling, product, inverse, substitute.
  The program's blocks: sum, bytes replaced by a table's, rows turned, columns mixed.
  The document's Next of layer 5, walked.
  The program's Next of layer 5, walked.
  The program's tables: substitutes, and the bytes that have them.
  The program's originals, walked.
  The program's next round key.
  The document's encryption of a block, walked.
  The document's round keys, walked.
  Counters add up; streams; the document's Stream of layer 5.
  The document's Turn of layer 5.
-/
import Derived.Test.YtdegmcfcbndelaaDoorY1
import Derived.Test.YtdegmcfcbndelaaDoorProg
import Derived.BigQuiet
import Derived.Deep.Cut
import Derived.StillTailTactics
import Derived.Deep.MidRow
import Derived.Test.YtdegmcfcbndelaaDoorX0
namespace Go.Proofs.YtdegmcfcbndelaaDoor
open Go.RowKit

/-- Doubling in the field. -/
def dbl (x : UInt8) : UInt8 := if 128 ≤ x.toNat then UInt8.ofNat ((x.toNat - 128) * 2) ^^^ 27 else UInt8.ofNat (x.toNat * 2)
attribute [irreducible] dbl
end Go.Proofs.YtdegmcfcbndelaaDoor

namespace Go.Proofs.YtdegmcfcbndelaaDoor
open Go.RowKit

end Go.Proofs.YtdegmcfcbndelaaDoor

namespace Go.Proofs.YtdegmcfcbndelaaDoor
open Go.RowKit

def STab : List UInt8 := [99, 124, 119, 123, 242, 107, 111, 197, 48, 1, 103, 43, 254, 215, 171, 118, 202, 130, 201, 125, 250, 89, 71, 240, 173, 212, 162, 175, 156, 164, 114, 192, 183, 253, 147, 38, 54, 63, 247, 204, 52, 165, 229, 241, 113, 216, 49, 21, 4, 199, 35, 195, 24, 150, 5, 154, 7, 18, 128, 226, 235, 39, 178, 117, 9, 131, 44, 26, 27, 110, 90, 160, 82, 59, 214, 179, 41, 227, 47, 132, 83, 209, 0, 237, 32, 252, 177, 91, 106, 203, 190, 57, 74, 76, 88, 207, 208, 239, 170, 251, 67, 77, 51, 133, 69, 249, 2, 127, 80, 60, 159, 168, 81, 163, 64, 143, 146, 157, 56, 245, 188, 182, 218, 33, 16, 255, 243, 210, 205, 12, 19, 236, 95, 151, 68, 23, 196, 167, 126, 61, 100, 93, 25, 115, 96, 129, 79, 220, 34, 42, 144, 136, 70, 238, 184, 20, 222, 94, 11, 219, 224, 50, 58, 10, 73, 6, 36, 92, 194, 211, 172, 98, 145, 149, 228, 121, 231, 200, 55, 109, 141, 213, 78, 169, 108, 86, 244, 234, 101, 122, 174, 8, 186, 120, 37, 46, 28, 166, 180, 198, 232, 221, 116, 31, 75, 189, 139, 138, 112, 62, 181, 102, 72, 3, 246, 14, 97, 53, 87, 185, 134, 193, 29, 158, 225, 248, 152, 17, 105, 217, 142, 148, 155, 30, 135, 233, 206, 85, 40, 223, 140, 161, 137, 13, 191, 230, 66, 104, 65, 153, 45, 15, 176, 84, 187, 22]
def sT (a : UInt8) : UInt8 := STab.getD a.toNat 0
end Go.Proofs.YtdegmcfcbndelaaDoor

namespace Go.Proofs.YtdegmcfcbndelaaDoor
open Go.RowKit

/-- The first j bytes filled by f. -/
def upd (b : List UInt8) (f : Nat → UInt8) (j : Nat) : List UInt8 := (List.range j).map f ++ b.drop j
def mk16 (f : Nat → UInt8) : List UInt8 := (List.range 16).map f
theorem upd_zero (b : List UInt8) (f : Nat → UInt8) : upd b f 0 = b := by simp [upd]
attribute [irreducible] upd mk16
section
variable {w : World} {g : Nat} {t : TypeId}
end
section
variable {P : Program} {ops : Array Oper} {Q : Exit → Act → World → Prop} {md : Region.Mode} {S : World → Prop} {z : Nat}
end
/-- A block with round key n added. -/
def addF (b keys : List UInt8) (n i : Nat) : UInt8 := b.getD i 0 ^^^ keys.getD (16 * n + i) 0
def addL (b keys : List UInt8) (n : Nat) : List UInt8 := mk16 (addF b keys n)
end Go.Proofs.YtdegmcfcbndelaaDoor

namespace Go.Proofs.YtdegmcfcbndelaaDoor
open Go.RowKit

/-- XOR that the walk does not open. -/
def xr (a b : UInt8) : UInt8 := a ^^^ b
attribute [irreducible] xr
/-- Bytes substituted and moved; columns mixed; a round; all rounds. -/
def shF (b : List UInt8) (i : Nat) : UInt8 := sT (b.getD (4 * ((i / 4 + i % 4) % 4) + i % 4) 0)
def mix0 (p q u v : UInt8) : UInt8 := xr (xr (xr (xr (dbl p) (dbl q)) q) u) v
def mix1 (p q u v : UInt8) : UInt8 := xr (xr (xr (xr p (dbl q)) (dbl u)) u) v
def mix2 (p q u v : UInt8) : UInt8 := xr (xr (xr (xr p q) (dbl u)) (dbl v)) v
def mix3 (p q u v : UInt8) : UInt8 := xr (xr (xr (xr (dbl p) p) q) u) (dbl v)
def mixF (s : List UInt8) (i : Nat) : UInt8 :=
  (if i % 4 = 0 then mix0 else if i % 4 = 1 then mix1 else if i % 4 = 2 then mix2 else mix3) (s.getD (4 * (i / 4)) 0) (s.getD (4 * (i / 4) + 1) 0) (s.getD (4 * (i / 4) + 2) 0) (s.getD (4 * (i / 4) + 3) 0)
def shL (b : List UInt8) : List UInt8 := mk16 (shF b)
def mixL (s : List UInt8) : List UInt8 := mk16 (mixF s)
def roundL (keys : List UInt8) (n : Nat) (b : List UInt8) : List UInt8 := addL (if n < 10 then mixL (shL b) else shL b) keys n
def encK (keys b : List UInt8) : Nat → List UInt8
  | 0 => addL b keys 0
  | k + 1 => roundL keys (k + 1) (encK keys b k)
def encL (keys b : List UInt8) : List UInt8 := encK keys b 10
attribute [irreducible] encK
end Go.Proofs.YtdegmcfcbndelaaDoor

namespace Go.Proofs.YtdegmcfcbndelaaDoor
open Go.RowKit

/-- The bytes that word i is made with; word i; the round keys, n words of them made, and the factor. -/
def kt (ws : List UInt8) (i : Nat) (f : UInt8) : List UInt8 :=
  if i % 4 = 0 then [xr (sT (ws.getD (4 * i - 3) 0)) f, sT (ws.getD (4 * i - 2) 0), sT (ws.getD (4 * i - 1) 0), sT (ws.getD (4 * i - 4) 0)]
  else [ws.getD (4 * i - 4) 0, ws.getD (4 * i - 3) 0, ws.getD (4 * i - 2) 0, ws.getD (4 * i - 1) 0]
def kb (ws : List UInt8) (i : Nat) (f : UInt8) (j : Nat) : UInt8 := xr (ws.getD (4 * i - 16 + j) 0) ((kt ws i f).getD j 0)
def kw (ws : List UInt8) (i : Nat) (f : UInt8) (j : Nat) : List UInt8 := ws ++ (List.range j).map (kb ws i f)
def kf (i : Nat) (f : UInt8) : UInt8 := if i % 4 = 0 then dbl f else f
def ks (key : List UInt8) : Nat → List UInt8 × UInt8
  | 0 => (key, 1)
  | n + 1 => (kw (ks key n).1 (n + 4) (ks key n).2 4, kf (n + 4) (ks key n).2)
attribute [irreducible] ks kw kb kt
/-- While a word is made: the keys so far, the bytes that it is made with. -/
structure KyW (w : World) (m : Nat) (ws : List UInt8) (v : Value) (ts : List UInt8) (T : Nat) (W : World) : Prop where
  o : Own1 w m ws v W
  t : At W T (ubs ts).toArray 5
  ne : v.ownBlock ≠ some T
theorem KyW.start {w W W2 : World} {m : Nat} {ws ts : List UInt8} {v : Value} (h : Own1 w m ws v W) (hb : Below W.heap.size W W2) (T : Nat) (hT : W.heap.size ≤ T) (ht : At W2 T (ubs ts).toArray 5) : KyW w m ws v ts T W2 :=
  ⟨⟨h.len, own_fr h.own (Fr.of_new (S := fun _ => False) hb) (fun _ _ h => h), h.below.trans (hb.mono h.below.size)⟩, ht, fun e => by have := (World.ownsRow.lt h.own T e).2; omega⟩
theorem KyW.next {w W W2 : World} {m : Nat} {ws ts : List UInt8} {v v2 : Value} {T : Nat} {b : UInt8} {o : Obj} (h : KyW w m ws v ts T W) (h2 : W2.ownsRow w.heap.size 5 1 v2 (m + 1) (ubs ws ++ ubs [b])) (hg : (W.alloc o).grownBy W2 v.ownBlock)
    (hb : v2.ownBlock = v.ownBlock ∨ v2.ownBlock = some (W.alloc o).heap.size) : KyW w (m + 1) (ws ++ [b]) v2 ts T W2 :=
  ⟨h.o.next h2 hg, (hg.block T (by have := h.t.lt; simp; omega) (fun e => h.ne e.symm)).trans (h.t.alloc o), fun e => by
    rcases hb with hb | hb
    · exact h.ne (hb ▸ e)
    · rw [hb] at e
      have := h.t.lt
      simp at e
      omega⟩
theorem KyW.drew {w W : World} {m : Nat} {ws ts : List UInt8} {v : Value} {T : Nat} (h : KyW w m ws v ts T W) (n : Nat) : KyW w m ws v ts T (W.drewN n) := ⟨⟨h.o.len, h.o.own, below_drewN h.o.below n⟩, h.t, h.ne⟩
end Go.Proofs.YtdegmcfcbndelaaDoor

namespace Go.Proofs.YtdegmcfcbndelaaDoor
open Go.RowKit

end Go.Proofs.YtdegmcfcbndelaaDoor

namespace Go.Proofs.YtdegmcfcbndelaaDoor
open Go.RowKit

/-- The counter behind c by n. -/
def nextL (c : List UInt8) (n : Nat) : List UInt8 := toBE 16 (beN c + n)
end Go.Proofs.YtdegmcfcbndelaaDoor

namespace Go.Proofs.YtdegmcfcbndelaaDoor
open Go.RowKit

end Go.Proofs.YtdegmcfcbndelaaDoor

namespace Go.Proofs.YtdegmcfcbndelaaDoor
open Go.RowKit

end Go.Proofs.YtdegmcfcbndelaaDoor

namespace Go.Proofs.YtdegmcfcbndelaaDoor
open Go.RowKit

end Go.Proofs.YtdegmcfcbndelaaDoor

namespace Go.Proofs.YtdegmcfcbndelaaDoor
open Go.RowKit

/-- What is carried into byte 15 - j; the counter behind so many bytes. -/
def crk (c : List UInt8) (n : Nat) : Nat → Nat
  | 0 => n
  | j + 1 => ((c.getD (15 - j) 0).toNat + crk c n j) / 256
def cur (c : List UInt8) (n : Nat) : Nat → List UInt8
  | 0 => c
  | j + 1 => (cur c n j).set (15 - j) (UInt8.ofNat ((c.getD (15 - j) 0).toNat + crk c n j))
attribute [irreducible] crk cur
end Go.Proofs.YtdegmcfcbndelaaDoor

namespace Go.Proofs.YtdegmcfcbndelaaDoor
open Go.RowKit

end Go.Proofs.YtdegmcfcbndelaaDoor

namespace Go.Proofs.YtdegmcfcbndelaaDoor
open Go.RowKit

end Go.Proofs.YtdegmcfcbndelaaDoor

namespace Go.Proofs.YtdegmcfcbndelaaDoor
open Go.RowKit

/-- The first word's bytes, before the factor; the bytes of the round key behind k. -/
def nx0 (k : List UInt8) (i : Nat) : UInt8 := xr (k.getD i 0) (sT (k.getD (12 + (i + 1) % 4) 0))
def nx (k : List UInt8) (f : UInt8) : Nat → UInt8
  | 0 => xr (nx0 k 0) f
  | 1 => nx0 k 1
  | 2 => nx0 k 2
  | 3 => nx0 k 3
  | i + 4 => xr (k.getD (i + 4) 0) (nx k f i)
def nxL (k : List UInt8) (f : UInt8) : List UInt8 := mk16 (nx k f)
attribute [irreducible] nx nx0
end Go.Proofs.YtdegmcfcbndelaaDoor

namespace Go.Proofs.YtdegmcfcbndelaaDoor
open Go.RowKit

end Go.Proofs.YtdegmcfcbndelaaDoor

namespace Go.Proofs.YtdegmcfcbndelaaDoor
open Go.RowKit

theorem KyW.alloc {w W : World} {m : Nat} {ws ts : List UInt8} {v : Value} {T : Nat} (h : KyW w m ws v ts T W) (o : Obj) : KyW w m ws v ts T (W.alloc o) :=
  ⟨⟨h.o.len, h.o.own.alloc _, h.o.below.alloc h.o.below.size _⟩, h.t.alloc _, h.ne⟩
end Go.Proofs.YtdegmcfcbndelaaDoor

namespace Go.Proofs.YtdegmcfcbndelaaDoor
open Go.RowKit

end Go.Proofs.YtdegmcfcbndelaaDoor

namespace Go.Proofs.YtdegmcfcbndelaaDoor
open Go.RowKit

/-- A byte written into a row of the call's own. -/
theorem Own1.put {w W : World} {n cap g : Nat} {bs : List UInt8} (h : Own1 w n bs (.slice (some ⟨g, 0, none⟩) n cap) W) (i : Nat) (x : UInt8) : Own1 w n (bs.set i x) (.slice (some ⟨g, 0, none⟩) n cap) (W.setCell ⟨g, i, none⟩ (.int .u8 (x.toNat : Int))) := by
  refine ⟨by rw [List.length_set]; exact h.len, ⟨by rw [ubs_length, List.length_set, ← h.len, Nat.mul_one], ?_⟩, h.below.setCell (by
    obtain ⟨_, _, e, _, _, _, _, h7⟩ := own_form h.own
    cases e
    exact (h7 _ rfl).2.2.1) _⟩
  rcases h.own.2 with ⟨h1, h2⟩ | ⟨g', cap', cur, h1, h2, h3, h4, h5, h6, h7⟩
  · cases h1
  · cases h1
    refine .inr ⟨g, _, cur.setIfInBounds i (ub x), rfl, h2, At.put h3 i (ub x), h4, h5, by rw [Array.size_setIfInBounds]; exact h6, ?_⟩
    rw [Array.toList_setIfInBounds, List.take_set, h7]
    simp [ubs, List.map_set]
end Go.Proofs.YtdegmcfcbndelaaDoor
