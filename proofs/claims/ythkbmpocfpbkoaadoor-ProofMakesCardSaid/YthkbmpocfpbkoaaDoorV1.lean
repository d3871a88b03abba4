/-
  The program's tag.
  The document's block key; comparing bytes as strings.
  The document's tag.
  The document's layer 6: labels, keys, sessions.
-/
import Derived.Test.YthkbmpocfpbkoaaDoorV0
import Derived.Test.YthkbmpocfpbkoaaDoorY1
import Derived.ArgAppend
import Derived.Test.YthkbmpocfpbkoaaDoorK2
import Derived.Lib.ConvBytes
import Derived.StillTailTactics
import Derived.Deep.Cut
namespace Go.Proofs.YthkbmpocfpbkoaaDoor
open Go.RowKit

theorem infoS : (Tryd.prog.info? 89).map (fun i => (i.zero, i.size, i.bytes)) = some (some (.slice none 0 0), 1, 24) := by kernel_rfl
theorem joined_cons (p : Part) (ps : List Part) : joined (p :: ps) = p.bs ++ joined ps := by unfold joined; simp
theorem joined_one (p : Part) : joined [p] = p.bs := by unfold joined; simp
theorem joined_two (p q : Part) : joined [p, q] = p.bs ++ q.bs := by unfold joined; simp
theorem joined_none : joined [] = [] := by unfold joined; rfl
theorem parts_one (ps : List Part) : ∀ u ∈ ps.map Part.v, u.oneCell' = true := by
  intro u hu
  obtain ⟨p, _, rfl⟩ := List.mem_map.1 hu
  rfl
/-- A literal of one element is the call's own. -/
theorem own_lit (w : World) (v : Value) (t : TypeId) : (w.alloc (.cells #[v] t)).ownsRow w.heap.size t 1 (.slice (some ⟨w.heap.size, 0, none⟩) 1 1) 1 [v] :=
  ⟨rfl, .inr ⟨w.heap.size, 1, #[v], rfl, Nat.le_refl _, heap_alloc_new w _, Nat.le_refl _, by simp [maxLen], rfl, rfl⟩⟩
/-- What holds while a tag is made: its result, the parts. -/
structure MaW (w : World) (S : Option Addr) (ps : List Part) (W : World) : Prop where
  res : At W w.heap.size (ubs n32).toArray 35
  rs : Rd W W.heap.size S (ps.map Part.v)
  rp : ∀ p ∈ ps, Rb W W.heap.size p.A p.bs
  below : Below w.heap.size w W
theorem MaW.next {w W W' : World} {S : Option Addr} {ps : List Part} (h : MaW w S ps W) (hb : Below W.heap.size W W') : MaW w S ps W' :=
  ⟨h.res.new_ hb, (h.rs.below hb).mono hb.size, fun p hp => ((h.rp p hp).below hb).mono hb.size, h.below.trans (hb.mono h.below.size)⟩
/-- Beside: the block key in a block of its own. -/
structure MbW (w : World) (S : Option Addr) (ps : List Part) (b : List UInt8) (C : Nat) (W : World) : Prop where
  ma : MaW w S ps W
  blk : At W C (ubs b).toArray 163
theorem MbW.next {w W W' : World} {S : Option Addr} {ps : List Part} {b : List UInt8} {C : Nat} (h : MbW w S ps b C W) (hb : Below W.heap.size W W') : MbW w S ps b C W' :=
  ⟨h.ma.next hb, h.blk.new_ hb⟩
theorem MbW.start {w W : World} {S : Option Addr} {ps : List Part} (h : MaW w S ps W) (b : List UInt8) : MbW w S ps b W.heap.size ((W.alloc (.cells (ubs n64).toArray 163)).setRow W.heap.size (ubs b).toArray) :=
  ⟨h.next (below_setRow ((Below.refl _ _).alloc (Nat.le_refl _) _) (Nat.le_refl _) _), setRow_heap _ _ (ubs n64).toArray _ _ _ (At.new _ _ _)⟩
/-- Beside: a hash in a block of its own. -/
structure McW (w : World) (S : Option Addr) (ps : List Part) (b : List UInt8) (C : Nat) (h : List UInt8) (D : Nat) (W : World) : Prop where
  mb : MbW w S ps b C W
  hsh : At W D (ubs h).toArray 35
theorem McW.next {w W W' : World} {S : Option Addr} {ps : List Part} {b h : List UInt8} {C D : Nat} (k : McW w S ps b C h D W) (hb : Below W.heap.size W W') : McW w S ps b C h D W' :=
  ⟨k.mb.next hb, k.hsh.new_ hb⟩
theorem McW.drew {w W : World} {S : Option Addr} {ps : List Part} {b h : List UInt8} {C D : Nat} (k : McW w S ps b C h D W) : McW w S ps b C h D W.drew :=
  ⟨⟨⟨k.mb.ma.res, k.mb.ma.rs, k.mb.ma.rp, k.mb.ma.below.os, k.mb.ma.below.tape, k.mb.ma.below.output, k.mb.ma.below.size, k.mb.ma.below.block⟩, k.mb.blk⟩, k.hsh⟩
theorem McW.start {w W : World} {S : Option Addr} {ps : List Part} {b : List UInt8} {C : Nat} (k : MbW w S ps b C W) (h : List UInt8) : McW w S ps b C h W.heap.size ((W.alloc (.cells (ubs n32).toArray 35)).setRow W.heap.size (ubs h).toArray) :=
  ⟨k.next (stored_below W h), stored_at W h⟩
/-- One part ahead of others, in a row of its own. -/
theorem MbW.lit {w W : World} {S : Option Addr} {ps : List Part} {b : List UInt8} {C : Nat} (h : MbW w S ps b C W) (v : Value) : MbW w S ps b C (W.alloc (.cells #[v] 89)) :=
  h.next ((Below.refl _ _).alloc (Nat.le_refl _) _)
/-- A literal of parts as it lies. -/
theorem rd_parts (w : World) (ps : List Part) : Rd (w.alloc (.cells (ps.map Part.v).toArray 89)) (w.alloc (.cells (ps.map Part.v).toArray 89)).heap.size (some ⟨w.heap.size, 0, none⟩) (ps.map Part.v) :=
  Rd.of_at (At.new w _ 89) 0 (fun j u hj => by rw [Nat.zero_add, List.getElem?_toArray]; exact hj) (by simp)
theorem lit_grown {w w' : World} {v : Value} {t : TypeId} (hg : (w.alloc (.cells #[v] t)).grownBy w' (Value.ownBlock (.slice (some ⟨w.heap.size, 0, none⟩) 1 1))) : Below w.heap.size w w' :=
  ((Below.refl _ _).alloc (Nat.le_refl _) _).grown hg (by simp) (fun k hk => by simp [Value.ownBlock] at hk; omega)
/-- The block key's copy as a part. -/
def kp (g : Nat) (b : List UInt8) (m : UInt8) : Part := ⟨some ⟨g, 0, none⟩, maskL b m, 64⟩
theorem kp_v (g : Nat) (b : List UInt8) (m : UInt8) (h : b.length = 64) : (kp g b m).v = .slice (some ⟨g, 0, none⟩) 64 64 := by
  unfold kp Part.v
  rw [maskL_length, h]
end Go.Proofs.YthkbmpocfpbkoaaDoor

namespace Go.Proofs.YthkbmpocfpbkoaaDoor
open Go.RowKit

theorem eql_hash_same (w : World) (a : List UInt8) (ha : a.length = 32) : (binOp .eql 35 (.agg (ubs a).toArray) (.agg (ubs a).toArray)).run Tryd.prog w = .ok (.bool true) w := by
  rw [eql_hash w a a ha ha]
  simp
/-- A key with j noughts behind. -/
def padk (k : List UInt8) (j : Nat) : List UInt8 := k ++ List.replicate j 0
theorem padk_zero (k : List UInt8) : padk k 0 = k := by simp [padk]
theorem padk_succ (k : List UInt8) (j : Nat) : padk k (j + 1) = padk k j ++ [0] := by simp [padk, List.replicate_succ']
theorem padk_all (k : List UInt8) (j : Nat) (h : k.length + j = 64) : padk k j = padK k := by unfold padk padK; rw [show 64 - k.length = j by omega]
attribute [irreducible] padk
/-- How long a slice is. -/
def lenV : Value → Nat
  | .slice _ n _ => n
  | _ => 0
theorem lenV_slice (A : Option Addr) (n c : Nat) : lenV (.slice A n c) = n := rfl
theorem one_cells (w : World) (b : UInt8) (j : Nat) (u : Value) (hj : (ubs [b])[j]? = some u) : (w.alloc (.cells #[.int .u8 (b.toNat : Int)] 5)).cell? ((⟨w.heap.size, 0, none⟩ : Addr).add j) = some u := by
  obtain ⟨ad, e, h⟩ := (rb_one w b).src (by simp [ubs])
  cases e
  exact h j u hj
theorem rb_cells {w : World} {B : Nat} {a : Addr} {bs : List UInt8} (h : Rb w B (some a) bs) (j : Nat) (u : Value) (hj : (ubs bs)[j]? = some u) : w.cell? (a.add j) = some u := by
  obtain ⟨ad, e, h2⟩ := h.src (by have := (List.getElem?_eq_some_iff.1 hj).1; omega)
  cases e
  exact h2 j u hj
/-- The first byte appended to a full slice of an array. -/
theorem Own1.first {w W w4 : World} {h : List UInt8} {v : Value} {n : Nat} (B : Below w.heap.size w W) (hn : n = h.length) (hv : w4.ownsRow (W.alloc (.cells #[.int .u8 0] 5)).heap.size 5 1 v (n + 1) (ubs h ++ ubs [0])) (hg : (W.alloc (.cells #[.int .u8 0] 5)).grownBy w4 none) : Own1 w (n + 1) (h ++ [0]) v w4 :=
  ⟨by rw [List.length_append, hn]; rfl, by
    rw [ubs_append]
    exact own_mono hv (fun k hk => by have h1 := (World.ownsRow.lt hv k hk).1; have h2 := B.size; simp at h1; omega), (B.alloc B.size _).grown hg (by have := B.size; simp; omega) (fun k hk => by cases hk)⟩
end Go.Proofs.YthkbmpocfpbkoaaDoor

namespace Go.Proofs.YthkbmpocfpbkoaaDoor
open Go.RowKit

/-- Two slices of the call's own, in blocks of their own. -/
structure TwoW (w : World) (n : Nat) (vi vo : Value) (xs ys : List UInt8) (W : World) : Prop where
  i : W.ownsRow w.heap.size 5 1 vi n (ubs xs)
  o : W.ownsRow w.heap.size 5 1 vo n (ubs ys)
  apart : ∀ g, vi.ownBlock = some g → vo.ownBlock ≠ some g
  below : Below w.heap.size w W
theorem TwoW.start (w : World) : TwoW w 0 (.slice none 0 0) (.slice none 0 0) [] [] w :=
  ⟨World.ownsRow_nil _ _ _ _, World.ownsRow_nil _ _ _ _, fun g h => by simp [Value.ownBlock] at h, Below.refl _ _⟩
/-- The first grows by one byte; then the second does. -/
structure MidW (w : World) (n : Nat) (vi vo : Value) (xs ys : List UInt8) (W : World) : Prop where
  i : W.ownsRow w.heap.size 5 1 vi (n + 1) (ubs xs)
  o : W.ownsRow w.heap.size 5 1 vo n (ubs ys)
  apart : ∀ g, vi.ownBlock = some g → vo.ownBlock ≠ some g
  below : Below w.heap.size w W
theorem TwoW.mid {w W W2 : World} {n : Nat} {vi vo v : Value} {xs ys : List UInt8} {b : UInt8} {o : Obj} (h : TwoW w n vi vo xs ys W) (h2 : W2.ownsRow w.heap.size 5 1 v (n + 1) (ubs xs ++ ubs [b])) (hg : (W.alloc o).grownBy W2 vi.ownBlock)
    (hb : v.ownBlock = vi.ownBlock ∨ v.ownBlock = some (W.alloc o).heap.size) : MidW w n v vo (xs ++ [b]) ys W2 :=
  ⟨by rw [ubs_append]; exact h2, own_grown (h.o.alloc _) hg (fun g hg' e => h.apart g e hg'), fun g hv ho => by
    rcases hb with hb | hb
    · exact h.apart g (hb ▸ hv) ho
    · rw [hb] at hv
      have := (World.ownsRow.lt h.o g ho).2
      simp at hv
      omega, (h.below.alloc h.below.size o).grown hg (by have := h.below.size; simp; omega) (fun k hk => (World.ownsRow.lt h.i k hk).1)⟩
theorem MidW.two {w W W2 : World} {n : Nat} {vi vo v : Value} {xs ys : List UInt8} {b : UInt8} {o : Obj} (h : MidW w n vi vo xs ys W) (h2 : W2.ownsRow w.heap.size 5 1 v (n + 1) (ubs ys ++ ubs [b])) (hg : (W.alloc o).grownBy W2 vo.ownBlock)
    (hb : v.ownBlock = vo.ownBlock ∨ v.ownBlock = some (W.alloc o).heap.size) : TwoW w (n + 1) vi v xs (ys ++ [b]) W2 :=
  ⟨own_grown (h.i.alloc _) hg (fun g hg' e => h.apart g hg' e), by rw [ubs_append]; exact h2, fun g hv ho => by
    rcases hb with hb | hb
    · exact h.apart g hv (hb ▸ ho)
    · rw [hb] at ho
      have := (World.ownsRow.lt h.i g hv).2
      simp at ho
      omega, (h.below.alloc h.below.size o).grown hg (by have := h.below.size; simp; omega) (fun k hk => (World.ownsRow.lt h.o k hk).1)⟩
/-- A text appended to the first. -/
theorem TwoW.more {w W W2 : World} {n m : Nat} {vi vo v : Value} {xs ys : List UInt8} (h : TwoW w n vi vo xs ys W) {zs : List UInt8} (h2 : W2.ownsRow w.heap.size 5 1 v (n + m) (ubs xs ++ ubs zs)) (hg : W.grownBy W2 vi.ownBlock) :
    W2.ownsRow w.heap.size 5 1 v (n + m) (ubs (xs ++ zs)) ∧ W2.ownsRow w.heap.size 5 1 vo n (ubs ys) ∧ Below w.heap.size w W2 :=
  ⟨by rw [ubs_append]; exact h2, own_grown h.o hg (fun g hg' e => h.apart g e hg'), h.below.grown hg h.below.size (fun k hk => (World.ownsRow.lt h.i k hk).1)⟩
/-- The first k bytes of a masked block key. -/
def mk (b : List UInt8) (m : UInt8) (k : Nat) : List UInt8 := (maskL b m).take k
theorem mk_zero (b : List UInt8) (m : UInt8) : mk b m 0 = [] := rfl
theorem mk_succ (b : List UInt8) (m : UInt8) (k : Nat) (h : k < b.length) : mk b m (k + 1) = mk b m k ++ [b.getD k 0 ^^^ m] := by
  unfold mk maskL
  rw [List.take_succ_eq_append_getElem (by simpa using h)]
  simp [h]
theorem mk_all (b : List UInt8) (m : UInt8) (k : Nat) (h : b.length = k) : mk b m k = maskL b m := by
  unfold mk
  rw [List.take_of_length_le (by rw [maskL_length, h]; exact Nat.le_refl _)]
attribute [irreducible] mk
end Go.Proofs.YthkbmpocfpbkoaaDoor

namespace Go.Proofs.YthkbmpocfpbkoaaDoor
open Go.RowKit

/-- '[]byte(s)'. -/
theorem str_bytes (l : List UInt8) (W : World) : ∃ W' cap, (convert 9 89 (.string ⟨l.toArray⟩)).run Tryd.prog W = .ok (.slice (some ⟨W.heap.size, 0, none⟩) l.length cap) W' ∧ Rb W' W'.heap.size (some ⟨W.heap.size, 0, none⟩) l ∧ Below W.heap.size W W' := by
  have h := Lib.run_convert_string_bytes (P := Tryd.prog) W 9 89 5 ⟨l.toArray⟩ Tryd.underlying9 Tryd.underlying89 Tryd.underlying5
  have hs : (⟨l.toArray⟩ : ByteArray).size = l.length := by show l.toArray.size = _; simp
  rw [hs] at h
  refine ⟨_, _, h, ?_, ?_⟩
  · refine fun _ => ⟨W.heap.size, 0, rfl, by rw [Lib.bytesWorld_size]; omega, fun j u hu => ?_⟩
    have hj : j < l.length := by have := (List.getElem?_eq_some_iff.1 hu).1; rwa [ubs_length] at this
    rw [Nat.zero_add, Lib.bytesWorld_cell _ _ _ _ (by rw [hs]; exact hj)]
    rw [ubs_get, List.getElem?_eq_getElem hj] at hu
    cases hu
    simp [hj, ub]
  · refine ⟨?_, ?_, ?_, by rw [Lib.bytesWorld_size]; omega, fun k hk => Lib.bytesWorld_at_old W _ _ k hk⟩ <;> (unfold Lib.bytesWorld World.freeze; split <;> rfl)
theorem sizeH_of {l : List UInt8} (h : l.length = 32) : (Tryd.prog.info? 35).map (·.size) = some (ubs l).toArray.size := by rw [sizeH]; simp [ubs_length, h]
def labTag : List UInt8 := [101, 110, 116, 114, 117, 115, 116, 32, 116, 97, 103]
def keyTag (key : List UInt8) : List UInt8 := macL key labTag
theorem keyTag_length (key : List UInt8) : (keyTag key).length = 32 := macL_length _ _
def labTicket : List UInt8 := [101, 110, 116, 114, 117, 115, 116, 32, 116, 105, 99, 107, 101, 116]
def keyTicket (key : List UInt8) : List UInt8 := macL key labTicket
theorem keyTicket_length (key : List UInt8) : (keyTicket key).length = 32 := macL_length _ _
def labLink : List UInt8 := [101, 110, 116, 114, 117, 115, 116, 32, 108, 105, 110, 107]
def keyLink (key : List UInt8) : List UInt8 := macL key labLink
theorem keyLink_length (key : List UInt8) : (keyLink key).length = 32 := macL_length _ _
def keySession (link : List UInt8) (n : Nat) : List UInt8 := macL link (toBE 8 n)
theorem keySession_length (link : List UInt8) (n : Nat) : (keySession link n).length = 32 := macL_length _ _
/-- What holds in Session. -/
structure SsW (w : World) (l : List UInt8) (W : World) : Prop where
  a0 : At W w.heap.size (ubs l).toArray 35
  a1 : At W (w.heap.size + 1) (ubs n32).toArray 35
  below : Below w.heap.size w W
theorem SsW.new {w W W' : World} {l : List UInt8} (h : SsW w l W) (hb : Below W.heap.size W W') : SsW w l W' := ⟨h.a0.new_ hb, h.a1.new_ hb, h.below.trans (hb.mono h.below.size)⟩
theorem SsW.start (w : World) (l : List UInt8) : SsW w l ((w.alloc (.cells (ubs l).toArray 35)).alloc (.cells (ubs n32).toArray 35)).drew :=
  ⟨((At.new _ _ _).alloc _ : At ((w.alloc _).alloc _) _ _ _), (At.new_at (by simp) : At ((w.alloc _).alloc _) _ _ _), below_drewN (((Below.refl w.heap.size w).alloc (Nat.le_refl _) _).alloc (by simp) _) 1⟩
theorem noughtsK6 : #[Value.int .u8 0, .int .u8 0, .int .u8 0, .int .u8 0, .int .u8 0, .int .u8 0, .int .u8 0, .int .u8 0, .int .u8 0, .int .u8 0, .int .u8 0, .int .u8 0, .int .u8 0, .int .u8 0, .int .u8 0, .int .u8 0] = (ubs n16).toArray := rfl
def labSeal : List UInt8 := [101, 110, 116, 114, 117, 115, 116, 32, 115, 101, 97, 108]
def keyEnc (key : List UInt8) : List UInt8 := (macL key labSeal).take 16
theorem keyEnc_length (key : List UInt8) : (keyEnc key).length = 16 := by rw [keyEnc, List.length_take, macL_length]; rfl
theorem splice_take (h : List UInt8) (hl : h.length = 32) : splice (ubs n16) 0 ((ubs h).take 16) = ubs (h.take 16) := by
  unfold splice
  rw [List.take_zero, List.nil_append, List.drop_eq_nil_of_le (by rw [ubs_length, n16_length]; simp [ubs_length, hl]), List.append_nil]
  simp [ubs, List.map_take]
end Go.Proofs.YthkbmpocfpbkoaaDoor
