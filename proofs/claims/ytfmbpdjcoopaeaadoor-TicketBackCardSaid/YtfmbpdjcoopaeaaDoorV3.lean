/-
  The document's layer 7: what is in range; a place's bytes.
  A cipher in memory: all round keys, one behind the other; New.
  What the program's steps come to in the document's words. Nothing here speaks of the program's code.
  A cipher or none; Encrypt.
  Comparing blocks and bytes; errors as numbers; RoundKey.
  The document's round keys are the program's. Nothing here speaks of the program's code.
  What laws over ciphers share: guarded operations, whole rows, the document's round keys.
  The document's layer 7: a block turned.
  The document's layer 7: a tag.
  A sealed block as a value; its parts in memory.
  The document's layer 7: Put.
  The program's alike and Blocks of layer 5.
  The iterator that the program's Blocks hands back: its contract.
  The program's Turn of layer 5.
  Blocks at unlike places are turned by unlike streams; what is turned twice is as it was. Nothing here walks.
-/
import Derived.Test.YtfmbpdjcoopaeaaDoorV0
import Derived.Test.YtfmbpdjcoopaeaaDoorV2
import Derived.Test.YtfmbpdjcoopaeaaDoorX0
import Derived.Deep.Cut
import Derived.Test.YtfmbpdjcoopaeaaDoorY1
import Derived.ChangeKeysEq
import Derived.ArgAppend
import Derived.BigQuiet
import Derived.Test.YtfmbpdjcoopaeaaDoorY4
import Derived.Sort.LoopGhostIn
import Derived.Shelf.Abstract
namespace Go.Proofs.YtfmbpdjcoopaeaaDoor
open Go.RowKit

def rightB (i e : Nat) : Bool := decide (i ≤ 4294967295) && (e != 0) && (e != 18446744073709551615)
/-- A block of the call's own as a row. -/
theorem own_of_at {w W : World} {g n : Nat} {bs : List UInt8} (h : At W g (ubs bs).toArray 5) (hg : w.heap.size ≤ g) (hb : Below w.heap.size w W) (hn : n = bs.length) (hm : n ≤ 1000000) : Own1 w n bs (.slice (some ⟨g, 0, none⟩) n n) W :=
  ⟨hn, ⟨by rw [ubs_length, hn, Nat.mul_one], .inr ⟨g, n, (ubs bs).toArray, rfl, hg, h, Nat.le_refl _, by unfold maxLen; omega, by simp [ubs_length, hn], by rw [List.take_of_length_le (by simp [ubs_length, hn])]⟩⟩, hb⟩
end Go.Proofs.YtfmbpdjcoopaeaaDoor

namespace Go.Proofs.YtfmbpdjcoopaeaaDoor
open Go.RowKit

/-- The round keys, one by one; the first n of them, one behind the other; a cipher in the making. -/
def pwd : Nat → UInt8
  | 0 => 1
  | n + 1 => dbl (pwd n)
def rk (key : List UInt8) : Nat → List UInt8
  | 0 => key
  | n + 1 => nxL (rk key n) (pwd n)
def rks (key : List UInt8) : Nat → List UInt8
  | 0 => []
  | n + 1 => rks key n ++ rk key n
def ck (key : List UInt8) (n : Nat) : List UInt8 := rks key n ++ List.replicate (176 - 16 * n) 0
theorem rk_zero (key : List UInt8) : rk key 0 = key := rfl
theorem rks_succ (key : List UInt8) (n : Nat) : rks key (n + 1) = rks key n ++ rk key n := rfl
theorem rk_length (key : List UInt8) (h : key.length = 16) (n : Nat) : (rk key n).length = 16 := by
  cases n with
  | zero => exact h
  | succ n => exact nxL_length _ _
theorem rks_length (key : List UInt8) (h : key.length = 16) (n : Nat) : (rks key n).length = 16 * n := by
  induction n with
  | zero => rfl
  | succ n ih => rw [rks_succ, List.length_append, ih, rk_length key h]; omega
theorem ck_length (key : List UInt8) (h : key.length = 16) (n : Nat) (hn : n ≤ 11) : (ck key n).length = 176 := by
  rw [ck, List.length_append, rks_length key h, List.length_replicate]; omega
theorem ck_next (key : List UInt8) (h : key.length = 16) (n : Nat) (hn : n ≤ 10) : spl (ck key n) (16 * n) (rk key n) = ck key (n + 1) := by
  have h1 : List.replicate (176 - 16 * n) (0 : UInt8) = List.replicate 16 0 ++ List.replicate (176 - 16 * (n + 1)) 0 := by
    rw [List.replicate_append_replicate]; congr 1; omega
  have := spl_at (rks key n) (List.replicate 16 0) (List.replicate (176 - 16 * (n + 1)) 0) (rk key n) (by rw [rk_length key h, List.length_replicate])
  rw [rks_length key h] at this
  rw [ck, h1, this, ck, rks_succ, List.append_assoc]
theorem rks_part (key : List UInt8) (m n : Nat) (hn : n < m) : ∃ z, rks key m = rks key n ++ (rk key n ++ z) := by
  induction m with
  | zero => omega
  | succ m ih =>
    by_cases e : n = m
    · subst e
      exact ⟨[], by rw [rks_succ]; simp⟩
    · obtain ⟨z, hz⟩ := ih (by omega)
      exact ⟨z ++ rk key m, by rw [rks_succ, hz]; simp⟩
theorem ck_part (key : List UInt8) (m n : Nat) (hn : n < m) : ∃ z, ck key m = rks key n ++ (rk key n ++ z) := by
  obtain ⟨z, hz⟩ := rks_part key m n hn
  exact ⟨z ++ List.replicate (176 - 16 * m) 0, by rw [ck, hz]; simp⟩
def n176 : List UInt8 := List.replicate 176 0
theorem ck_zero (key : List UInt8) : ck key 0 = n176 := rfl
attribute [irreducible] ck rks rk pwd n176
/-- A cipher in the making. -/
structure Nw1 (w : World) (key : List UInt8) (m : Nat) (wr : World) : Prop where
  arg : At wr w.heap.size (ubs key).toArray 31
  c : At wr (w.heap.size + 1) (ubs (ck key m)).toArray 219
  size : w.heap.size + 2 ≤ wr.heap.size
  below : Below w.heap.size w wr
structure Nw2 (w : World) (key : List UInt8) (m D : Nat) (wr : World) : Prop where
  c : At wr (w.heap.size + 1) (ubs (ck key m)).toArray 219
  tab : At wr D (ubs STab).toArray 220
  far : w.heap.size + 2 ≤ D
  below : Below w.heap.size w wr
theorem Nw1.start (w : World) (key : List UInt8) : Nw1 w key 0 ((w.alloc (.cells (ubs key).toArray 31)).alloc (.cells (ubs n176).toArray 219)) :=
  ⟨(At.new _ _ _).alloc _, by rw [ck_zero]; exact At.new_at (by simp), by simp, ((Below.refl _ _).alloc (Nat.le_refl _) _).alloc (by simp) _⟩
theorem Nw1.drew {w wr : World} {key : List UInt8} {m : Nat} (h : Nw1 w key m wr) (n : Nat) : Nw1 w key m (wr.drewN n) := ⟨h.arg, h.c, h.size, below_drewN h.below n⟩
theorem size_setCells (g : Nat) (vs : List Value) : ∀ (o : Nat) (w : World), (w.setCells g o vs).heap.size = w.heap.size := by
  induction vs with
  | nil => exact fun _ _ => rfl
  | cons v r ih => exact fun o w => (ih (o + 1) _).trans (by simp)
theorem Nw1.first {w wr : World} {key : List UInt8} (hk : key.length = 16) (h : Nw1 w key 0 wr) : Nw1 w key 1 (wr.setCells (w.heap.size + 1) 0 (ubs key)) := by
  refine ⟨far_setCells h.arg (by omega) 0 key, ?_, by rw [size_setCells]; exact h.size, below_setCells h.below (by omega) 0 key⟩
  have := at_setCells h.c 0 key
  have e := ck_next key hk 0 (by omega)
  rw [rk_zero] at e
  rwa [e] at this
theorem Nw1.next {w wr w1 : World} {key : List UInt8} {m : Nat} (h : Nw1 w key m wr) (hb : Below wr.heap.size wr w1) : Nw2 w key m w1.heap.size ((w1.alloc (.cells (ubs n256).toArray 220)).setRow w1.heap.size (ubs STab).toArray) :=
  ⟨At.setRow_far ((h.c.new_ hb).alloc _) (by have := hb.size; have := h.size; omega), setRow_heap _ _ (ubs n256).toArray _ _ _ (At.new _ _ _), by have := hb.size; have := h.size; omega,
    below_setRow ((h.below.trans (hb.mono h.below.size)).alloc (by have := hb.size; have := h.size; omega) _) (by have := hb.size; have := h.size; omega) _⟩
theorem Nw2.drew {w wr : World} {key : List UInt8} {m D : Nat} (h : Nw2 w key m D wr) (n : Nat) : Nw2 w key m D (wr.drewN n) := ⟨h.c, h.tab, h.far, below_drewN h.below n⟩
theorem Nw2.new {w wr w1 : World} {key : List UInt8} {m D : Nat} (h : Nw2 w key m D wr) (hb : Below wr.heap.size wr w1) : Nw2 w key m D w1 := ⟨h.c.new_ hb, h.tab.new_ hb, h.far, h.below.trans (hb.mono h.below.size)⟩
theorem Nw2.store {w wr : World} {key : List UInt8} {m D : Nat} (hk : key.length = 16) (hm : m ≤ 10) (h : Nw2 w key m D wr) : Nw2 w key (m + 1) D (wr.setCells (w.heap.size + 1) (16 * m) (ubs (rk key m))) := by
  refine ⟨?_, far_setCells h.tab (by have := h.far; omega) _ _, h.far, below_setCells h.below (by omega) _ _⟩
  have := at_setCells h.c (16 * m) (rk key m)
  rwa [ck_next key hk m hm] at this
theorem Nw2.range {w wr : World} {key : List UInt8} {m D : Nat} (hk : key.length = 16) (h : Nw2 w key m D wr) (n : Nat) (hn : n < m) : wr.rangeAt (w.heap.size + 1) (16 * n) (ubs (rk key n)) := by
  obtain ⟨z, hz⟩ := ck_part key m n hn
  have := range_at h.c hz
  rwa [rks_length key hk] at this
theorem Nw2.there {w wr : World} {key : List UInt8} {m D : Nat} (hk : key.length = 16) (h : Nw2 w key m D wr) (hm : m ≤ 10) : wr.there (w.heap.size + 1) (16 * m) 16 :=
  there_at h.c _ _ (by rw [ck_length key hk m (by omega)]; omega)
end Go.Proofs.YtfmbpdjcoopaeaaDoor

namespace Go.Proofs.YtfmbpdjcoopaeaaDoor
open Go.RowKit

end Go.Proofs.YtfmbpdjcoopaeaaDoor

namespace Go.Proofs.YtfmbpdjcoopaeaaDoor
open Go.RowKit

/-- What a receiver is: a cipher with the key, or none with the key of noughts. -/
def Cip (w : World) (key : List UInt8) (p : Option Addr) : Prop := (p = none ∧ key = n16) ∨ ∃ C, p = some ⟨C, 0, none⟩ ∧ At w C (ubs (rks key 11)).toArray 219
theorem Cip.below {w w' : World} {key : List UInt8} {p : Option Addr} (h : Cip w key p) (hb : Below w.heap.size w w') : Cip w' key p := by
  rcases h with h | ⟨C, h1, h2⟩
  · exact .inl h
  · exact .inr ⟨C, h1, h2.new_ hb⟩
/-- What holds in Encrypt and Decrypt: the block in the making, the result, the cipher, the table. -/
structure EcA (w : World) (x : List UInt8) (wr : World) : Prop where
  blk : At wr w.heap.size (ubs x).toArray 30
  res : At wr (w.heap.size + 1) (ubs n16).toArray 30
  size : w.heap.size + 2 ≤ wr.heap.size
  below : Below w.heap.size w wr
structure EcW (w : World) (key tb x : List UInt8) (C T : Nat) (wr : World) : Prop where
  ec : EcA w x wr
  c : At wr C (ubs (rks key 11)).toArray 219
  tab : At wr T (ubs tb).toArray 220
theorem EcA.start (w : World) (x : List UInt8) : EcA w x ((w.alloc (.cells (ubs x).toArray 30)).alloc (.cells (ubs n16).toArray 30)) :=
  ⟨(At.new _ _ _).alloc _, At.new_at (by simp), by simp, ((Below.refl _ _).alloc (Nat.le_refl _) _).alloc (by simp) _⟩
theorem EcA.new {w wr w' : World} {x : List UInt8} (h : EcA w x wr) (hb : Below wr.heap.size wr w') : EcA w x w' :=
  ⟨h.blk.new_ hb, h.res.new_ hb, Nat.le_trans h.size hb.size, h.below.trans (hb.mono h.below.size)⟩
theorem EcA.row {w wr : World} {x : List UInt8} (h : EcA w x wr) (y : List UInt8) : EcA w y (wr.setRow w.heap.size (ubs y).toArray) :=
  ⟨setRow_heap _ _ _ _ _ _ h.blk, At.setRow_far h.res (by omega), by simpa using h.size, below_setRow h.below (Nat.le_refl _) _⟩
theorem EcW.row {w wr : World} {key tb x : List UInt8} {C T : Nat} (h : EcW w key tb x C T wr) (y : List UInt8) : EcW w key tb y C T (wr.setRow w.heap.size (ubs y).toArray) :=
  ⟨h.ec.row y, At.setRow_far h.c (At.ne h.c h.ec.blk (by decide)), At.setRow_far h.tab (At.ne h.tab h.ec.blk (by decide))⟩
theorem EcW.new {w wr w' : World} {key tb x : List UInt8} {C T : Nat} (h : EcW w key tb x C T wr) (hb : Below wr.heap.size wr w') : EcW w key tb x C T w' := ⟨h.ec.new hb, h.c.new_ hb, h.tab.new_ hb⟩
theorem EcW.drew {w wr : World} {key tb x : List UInt8} {C T : Nat} (h : EcW w key tb x C T wr) (n : Nat) : EcW w key tb x C T (wr.drewN n) := ⟨⟨h.ec.blk, h.ec.res, h.ec.size, below_drewN h.ec.below n⟩, h.c, h.tab⟩
end Go.Proofs.YtfmbpdjcoopaeaaDoor

namespace Go.Proofs.YtfmbpdjcoopaeaaDoor
open Go.RowKit

theorem run_eq_block (w : World) (a b : List UInt8) (ha : a.length = 16) (hb : b.length = 16) (d : Nat) :
    (Op.equalIn (d + 2) 30 (.agg (ubs a).toArray) (.agg (ubs b).toArray)).run Tryd.prog w = .ok (a == b) w := by
  obtain ⟨i, hi⟩ : ∃ i, Tryd.prog.info? 5 = some i := by
    have := info8
    cases h : Tryd.prog.info? 5 with
    | none => simp [h] at this
    | some i => exact ⟨i, rfl⟩
  rw [run_equalIn_array w (d + 1) _ _ Tryd.underlying30 hi, cellsB, List.range_eq_range', run_eqItems_ub w d a b (by omega) 16 0 (by omega)]
  simp
theorem guard16 : Tryd.prog.eqGuardType Tryd.prog.depth 30 = false := by kernel_rfl
end Go.Proofs.YtfmbpdjcoopaeaaDoor

namespace Go.Proofs.YtfmbpdjcoopaeaaDoor
open Go.RowKit

end Go.Proofs.YtfmbpdjcoopaeaaDoor

namespace Go.Proofs.YtfmbpdjcoopaeaaDoor
open Go.RowKit

end Go.Proofs.YtfmbpdjcoopaeaaDoor

namespace Go.Proofs.YtfmbpdjcoopaeaaDoor
open Go.RowKit

/-- What holds in Turned. -/
structure TdW (w : World) (key b c : List UInt8) (W : World) : Prop where
  k : At W w.heap.size (ubs key).toArray 31
  b : At W (w.heap.size + 1) (ubs b).toArray 35
  r : At W (w.heap.size + 2) (ubs n32).toArray 35
  c : At W (w.heap.size + 3) (ubs c).toArray 30
  size : w.heap.size + 4 ≤ W.heap.size
  below : Below w.heap.size w W
theorem TdW.new {w W W' : World} {key b c : List UInt8} (h : TdW w key b c W) (hb : Below W.heap.size W W') : TdW w key b c W' := ⟨h.k.new_ hb, h.b.new_ hb, h.r.new_ hb, h.c.new_ hb, Nat.le_trans h.size hb.size, h.below.trans (hb.mono h.below.size)⟩
theorem TdW.drew {w W : World} {key b c : List UInt8} (h : TdW w key b c W) : TdW w key b c W.drew := ⟨h.k, h.b, h.r, h.c, h.size, below_drewN h.below 1⟩
theorem TdW.fr {w W W' : World} {key b c : List UInt8} {g : Nat} (h : TdW w key b c W) (hF : Fr (fun k => k = g) W W') (hg : w.heap.size + 4 ≤ g) : TdW w key b c W' :=
  ⟨h.k.fr hF (by omega), h.b.fr hF (by omega), h.r.fr hF (by omega), h.c.fr hF (by omega), Nat.le_trans h.size hF.size, ((Fr.of_below (S := fun k => w.heap.size ≤ k) h.below (fun _ _ h => h)).next hF (fun k hk e => by omega)).below (fun _ h => h) (Nat.le_refl _)⟩
theorem TdW.fill {w W W' : World} {key b c d : List UInt8} (h : TdW w key b c W) (hA : At W' (w.heap.size + 3) (ubs d).toArray 30) (hF : Fr (fun k => k = w.heap.size + 3) W W') : TdW w key b d W' :=
  ⟨h.k.fr hF (by omega), h.b.fr hF (by omega), h.r.fr hF (by omega), hA, Nat.le_trans h.size hF.size, ((Fr.of_below (S := fun k => w.heap.size ≤ k) h.below (fun _ _ h => h)).next hF (fun k hk e => by omega)).below (fun _ h => h) (Nat.le_refl _)⟩
theorem TdW.start (w : World) (key b : List UInt8) : TdW w key b n16 ((((w.alloc (.cells (ubs key).toArray 31)).alloc (.cells (ubs b).toArray 35)).alloc (.cells (ubs n32).toArray 35)).alloc (.cells (ubs n16).toArray 30)) :=
  ⟨(((At.new _ _ _).alloc _).alloc _).alloc _, ((At.new_at (by simp)).alloc _).alloc _, (At.new_at (by simp)).alloc _, At.new_at (by simp), by simp,
    ((((Below.refl w.heap.size w).alloc (Nat.le_refl _) _).alloc (by simp) _).alloc (by simp; omega) _).alloc (by simp; omega) _⟩
structure TeW (w : World) (key b c x : List UInt8) (D : Nat) (W : World) : Prop where
  t : TdW w key b c W
  d : At W D (ubs x).toArray 35
  far : w.heap.size + 4 ≤ D
theorem TeW.new {w W W' : World} {key b c x : List UInt8} {D : Nat} (h : TeW w key b c x D W) (hb : Below W.heap.size W W') : TeW w key b c x D W' := ⟨h.t.new hb, h.d.new_ hb, h.far⟩
theorem TeW.drew {w W : World} {key b c x : List UInt8} {D : Nat} (h : TeW w key b c x D W) : TeW w key b c x D W.drew := ⟨h.t.drew, h.d, h.far⟩
theorem sizeBk : (Tryd.prog.info? 35).map (·.size) = some 32 := by kernel_rfl
end Go.Proofs.YtfmbpdjcoopaeaaDoor

namespace Go.Proofs.YtfmbpdjcoopaeaaDoor
open Go.RowKit

/-- What holds in Tag: the data, the result, the tag's key. -/
structure TgW (w : World) (d h : List UInt8) (K : Nat) (W : World) : Prop where
  b : At W (w.heap.size + 1) (ubs d).toArray 35
  r : At W (w.heap.size + 2) (ubs n16).toArray 30
  h : At W K (ubs h).toArray 25
  size : w.heap.size + 3 ≤ W.heap.size
  below : Below w.heap.size w W
theorem TgW.new {w W W' : World} {d h : List UInt8} {K : Nat} (x : TgW w d h K W) (hb : Below W.heap.size W W') : TgW w d h K W' := ⟨x.b.new_ hb, x.r.new_ hb, x.h.new_ hb, Nat.le_trans x.size hb.size, x.below.trans (hb.mono x.below.size)⟩
theorem TgW.drewN {w W : World} {d h : List UInt8} {K : Nat} (x : TgW w d h K W) (n : Nat) : TgW w d h K (W.drewN n) := ⟨x.b, x.r, x.h, x.size, below_drewN x.below n⟩
theorem TgW.drew {w W : World} {d h : List UInt8} {K : Nat} (x : TgW w d h K W) : TgW w d h K W.drew := ⟨x.b, x.r, x.h, x.size, below_drewN x.below 1⟩
section
variable {P : Program} {ops : Array Oper} {Q : Exit → Act → World → Prop} {md : Region.Mode} {S : World → Prop} {z : Nat}
end
theorem splice_first (h : List UInt8) (hl : h.length = 32) : splice (ubs n16) 0 ((ubs h).take 16) = ubs (h.take 16) := splice_take h hl
end Go.Proofs.YtfmbpdjcoopaeaaDoor

namespace Go.Proofs.YtfmbpdjcoopaeaaDoor
open Go.RowKit

/-- A sealed block's cells. -/
def sv (e : Nat) (d t : List UInt8) : List Value := .int .u64 (e : Int) :: (ubs d ++ ubs t)
theorem sv_length (e : Nat) (d t : List UInt8) (hd : d.length = 32) (ht : t.length = 16) : (sv e d t).length = 49 := by simp [sv, ubs_length, hd, ht]
theorem sv_all (e : Nat) (d t : List UInt8) : (sv e d t).toArray.all (·.oneCell') = true :=
  Array.all_eq_true_iff_forall_mem.2 (fun v hv => by
    simp only [sv, List.mem_toArray, List.mem_cons, List.mem_append] at hv
    rcases hv with rfl | hv | hv
    · rfl
    · exact ubs_one d v hv
    · exact ubs_one t v hv)
theorem sv_epoch {W : World} {g e : Nat} {d t : List UInt8} {T : TypeId} (h : At W g (sv e d t).toArray T) : W.cell? ⟨g, 0, none⟩ = some (.int .u64 (e : Int)) := by
  rw [h.cell]
  rfl
theorem sv_data {W : World} {g e : Nat} {d t : List UInt8} {T : TypeId} (h : At W g (sv e d t).toArray T) : W.rangeAt g 1 (ubs d) :=
  range_vals (a := [.int .u64 (e : Int)]) (m := ubs d) (z := ubs t) h rfl
theorem sv_tag {W : World} {g e : Nat} {d t : List UInt8} {T : TypeId} (h : At W g (sv e d t).toArray T) (hd : d.length = 32) : W.rangeAt g 33 (ubs t) := by
  have := range_vals (a := .int .u64 (e : Int) :: ubs d) (m := ubs t) (z := []) h (by simp [sv])
  rw [List.length_cons, ubs_length, hd] at this
  exact this
theorem sizeSv : (Tryd.prog.info? 44).map (·.size) = some 49 := by kernel_rfl
theorem zeroSv : (Tryd.prog.info? 44).bind (·.zero) = some (.agg (sv 0 n32 n16).toArray) := by kernel_rfl
theorem run_load16 {o : Oper} {a : Go.Act} {W : World} (x : Operand) (ho : o.op = .load 30 x) (b off : Nat) (hx : a.eval x = .pointer (some ⟨b, off, none⟩)) (l : List UInt8) (hc : W.rangeAt b off (ubs l)) (hl : l.length = 16) : (execOp a.eval o).run Tryd.prog W = .ok (.value (.agg (ubs l).toArray)) W :=
  run_load_part _ x ho b off hx (ubs l) _ hc Tryd.underlying30 rfl (by rw [size16, ubs_length, hl])
theorem sizeSv_of {l : List Value} (h : l.length = 49) : (Tryd.prog.info? 44).map (·.size) = some l.toArray.size := by rw [sizeSv]; simp [h]
end Go.Proofs.YtfmbpdjcoopaeaaDoor

namespace Go.Proofs.YtfmbpdjcoopaeaaDoor
open Go.RowKit

def putL (e : Nat) (d t : List UInt8) : List UInt8 := toBE 8 e ++ d ++ t
theorem putL_length (e : Nat) (d t : List UInt8) (hd : d.length = 32) (ht : t.length = 16) : (putL e d t).length = 56 := by simp [putL, toBE_length, hd, ht]
/-- What a sealed block's parts read as. -/
theorem sv_rb_data {W : World} {g e : Nat} {d t : List UInt8} {T : TypeId} (h : At W g (sv e d t).toArray T) : Rb W W.heap.size (some ⟨g, 1, none⟩) d := fun _ => ⟨g, 1, rfl, h.lt, sv_data h⟩
theorem sv_rb_tag {W : World} {g e : Nat} {d t : List UInt8} {T : TypeId} (h : At W g (sv e d t).toArray T) (hd : d.length = 32) : Rb W W.heap.size (some ⟨g, 33, none⟩) t := fun _ => ⟨g, 33, rfl, h.lt, sv_tag h hd⟩
set_option maxRecDepth 100000 in
set_option maxHeartbeats 1000000 in
theorem putR_any (d t : List UInt8) (e : Nat) (w : World) (hd : d.length = 32) (ht : t.length = 16) (he : e < 18446744073709551616) :
    Calls Tryd.prog 95 #[.agg (sv e d t).toArray] w fun r w' => ∃ A c, r = .returned (.slice A 56 c) ∧ Own1 w 56 (putL e d t) (.slice A 56 c) w' := by
  obtain ⟨i0, hi0, hz0, hz1, hz2⟩ := info_parts infoB
  have H0 := hid (At.new w (sv e d t).toArray 44)
  have HB0 := hid ((Below.refl w.heap.size w).alloc (Nat.le_refl _) (.cells (sv e d t).toArray 44))
  have q0 := sv_epoch H0.out
  have HN8 := hid (fun W => show Calls Tryd.prog 94 #[.int .u64 (e : Int), .int .i64 8] W (fun e' w' => ∃ g, e' = .returned (.slice (some ⟨g, 0, none⟩) 8 8) ∧ At w' g (ubs (toBE 8 e)).toArray 5 ∧ W.heap.size ≤ g ∧ Below W.heap.size W w') from numberR_any e 8 W he (by omega))
  have L8 := hid (toBE_length 8 e)
  have HD := hid hd
  have HT := hid ht
  have RD := hid (fun (W : World) (h : At W w.heap.size (sv e d t).toArray 44) => sv_rb_data h)
  have RT := hid (fun (W : World) (h : At W w.heap.size (sv e d t).toArray 44) => sv_rb_tag h hd)
  have HNE := hid (show ∀ (W : World) (g : Nat) (n : Nat) (v : Value) (xs : List Value), W.ownsRow w.heap.size 5 1 v n xs → At W w.heap.size (sv e d t).toArray 44 → v.ownBlock ≠ some w.heap.size from fun W g n v xs h hA e' => by
    rcases h.2 with ⟨h1, _⟩ | ⟨g', cap, cur, h1, _, hh, _⟩
    · rw [h1] at e'; cases e'
    · rw [h1] at e'
      have e2 : g' = w.heap.size := Option.some.inj e'
      rw [e2] at hh
      exact At.ne (show At W w.heap.size cur 5 from hh) hA (by decide) rfl)
  generalize sv e d t = x at H0 HB0 q0 RD RT HNE ⊢
  clear hd ht he
  go_enter Tryd.func95, Tryd.ntmps95
  go_wp2_with (first
    | (go_at_call 94; (have cq := HN8.out (w.alloc (.cells x.toArray 44))); ((with_reducible refine cq.mono ?_); clear cq); rintro e1 w1 ⟨g, rfl, hA1, hg1, hb1⟩; have X1 := hid (H0.out.new_ hb1); have O1 := hid (own_of_at (w := w) hA1 (by simp at hg1; omega) (HB0.out.trans (hb1.mono HB0.out.size)) L8.out.symm (by omega)); clear hA1 hg1 hb1)
    | (at_builtin; refine wpList_append_rd rfl (.tmp 7) (.tmp 9) _ rfl w.heap.size 5 i0 (.int .u8 0) 1 Tryd.underlying22 hi0 hz0 hz1 hz2 rfl (.slice (some ⟨g, 0, none⟩) 8 8) 8 (ubs (toBE 8 e)) rfl O1.out.own w1.heap.size (some ⟨w.heap.size, 1, none⟩) 32 32 (ubs d) rfl (by rw [ubs_length, HD.out]) (RD.out _ X1.out) (ubs_one _) (by unfold maxLen; omega) (by omega) O1.out.below.size ?_; intro v3 w3 ho3 hg3 _; have O3 := hid (O1.out.more ho3 HD.out.symm hg3); have X3 := hid (show At w3 w.heap.size x.toArray 44 from (hg3.block _ X1.out.lt (fun e' => HNE.out w1 0 8 _ _ O1.out.own X1.out e'.symm)).trans X1.out); (have hf3 := own_form ho3); clear ho3 hg3; obtain ⟨A3, c3, rfl, -⟩ := hf3)
    | (at_builtin; refine wpList_append_rd rfl (.tmp 11) (.tmp 13) _ rfl w.heap.size 5 i0 (.int .u8 0) 1 Tryd.underlying22 hi0 hz0 hz1 hz2 rfl (.slice A3 (8 + 32) c3) (8 + 32) (ubs (toBE 8 e ++ d)) rfl O3.out.own w3.heap.size (some ⟨w.heap.size, 33, none⟩) 16 16 (ubs t) rfl (by rw [ubs_length, HT.out]) (RT.out _ X3.out) (ubs_one _) (by unfold maxLen; omega) (by omega) O3.out.below.size ?_; intro v4 w4 ho4 hg4 _; have O4 := hid (O3.out.more ho4 HT.out.symm hg4); (have hf4 := own_form ho4); clear ho4 hg4; obtain ⟨A4, c4, rfl, -⟩ := hf4))
  go_ret
  exact ⟨_, _, rfl, O4.out⟩
end Go.Proofs.YtfmbpdjcoopaeaaDoor

namespace Go.Proofs.YtfmbpdjcoopaeaaDoor
open Go.RowKit

/-- An iterator: its counter, its cipher's place and its cipher. -/
structure Itr (key c : List UInt8) (g D C : Nat) (W : World) : Prop where
  ctr : At W g (ubs c).toArray 30
  own : At W D #[.pointer (some ⟨C, 0, none⟩)] 139
  ciph : At W C (ubs (rks key 11)).toArray 219
theorem Itr.below {key c : List UInt8} {g D C : Nat} {W W' : World} (h : Itr key c g D C W) (hb : Below W.heap.size W W') : Itr key c g D C W' := ⟨h.ctr.new_ hb, h.own.new_ hb, h.ciph.new_ hb⟩
end Go.Proofs.YtfmbpdjcoopaeaaDoor

namespace Go.Proofs.YtfmbpdjcoopaeaaDoor
open Go.RowKit

attribute [local go_sem] Oper.semAt_some

/-- What a round keeps: every row of cells but those of S. -/
structure KeepsOut (S : Nat → Prop) (A B : World) : Prop where
  size : A.heap.size ≤ B.heap.size
  same : ∀ (k : Nat) (cs : Array Value) (t : TypeId) (fr : Nat × Nat), ¬ S k → A.heap[k]? = some (.cells cs t fr) → B.heap[k]? = some (.cells cs t fr)
theorem KeepsOut.refl (S : Nat → Prop) (A : World) : KeepsOut S A A := ⟨Nat.le_refl _, fun _ _ _ _ _ h => h⟩
theorem KeepsOut.trans {S : Nat → Prop} {A B D : World} (h : KeepsOut S A B) (k : KeepsOut S B D) : KeepsOut S A D := ⟨Nat.le_trans h.size k.size, fun i cs t fr hi h0 => k.same i cs t fr hi (h.same i cs t fr hi h0)⟩
theorem KeepsOut.putObj {S : Nat → Prop} (W : World) (l : Nat) (o o' : Obj) (h : W.heap[l]? = some o) (hc : o.isCells = false) : KeepsOut S W (W.putObj l o') :=
  ⟨(grownBy_putObj' W l o').size, fun k cs t fr _ h0 => by
    by_cases e : k = l
    · subst e
      rw [h] at h0
      cases h0
      cases hc
    · exact ((grownBy_putObj' W l o').block k (Array.getElem?_eq_some_iff.1 h0).1 (by simpa using e)).trans h0⟩
theorem KeepsOut.of_below {S : Nat → Prop} {A B : World} (h : Below A.heap.size A B) : KeepsOut S A B := ⟨h.size, fun k _ _ _ _ h0 => (h.block k (Array.getElem?_eq_some_iff.1 h0).1).trans h0⟩
theorem KeepsOut.setRow {S : Nat → Prop} (A : World) (g : Nat) (hg : S g) (cs : Array Value) : KeepsOut S A (A.setRow g cs) := ⟨by simp, fun k _ _ _ hk h0 => (setRow_other A g k cs (fun e => hk (e ▸ hg))).trans h0⟩
theorem KeepsOut.setCell {S : Nat → Prop} (A : World) (p : Addr) (hg : S p.block) (v : Value) : KeepsOut S A (A.setCell p v) := ⟨by simp [World.setCell], fun k _ _ _ hk h0 => (Below.heap_setCell A p v k (fun e => hk (e ▸ hg))).trans h0⟩
theorem KeepsOut.at_ {S : Nat → Prop} {g : Nat} {A B : World} {cs : Array Value} {t : TypeId} (h : KeepsOut S A B) (hA : At A g cs t) (hg : ¬ S g) : At B g cs t := h.same g cs t (0, 0) hg hA
/-- What holds between the iterator's rounds. -/
structure ItW (key c : List UInt8) (B D C k : Nat) (W : World) : Prop where
  here : At W B (ubs (nextL c k)).toArray 30
  own : At W D #[.pointer (some ⟨C, 0, none⟩)] 139
  ciph : At W C (ubs (rks key 11)).toArray 219
theorem ItW.new {key c : List UInt8} {B D C k : Nat} {W W' : World} (h : ItW key c B D C k W) (hb : Below W.heap.size W W') : ItW key c B D C k W' := ⟨h.here.new_ hb, h.own.new_ hb, h.ciph.new_ hb⟩
theorem ItW.kept {S : Nat → Prop} {key c : List UInt8} {B D C k : Nat} {W W' : World} (h : ItW key c B D C k W) (hk : KeepsOut S W W') (hB : ¬ S B) (hD : ¬ S D) (hC : ¬ S C) : ItW key c B D C k W' := ⟨hk.at_ h.here hB, hk.at_ h.own hD, hk.at_ h.ciph hC⟩

end Go.Proofs.YtfmbpdjcoopaeaaDoor

namespace Go.Proofs.YtfmbpdjcoopaeaaDoor
open Go.RowKit Go.Shelf

attribute [local go_sem] Oper.semAt_some

/-- Byte i turned. -/
def pf (keys c b : List UInt8) (i : Nat) : UInt8 := xr (b.getD i 0) ((encL keys (nextL c (i / 16))).getD (i % 16) 0)
/-- The slice that is left in round k. -/
def restV (g L k : Nat) : Value := .slice (some ⟨g, 16 * k, none⟩) (L - 16 * k) (L - 16 * k)
/-- What holds between the rounds of Turn. -/
structure TuW (w : World) (keys c b : List UInt8) (g T k : Nat) (W : World) : Prop where
  num : k = 0 ∨ 16 * k < b.length
  rest : At W T #[restV g b.length k] 22
  row : At W g (ubs (upd b (pf keys c b) (min (16 * k) b.length))).toArray 5
  below : Below w.heap.size w W
theorem at_free {W W' : World} {g B : Nat} {cs : Array Value} {t : TypeId} {row : Option Nat} (h : At W g cs t) (hB : g < B) (hg : W.grownBy W' row) (hr : ∀ r, row = some r → B ≤ r) : At W' g cs t :=
  (hg.block g h.lt (fun e => by have := hr g e.symm; omega)).trans h
theorem TuW.free {w : World} {keys c b : List UInt8} {g T B : Nat} (hg : g < B) (hT : T < B) (hw : w.heap.size ≤ B) : FreeFrom B (fun k W => TuW w keys c b g T k W) := fun _ _ _ _ h hg' hr =>
  ⟨h.num, at_free h.rest hT hg' hr, at_free h.row hg hg' hr, h.below.grown hg' h.below.size (fun k e => Nat.le_trans hw (hr k e))⟩
theorem TuW.start {w W : World} {keys c b : List UInt8} {g T L : Nat} (hL : L = b.length) (h1 : At W T #[.slice (some ⟨g, 0, none⟩) L L] 22) (h2 : At W g (ubs b).toArray 5) (h3 : Below w.heap.size w W) : TuW w keys c b g T 0 W :=
  ⟨.inl rfl, by subst hL; exact h1, by rw [Nat.mul_zero, Nat.zero_min, upd_zero]; exact h2, h3⟩
/-- What a body keeps. -/
structure Kept (S : Nat → Prop) (A B : World) : Prop where
  oth : KeepsOthers A B
  out : KeepsOut S A B
theorem Kept.refl (S : Nat → Prop) (A : World) : Kept S A A := ⟨KeepsOthers.refl A, KeepsOut.refl S A⟩
theorem Kept.trans {S : Nat → Prop} {A B D : World} (h : Kept S A B) (k : Kept S B D) : Kept S A D := ⟨h.oth.trans k.oth, h.out.trans k.out⟩
theorem Kept.setCell {S : Nat → Prop} {A B : World} (h : Kept S A B) (p : Addr) (hp : S p.block) (v : Value) : Kept S A (B.setCell p v) := ⟨h.oth.trans (KeepsOthers.setCell _ _ _), h.out.trans (KeepsOut.setCell _ _ hp _)⟩
theorem Kept.drewN {S : Nat → Prop} {A B : World} (h : Kept S A B) (n : Nat) : Kept S A (B.drewN n) := ⟨⟨h.oth.size, h.oth.same⟩, ⟨h.out.size, h.out.same⟩⟩
theorem Kept.of_below {S : Nat → Prop} {A B : World} (h : Below A.heap.size A B) : Kept S A B := ⟨others_of_below h, KeepsOut.of_below h⟩
/-- What holds in a body's rounds. -/
structure TuL (S : Nat → Prop) (w W : World) (f : Nat → UInt8) (b y : List UInt8) (g T Bx o r i : Nat) (wr : World) : Prop where
  rest : At wr T #[.slice (some ⟨g, o, none⟩) r r] 22
  row : At wr g (ubs (upd b f (o + i))).toArray 5
  blk : At wr Bx (ubs y).toArray 30
  below : Below w.heap.size w wr
  kept : Kept S W wr
theorem TuL.drewN {S : Nat → Prop} {w W wr : World} {f : Nat → UInt8} {b y : List UInt8} {g T Bx o r i : Nat} (h : TuL S w W f b y g T Bx o r i wr) (n : Nat) : TuL S w W f b y g T Bx o r i (wr.drewN n) := ⟨h.rest, h.row, h.blk, below_drewN h.below n, h.kept.drewN n⟩
theorem TuL.put {S : Nat → Prop} {w W wr : World} {f : Nat → UInt8} {b y : List UInt8} {g T Bx o r i j : Nat} (h : TuL S w W f b y g T Bx o r i wr) (hj : j = o + i) (hS : S g) (hb : j < b.length) (hw : w.heap.size ≤ g) : TuL S w W f b y g T Bx o r (i + 1) (wr.setCell ⟨g, j, none⟩ (.int .u8 ((f j).toNat : Int))) := by
  refine ⟨h.rest.far (p := ⟨g, j, none⟩) (At.ne h.rest h.row (by decide)) _, ?_, h.blk.far (p := ⟨g, j, none⟩) (At.ne h.blk h.row (by decide)) _, h.below.setCell (by exact hw) _, h.kept.setCell _ hS _⟩
  rw [← Nat.add_assoc, ← hj, upd_succ b f j hb]
  have := h.row
  rw [← hj] at this
  exact at_ub_put this j (f j)
end Go.Proofs.YtfmbpdjcoopaeaaDoor

namespace Go.Proofs.YtfmbpdjcoopaeaaDoor
open Go.RowKit

end Go.Proofs.YtfmbpdjcoopaeaaDoor
