/-
  What both sums share: a hash as it is written byte by byte; laws for regions of open order that load whole rows.
-/
import Derived.Test.YtjfpdbhjbleffaaDoorCm
import Derived.Test.YtjfpdbhjbleffaaDoorTb
import Derived.Test.YtjfpdbhjbleffaaDoorIn
import Derived.StillTailTactics
import Derived.BigQuiet
namespace Go.Proofs.YtjfpdbhjbleffaaDoor
open Go.RowKit

/-- A piece of a slice. -/
theorem run_slice_piece {P : Program} {o : Oper} {a : Go.Act} {w : World} (T e : TypeId) (x lo hi : Operand) (ho : o.op = .slice T x (some lo) (some hi) none) (hT : P.underlying T = some (.slice e)) (hs : (P.info? e).map (·.size) = some 1)
    (g n c l h : Nat) (hx : a.eval x = .slice (some ⟨g, 0, none⟩) n c) (kl kh : IntKind) (hl : a.eval lo = .int kl (l : Int)) (hh : a.eval hi = .int kh (h : Int)) (h1 : l ≤ h) (h2 : h ≤ c) (h3 : l < c) :
    (execOp a.eval o).run P w = .ok (.value (.slice (some ⟨g, l, none⟩) (h - l) (c - l))) w := by
  cases hq : P.info? e with
  | none => simp [hq] at hs
  | some i =>
    have hz : i.size = 1 := by simpa [hq] using hs
    unfold execOp
    simp only [ho, Option.map_some, Option.map_none, hx, hl, hh]
    simp [Instr.sliceAt, run_underlying hT, Instr.slice, Instr.sliceBounds, Instr.sliceBound, asIntOf, sizeOf, typeInfo, hq, hz, h1, h2, show ¬ c = l by omega, add_plain]

theorem bytesOf_length (s : S8) : (bytesOf s).length = 32 := by unfold bytesOf; simp
theorem bytesOf_get (s : S8) (i : Nat) (h : i < 32) : (bytesOf s)[i]? = some (wb (s.l.getD (i / 4) 0#32 >>> (24 - i % 4 * 8))) := by
  unfold bytesOf
  rw [List.getElem?_map, List.getElem?_range h]
  rfl
/-- The first i bytes of a hash, noughts behind. -/
def hb (s : S8) (i : Nat) : List UInt8 := (bytesOf s).take i ++ List.replicate (32 - i) 0
theorem hb_zero (s : S8) : hb s 0 = List.replicate 32 0 := by simp [hb]
theorem hb_length (s : S8) (i : Nat) (h : i ≤ 32) : (hb s i).length = 32 := by simp [hb, bytesOf_length]; omega
theorem hb_all (s : S8) : hb s 32 = bytesOf s := by simp [hb, List.take_of_length_le (by rw [bytesOf_length]; omega : (bytesOf s).length ≤ 32)]
theorem hb_succ (s : S8) (i : Nat) (h : i < 32) : hb s (i + 1) = (hb s i).set i (wb (s.l.getD (i / 4) 0#32 >>> (24 - i % 4 * 8))) := by
  have hg := bytesOf_get s i h
  obtain ⟨hlt, hge⟩ := List.getElem?_eq_some_iff.1 hg
  have ht : ((bytesOf s).take i).length = i := by simp [bytesOf_length]; omega
  unfold hb
  rw [List.set_append_right _ _ (by omega), ht, Nat.sub_self, show 32 - i = (32 - (i + 1)) + 1 by omega, List.replicate_succ, List.set_cons_zero, List.take_succ_eq_append_getElem hlt, hge, List.append_assoc]
  rfl
attribute [irreducible] hb
def n32 : List UInt8 := List.replicate 32 0
theorem noughts32 : #[Value.int .u8 0, .int .u8 0, .int .u8 0, .int .u8 0, .int .u8 0, .int .u8 0, .int .u8 0, .int .u8 0, .int .u8 0, .int .u8 0, .int .u8 0, .int .u8 0, .int .u8 0, .int .u8 0, .int .u8 0, .int .u8 0, .int .u8 0, .int .u8 0, .int .u8 0, .int .u8 0, .int .u8 0, .int .u8 0, .int .u8 0, .int .u8 0, .int .u8 0, .int .u8 0, .int .u8 0, .int .u8 0, .int .u8 0, .int .u8 0, .int .u8 0, .int .u8 0] = (ubs n32).toArray := rfl
theorem n32_length : n32.length = 32 := by simp [n32]
theorem hb_start (s : S8) : hb s 0 = n32 := hb_zero s
theorem sizeH : (Tryd.prog.info? 27).map (·.size) = some 32 := by kernel_rfl
theorem sizeSt : (Tryd.prog.info? 72).map (·.size) = some 8 := by kernel_rfl
theorem IV_length : IV.l.length = 8 := rfl
/-- A piece of a slice of bytes. -/
theorem rb_piece {w : World} {B g o : Nat} {p : List UInt8} (h : Rb w B (some ⟨g, o, none⟩) p) (i n : Nat) : Rb w B (some ⟨g, o + i, none⟩) ((p.drop i).take n) := fun hx => by
  have hl : i < p.length := by
    rcases Nat.lt_or_ge i p.length with h1 | h1
    · exact h1
    · exfalso
      apply hx
      rw [List.drop_eq_nil_of_le h1]
      simp [ubs]
  obtain ⟨b, o', e, hb, hc⟩ := h (by intro e; have h3 := congrArg List.length e; rw [ubs_length] at h3; have h4 : p.length = 0 := h3; omega)
  cases e
  refine ⟨g, o + i, rfl, hb, fun j u hu => ?_⟩
  rw [Nat.add_assoc]
  refine hc (i + j) u ?_
  rw [ubs_get, List.getElem?_take] at hu
  split at hu
  · rw [List.getElem?_drop] at hu
    rw [ubs_get]
    exact hu
  · cases hu
end Go.Proofs.YtjfpdbhjbleffaaDoor
