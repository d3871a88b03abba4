/-
  The short tag, and checking a tag.
-/
import Derived.Test.YtjfpdbhjbleffaaDoorCm
import Derived.Test.YtjfpdbhjbleffaaDoorHd
namespace Go.Proofs.YtjfpdbhjbleffaaDoor
open Go.RowKit

/-- What a call with a key and parts is handed. -/
structure Handed (k : List UInt8) (K : Option Addr) (ps : List Part) (S : Option Addr) (w : World) : Prop where
  rk : Rb w w.heap.size K k
  rs : Rd w w.heap.size S (ps.map Part.v)
  rp : ∀ p ∈ ps, Rb w w.heap.size p.A p.bs
  lk : k.length ≤ 1000000000
  lj : (joined ps).length ≤ 900000000
  lp : ps.length ≤ 900000000
  tb : Tabs w
theorem Handed.below {k : List UInt8} {K : Option Addr} {ps : List Part} {S : Option Addr} {w w' : World} (h : Handed k K ps S w) (hb : Below w.heap.size w w') : Handed k K ps S w' :=
  ⟨(h.rk.below hb).mono hb.size, (h.rs.below hb).mono hb.size, fun p hp => ((h.rp p hp).below hb).mono hb.size, h.lk, h.lj, h.lp, h.tb.below hb⟩
theorem Handed.mac {k : List UInt8} {K : Option Addr} {ps : List Part} {S : Option Addr} {w : World} (h : Handed k K ps S w) (ck cap : Nat) :
    Calls Tryd.prog 22 #[.slice K k.length ck, .slice S ps.length cap] w fun e w' => e = .returned (.agg (ubs (macL k (joined ps))).toArray) ∧ Below w.heap.size w w' :=
  mac_any k K ck ps S cap w h.rk h.rs h.rp h.lk h.lj h.lp h.tb
theorem short_splice (m : List UInt8) (h : m.length = 32) : splice (ubs n16) 0 ((ubs m).take 16) = ubs (m.take 16) := by
  simp only [splice, List.take_zero, List.nil_append, Nat.zero_add, ubs_drop, ubs_take, ← ubs_append, ubs_length, List.length_take, n16, List.drop_replicate, h]
  simp
/-- Which tags are one: the whole one, the short one. -/
def isTag (m t : List UInt8) : Bool := t == m || t == m.take 16
theorem isTag_short (m t : List UInt8) (hm : m.length = 32) (h : t.length = 16) : (t == m.take 16) = isTag m t := by
  have : (t == m) = false := by
    rw [beq_eq_false_iff_ne]
    rintro rfl
    omega
  rw [isTag, this, Bool.false_or]
theorem isTag_whole (m t : List UInt8) (hm : m.length = 32) (h : t.length = 32) : (t == m.take 32) = isTag m t := by
  have : (t == m.take 16) = false := by
    rw [beq_eq_false_iff_ne]
    intro e
    have := congrArg List.length e
    rw [List.length_take] at this
    omega
  rw [isTag, this, Bool.or_false, List.take_of_length_le (by omega)]
theorem isTag_other (m t : List UInt8) (hm : m.length = 32) (h : t.length ≠ 16) (h2 : t.length ≠ 32) : isTag m t = false := by
  rw [isTag, Bool.or_eq_false_iff, beq_eq_false_iff_ne, beq_eq_false_iff_ne]
  constructor
  · rintro rfl
    omega
  · intro e
    have := congrArg List.length e
    rw [List.length_take] at this
    omega
attribute [irreducible] isTag
end Go.Proofs.YtjfpdbhjbleffaaDoor
