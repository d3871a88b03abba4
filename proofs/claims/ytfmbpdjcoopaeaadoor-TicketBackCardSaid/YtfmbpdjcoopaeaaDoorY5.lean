/-
  What the card says of the tables, as the walks take it.
  Arguments opened: arrays of words and of bytes, slices of bytes, as they came in.
  Arguments opened: arrays and slices of bytes, single bytes, as they came in.
  Numbers of 64 bits that came in.
  Places, pairs of them, pairs of ints and sealed blocks that came in.
-/
import Derived.Test.YtfmbpdjcoopaeaaDoorY2
import Derived.Test.YtfmbpdjcoopaeaaDoorRows
import Derived.ProofKit
import Derived.LaidMore
import Derived.OpenShut
import Derived.Stop.Joined
import Derived.Test.YtfmbpdjcoopaeaaDoorY1
import Derived.SizedLaws
import Derived.Deep.Slices
import Derived.DataReads
import Derived.Test.YtfmbpdjcoopaeaaDoorProg
namespace Go.Proofs.YtfmbpdjcoopaeaaDoor
open Go.ChangeShapes Go.WideShapes Go.ChangeAt Go.RowKit

/-- Words as a datum. -/
def wordsD {H : Type} (xs : List (BitVec 32)) : DataW H := .agg (xs.map fun x => .lit (.int .u32 (x.toNat : Int)))
theorem cellsW32 : Tryd.prog.cellsOf 213 = 1 := by kernel_rfl
set_option maxRecDepth 100000 in
theorem tab_of {H : Type} {enc : TypeId × Value → H} {W : World} {sp : Nat → Bool} {held : Bool} {fuel n g : Nat} {T : TypeId} {cs : Array Value} {xs : List (BitVec 32)} {name : String} {ps : List MemPlace} (hT : Tryd.prog.underlying T = some (.array n 213)) (hn : xs.length = n)
    (hg : Tryd.prog.globalNamed name = some g) (hv : W.var? Tryd.prog name = some cs) (hd : DataW.trod enc Tryd.prog W 0 sp held fuel T cs.toList = some (wordsD xs, ps)) : Tab W g xs := by
  obtain ⟨ys, m, _, hx, hlen, hys, hel⟩ := DataW.trod_array hT hd
  simp only [Prod.mk.injEq, wordsD, DataW.agg.injEq] at hx
  obtain ⟨hx, _⟩ := hx
  intro i v hi
  rw [us_get] at hi
  have hlt : i < xs.length := by
    rcases Nat.lt_or_ge i xs.length with h | h
    · exact h
    · rw [List.getElem?_eq_none h] at hi; cases hi
  have hyl : i < ys.length := by omega
  have h1 := hel i (by omega)
  rw [cellsW32, Nat.mul_one, List.getElem?_eq_getElem hyl] at h1
  obtain ⟨k, e1, e2, _⟩ := DataW.trod_int Tryd.underlying213 h1
  have e3 : (ys.map (·.1))[i]? = (xs.map fun x => (DataW.lit (.int .u32 (x.toNat : Int)) : DataW H))[i]? := by rw [hx]
  rw [List.getElem?_map, List.getElem?_map, List.getElem?_eq_getElem hyl, List.getElem?_eq_getElem hlt] at e3
  simp only [Option.map_some, Option.some.injEq, e2] at e3
  injection e3 with e3
  injection e3 with _ e3
  rw [List.getElem?_eq_getElem hlt] at hi
  cases hi
  rw [World.var?_cell hg hv i, ← Array.getElem?_toList]
  have h4 : (cs.toList.drop i)[0]? = some (.int .u32 k) := by
    have : ((cs.toList.drop i).take 1)[0]? = some (.int .u32 k) := by rw [e1]; rfl
    simpa using this
  rw [List.getElem?_drop, Nat.add_zero] at h4
  rw [h4, e3]
  rfl
theorem gK : Tryd.prog.globalNamed "entrust/sha.constants" = some 3 := by kernel_rfl
theorem gI : Tryd.prog.globalNamed "entrust/sha.initials" = some 2 := by kernel_rfl
theorem gRK : Tryd.prog.globalNamed "entrust/entrustref02.Constants" = some 1 := by kernel_rfl
theorem gRI : Tryd.prog.globalNamed "entrust/entrustref02.Initials" = some 0 := by kernel_rfl
theorem tK : (Tryd.prog.globals[3]?).map (·.type) = some 261 := by kernel_rfl
theorem tI : (Tryd.prog.globals[2]?).map (·.type) = some 214 := by kernel_rfl
theorem tRK : (Tryd.prog.globals[1]?).map (·.type) = some 261 := by kernel_rfl
theorem tRI : (Tryd.prog.globals[0]?).map (·.type) = some 214 := by kernel_rfl
theorem dK {H : Type} : (Rows.laid_entrust_sha_constants : DataW H) = wordsD KT := rfl
theorem dI {H : Type} : (Rows.laid_entrust_sha_initials : DataW H) = wordsD IV.l := rfl
theorem dRK {H : Type} : (Rows.laid_entrust_entrustref02_Constants : DataW H) = wordsD KT := rfl
theorem dRI {H : Type} : (Rows.laid_entrust_entrustref02_Initials : DataW H) = wordsD IV.l := rfl
/-- All four listed. -/
theorem tabs4 {W : World} (h : laidMetH Tryd.prog [("entrust/entrustref02.Constants", Rows.laid_entrust_entrustref02_Constants), ("entrust/entrustref02.Initials", Rows.laid_entrust_entrustref02_Initials), ("entrust/sha.constants", Rows.laid_entrust_sha_constants), ("entrust/sha.initials", Rows.laid_entrust_sha_initials)] W) : Tabs W ∧ Tabr W ∧ Tab W 0 IV.l := by
  rw [MakeChecks.laidMetH_plain _ _ _ (by kernel_rfl)] at h
  obtain ⟨ps, ⟨g0, t0, cs0, f0, p0, q0, hg0, ht0, hv0, hd0, ⟨g3, t3, cs3, f3, p3, q3, hg3, ht3, hv3, hd3, ⟨g1, t1, cs1, f1, p1, q1, hg1, ht1, hv1, hd1, ⟨g2, t2, cs2, f2, p2, q2, hg2, ht2, hv2, hd2, _, _⟩, _⟩, _⟩, _⟩, _, _⟩ := h
  obtain rfl := Option.some.inj (gRK.symm.trans hg0)
  obtain rfl := Option.some.inj (gRI.symm.trans hg3)
  obtain rfl := Option.some.inj (gK.symm.trans hg1)
  obtain rfl := Option.some.inj (gI.symm.trans hg2)
  obtain rfl := Option.some.inj (tRK.symm.trans ht0)
  obtain rfl := Option.some.inj (tRI.symm.trans ht3)
  obtain rfl := Option.some.inj (tK.symm.trans ht1)
  obtain rfl := Option.some.inj (tI.symm.trans ht2)
  rw [dRK] at hd0
  rw [dRI] at hd3
  rw [dK] at hd1
  rw [dI] at hd2
  exact ⟨⟨tab_of Tryd.underlying261 KT_length hg1 hv1 hd1, tab_of Tryd.underlying214 rfl hg2 hv2 hd2⟩, ⟨tab_of Tryd.underlying261 KT_length hg0 hv0 hd0⟩, tab_of Tryd.underlying214 rfl hg3 hv3 hd3⟩
end Go.Proofs.YtfmbpdjcoopaeaaDoor

namespace Go.Proofs.YtfmbpdjcoopaeaaDoor
open Go.ChangeShapes Go.WideShapes Go.ChangeAt Go.RowKit Go.Deep

section
variable {H : Type} {enc : TypeId × Value → H} {W : World} {sp : Nat → Bool} {fuel : Nat} {x : DataW H × List MemPlace}
theorem okWide_array {P : Program} {w : World} {r : Reach} {base n : Nat} {t e : TypeId} {v : Value} (ht : P.underlying t = some (.array n e)) (h : Value.okWide P w r base t v) : ∃ cs, v = .agg cs ∧ cs.size = P.cellsOf t := by
  simp only [Value.okWide, ht] at h
  obtain ⟨cs, h1, h2, _⟩ := h
  exact ⟨cs, h1, h2⟩
/-- An array of integers of one kind that came in. -/
theorem open_array {k : IntKind} {n : Nat} {T e : TypeId} {cs : List Value} (hT : Tryd.prog.underlying T = some (.array n e)) (he : Tryd.prog.underlying e = some (.int k)) (hc : Tryd.prog.cellsOf e = 1) (hl : cs.length = n)
    (h : DataW.trod enc Tryd.prog W 0 sp true fuel T cs = some x) : ∃ zs : List Int, cs = zs.map (.int k) ∧ zs.length = n ∧ ∀ z ∈ zs, (Lit.int k z).wf = true := by
  obtain ⟨ys, m, _, _, _, hys, hel⟩ := DataW.trod_array hT h
  have each : ∀ i, i < n → ∃ z : Int, cs[i]? = some (.int k z) ∧ (Lit.int k z).wf = true := by
    intro i hi
    have h1 := hel i hi
    rw [hc, Nat.mul_one, List.getElem?_eq_getElem (by omega)] at h1
    obtain ⟨z, e1, _, wz⟩ := DataW.trod_int he h1
    refine ⟨z, ?_, wz⟩
    have : ((cs.drop i).take 1)[0]? = some (.int k z) := by rw [e1]; rfl
    have h4 : (cs.drop i)[0]? = some (.int k z) := by simpa using this
    rwa [List.getElem?_drop, Nat.add_zero] at h4
  obtain ⟨f, hf⟩ : ∃ f : Nat → Int, ∀ i, i < n → cs[i]? = some (.int k (f i)) ∧ (Lit.int k (f i)).wf = true :=
    ⟨fun i => if h : i < n then (each i h).choose else 0, fun i h => by simp only [h, dif_pos]; exact (each i h).choose_spec⟩
  refine ⟨(List.range n).map f, ?_, by simp, ?_⟩
  · apply List.ext_getElem?
    intro i
    rcases Nat.lt_or_ge i n with hi | hi
    · rw [(hf i hi).1, List.getElem?_map, List.getElem?_map, List.getElem?_range hi]
      rfl
    · rw [List.getElem?_eq_none (by omega), List.getElem?_eq_none (by simp; omega)]
  · intro z hz
    obtain ⟨i, hi, rfl⟩ := List.mem_map.1 hz
    exact (hf i (List.mem_range.1 hi)).2
theorem cellsU8 : Tryd.prog.cellsOf 5 = 1 := by kernel_rfl
theorem bytes_of {zs : List Int} (h : ∀ z ∈ zs, (Lit.int .u8 z).wf = true) : zs.map (.int .u8) = ubs (zs.map fun z => UInt8.ofNat z.toNat) := by
  rw [ubs, List.map_map]
  refine List.map_congr_left fun z hz => ?_
  have := h z hz
  simp [Lit.wf, IntKind.min, IntKind.max, IntKind.signed, IntKind.bits] at this
  simp only [Function.comp, ub]
  congr 1
  simp
  omega
end
end Go.Proofs.YtfmbpdjcoopaeaaDoor

namespace Go.Proofs.YtfmbpdjcoopaeaaDoor
open Go.ChangeShapes Go.WideShapes Go.ChangeAt Go.RowKit Go.Deep

section
variable {H : Type} {enc : TypeId × Value → H} {W : World} {sp : Nat → Bool} {fuel : Nat} {x : DataW H × List MemPlace}
/-- An array of bytes that came in. -/
theorem open_block {n : Nat} {T : TypeId} {cs : List Value} (hT : Tryd.prog.underlying T = some (.array n 5)) (hl : cs.length = n) (h : DataW.trod enc Tryd.prog W 0 sp true fuel T cs = some x) : ∃ bs : List UInt8, cs = ubs bs ∧ bs.length = n := by
  obtain ⟨zs, h1, h2, h3⟩ := open_array hT Tryd.underlying5 cellsU8 hl h
  exact ⟨zs.map fun z => UInt8.ofNat z.toNat, by rw [h1, bytes_of h3], by simp [h2]⟩
end
end Go.Proofs.YtfmbpdjcoopaeaaDoor

namespace Go.Proofs.YtfmbpdjcoopaeaaDoor
open Go.ChangeShapes Go.WideShapes Go.ChangeAt Go.RowKit Go.Deep

section
variable {H : Type} {enc : TypeId × Value → H} {W : World} {sp : Nat → Bool} {fuel : Nat} {x : DataW H × List MemPlace}
theorem u64_of {z : Int} (h : (Lit.int .u64 z).wf = true) : z = (z.toNat : Int) ∧ z.toNat < 18446744073709551616 := by
  simp [Lit.wf, IntKind.min, IntKind.max, IntKind.signed, IntKind.bits] at h
  omega
theorem open_u64 {cs : List Value} (h : DataW.trod enc Tryd.prog W 0 sp true fuel 32 cs = some x) : ∃ n : Nat, cs = [.int .u64 (n : Int)] ∧ n < 18446744073709551616 := by
  obtain ⟨z, e, _, hw⟩ := DataW.trod_int Tryd.underlying32 h
  obtain ⟨h1, h2⟩ := u64_of hw
  exact ⟨z.toNat, by rw [e, ← h1], h2⟩
end
end Go.Proofs.YtfmbpdjcoopaeaaDoor

namespace Go.Proofs.YtfmbpdjcoopaeaaDoor
open Go.ChangeShapes Go.WideShapes Go.ChangeAt Go.RowKit Go.Deep

section
variable {H : Type} {enc : TypeId × Value → H} {W : World} {sp : Nat → Bool} {fuel : Nat} {x : DataW H × List MemPlace}
theorem cellsU64p : Tryd.prog.cellsOf 32 = 1 := by kernel_rfl
theorem cellsBk7 : Tryd.prog.cellsOf 35 = 32 := by kernel_rfl
theorem cellsA16p : Tryd.prog.cellsOf 30 = 16 := by kernel_rfl
/-- Two rows that are read one behind the other are the whole. -/
theorem take_two {cs a b : List Value} {n m : Nat} (h1 : cs.take n = a) (h2 : (cs.drop n).take m = b) (hl : cs.length = n + m) : cs = a ++ b := by
  have e : (cs.drop n).take m = cs.drop n := List.take_of_length_le (by rw [List.length_drop]; omega)
  rw [← h1, ← h2, e, List.take_append_drop]
set_option maxRecDepth 100000 in
/-- A sealed block that came in. -/
theorem open_sealed {cs : List Value} (h : DataW.trod enc Tryd.prog W 0 sp true fuel 37 cs = some x) (hl49 : cs.length = 49) :
    ∃ (e : Nat) (d t : List UInt8), cs = .int .u64 (e : Int) :: (ubs d ++ ubs t) ∧ e < 18446744073709551616 ∧ d.length = 32 ∧ t.length = 16 := by
  obtain ⟨xs, n, rfl, -, hc, hl, hf⟩ := DataW.trod_struct Tryd.underlying37 h
  have h0 : DataW.trod enc Tryd.prog W 0 sp true n 32 ((cs.drop 0).take (Tryd.prog.cellsOf 32)) = xs[0]? := hf 0 _ rfl
  have h1 : DataW.trod enc Tryd.prog W 0 sp true n 35 ((cs.drop 1).take (Tryd.prog.cellsOf 35)) = xs[1]? := hf 1 _ rfl
  have h2 : DataW.trod enc Tryd.prog W 0 sp true n 30 ((cs.drop 33).take (Tryd.prog.cellsOf 30)) = xs[2]? := hf 2 _ rfl
  rw [List.getElem?_eq_getElem (by rw [hl]; decide)] at h0 h1 h2
  rw [cellsU64p] at h0
  rw [cellsBk7] at h1
  rw [cellsA16p] at h2
  obtain ⟨e, e0, b0⟩ := open_u64 h0
  obtain ⟨d, e1, b1⟩ := open_block Tryd.underlying35 (by simp; omega) h1
  obtain ⟨t, e2, b2⟩ := open_block Tryd.underlying30 (by simp; omega) h2
  refine ⟨e, d, t, ?_, b0, b1, b2⟩
  have f1 : cs.drop 1 = ubs d ++ ubs t := take_two (cs := cs.drop 1) (n := 32) (m := 16) e1 (by rw [List.drop_drop]; exact e2) (by simp; omega)
  have f0 : cs.take 1 = [.int .u64 (e : Int)] := e0
  rw [← List.take_append_drop 1 cs, f0, f1]
  rfl
/-- An int that came in. -/
theorem open_i64 {cs : List Value} (h : DataW.trod enc Tryd.prog W 0 sp true fuel 3 cs = some x) : ∃ a : Int, cs = [.int .i64 a] ∧ -9223372036854775808 ≤ a ∧ a < 9223372036854775808 := by
  obtain ⟨z, e, _, hw⟩ := DataW.trod_int Tryd.underlying3 h
  simp [Lit.wf, IntKind.min, IntKind.max, IntKind.signed, IntKind.bits] at hw
  exact ⟨z, e, by omega, by omega⟩
end
end Go.Proofs.YtfmbpdjcoopaeaaDoor
