/-
  What the card says of the tables, as the walks take it.
-/
import Derived.Test.YtjfpdbhjbleffaaDoorTb
import Derived.Test.YtjfpdbhjbleffaaDoorRows
import Derived.ProofKit
import Derived.LaidMore
import Derived.OpenShut
import Derived.Stop.Joined
namespace Go.Proofs.YtjfpdbhjbleffaaDoor
open Go.ChangeShapes Go.WideShapes Go.ChangeAt Go.RowKit

/-- Words as a datum. -/
def wordsD {H : Type} (xs : List (BitVec 32)) : DataW H := .agg (xs.map fun x => .lit (.int .u32 (x.toNat : Int)))
theorem cellsW32 : Tryd.prog.cellsOf 71 = 1 := by kernel_rfl
set_option maxRecDepth 100000 in
theorem tab_of {H : Type} {enc : TypeId × Value → H} {W : World} {sp : Nat → Bool} {held : Bool} {fuel n g : Nat} {T : TypeId} {cs : Array Value} {xs : List (BitVec 32)} {name : String} {ps : List MemPlace} (hT : Tryd.prog.underlying T = some (.array n 71)) (hn : xs.length = n)
    (hg : Tryd.prog.globalNamed name = some g) (hv : W.var? Tryd.prog name = some cs) (hd : DataW.trod enc Tryd.prog W 0 sp held fuel T cs.toList = some (wordsD xs, ps)) : Tab W g xs := by
  obtain ⟨ys, m, _, hx, hlen, hys, hel⟩ := DataW.trod_array hT hd
  simp only [Prod.mk.injEq, wordsD, DataW.agg.injEq] at hx
  obtain ⟨hx, _⟩ := hx
  intro i v hi
  rw [us_get] at hi
  have hlt : i < xs.length := by
    rcases Nat.lt_or_ge i xs.length with h | h
    · exact h
    · rw [List.getElem?_eq_none h] at hi; cases hi
  have hyl : i < ys.length := by omega
  have h1 := hel i (by omega)
  rw [cellsW32, Nat.mul_one, List.getElem?_eq_getElem hyl] at h1
  obtain ⟨k, e1, e2, _⟩ := DataW.trod_int Tryd.underlying71 h1
  have e3 : (ys.map (·.1))[i]? = (xs.map fun x => (DataW.lit (.int .u32 (x.toNat : Int)) : DataW H))[i]? := by rw [hx]
  rw [List.getElem?_map, List.getElem?_map, List.getElem?_eq_getElem hyl, List.getElem?_eq_getElem hlt] at e3
  simp only [Option.map_some, Option.some.injEq, e2] at e3
  injection e3 with e3
  injection e3 with _ e3
  rw [List.getElem?_eq_getElem hlt] at hi
  cases hi
  rw [World.var?_cell hg hv i, ← Array.getElem?_toList]
  have h4 : (cs.toList.drop i)[0]? = some (.int .u32 k) := by
    have : ((cs.toList.drop i).take 1)[0]? = some (.int .u32 k) := by rw [e1]; rfl
    simpa using this
  rw [List.getElem?_drop, Nat.add_zero] at h4
  rw [h4, e3]
  rfl
theorem gK : Tryd.prog.globalNamed "entrust/sha.constants" = some 3 := by kernel_rfl
theorem gI : Tryd.prog.globalNamed "entrust/sha.initials" = some 2 := by kernel_rfl
theorem gRK : Tryd.prog.globalNamed "entrust/entrustref02.Constants" = some 1 := by kernel_rfl
theorem gRI : Tryd.prog.globalNamed "entrust/entrustref02.Initials" = some 0 := by kernel_rfl
theorem tK : (Tryd.prog.globals[3]?).map (·.type) = some 76 := by kernel_rfl
theorem tI : (Tryd.prog.globals[2]?).map (·.type) = some 72 := by kernel_rfl
theorem tRK : (Tryd.prog.globals[1]?).map (·.type) = some 76 := by kernel_rfl
theorem tRI : (Tryd.prog.globals[0]?).map (·.type) = some 72 := by kernel_rfl
theorem dK {H : Type} : (Rows.laid_entrust_sha_constants : DataW H) = wordsD KT := rfl
theorem dI {H : Type} : (Rows.laid_entrust_sha_initials : DataW H) = wordsD IV.l := rfl
theorem dRK {H : Type} : (Rows.laid_entrust_entrustref02_Constants : DataW H) = wordsD KT := rfl
theorem dRI {H : Type} : (Rows.laid_entrust_entrustref02_Initials : DataW H) = wordsD IV.l := rfl
/-- The program's two listed. -/
theorem tabs2 {W : World} (h : laidMetH Tryd.prog [("entrust/sha.constants", Rows.laid_entrust_sha_constants), ("entrust/sha.initials", Rows.laid_entrust_sha_initials)] W) : Tabs W := by
  rw [MakeChecks.laidMetH_plain _ _ _ (by kernel_rfl)] at h
  obtain ⟨ps, ⟨g1, t1, cs1, f1, p1, q1, hg1, ht1, hv1, hd1, ⟨g2, t2, cs2, f2, p2, q2, hg2, ht2, hv2, hd2, _, _⟩, _⟩, _, _⟩ := h
  obtain rfl := Option.some.inj (gK.symm.trans hg1)
  obtain rfl := Option.some.inj (gI.symm.trans hg2)
  obtain rfl := Option.some.inj (tK.symm.trans ht1)
  obtain rfl := Option.some.inj (tI.symm.trans ht2)
  rw [dK] at hd1
  rw [dI] at hd2
  exact ⟨tab_of Tryd.underlying76 KT_length hg1 hv1 hd1, tab_of Tryd.underlying72 rfl hg2 hv2 hd2⟩
/-- All four listed. -/
theorem tabs4 {W : World} (h : laidMetH Tryd.prog [("entrust/entrustref02.Constants", Rows.laid_entrust_entrustref02_Constants), ("entrust/entrustref02.Initials", Rows.laid_entrust_entrustref02_Initials), ("entrust/sha.constants", Rows.laid_entrust_sha_constants), ("entrust/sha.initials", Rows.laid_entrust_sha_initials)] W) : Tabs W ∧ Tabr W ∧ Tab W 0 IV.l := by
  rw [MakeChecks.laidMetH_plain _ _ _ (by kernel_rfl)] at h
  obtain ⟨ps, ⟨g0, t0, cs0, f0, p0, q0, hg0, ht0, hv0, hd0, ⟨g3, t3, cs3, f3, p3, q3, hg3, ht3, hv3, hd3, ⟨g1, t1, cs1, f1, p1, q1, hg1, ht1, hv1, hd1, ⟨g2, t2, cs2, f2, p2, q2, hg2, ht2, hv2, hd2, _, _⟩, _⟩, _⟩, _⟩, _, _⟩ := h
  obtain rfl := Option.some.inj (gRK.symm.trans hg0)
  obtain rfl := Option.some.inj (gRI.symm.trans hg3)
  obtain rfl := Option.some.inj (gK.symm.trans hg1)
  obtain rfl := Option.some.inj (gI.symm.trans hg2)
  obtain rfl := Option.some.inj (tRK.symm.trans ht0)
  obtain rfl := Option.some.inj (tRI.symm.trans ht3)
  obtain rfl := Option.some.inj (tK.symm.trans ht1)
  obtain rfl := Option.some.inj (tI.symm.trans ht2)
  rw [dRK] at hd0
  rw [dRI] at hd3
  rw [dK] at hd1
  rw [dI] at hd2
  exact ⟨⟨tab_of Tryd.underlying76 KT_length hg1 hv1 hd1, tab_of Tryd.underlying72 rfl hg2 hv2 hd2⟩, ⟨tab_of Tryd.underlying76 KT_length hg0 hv0 hd0⟩, tab_of Tryd.underlying72 rfl hg3 hv3 hd3⟩
end Go.Proofs.YtjfpdbhjbleffaaDoor
