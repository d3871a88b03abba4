/-
  The statement StepWrites of entrustlaw12 (P12.1): the root behind any writing step, from any root, for every height; no condition.
-/
import Derived.Test.YtdegmcfcbndelaaDoorYn
import Derived.Test.YtdegmcfcbndelaaDoorOaf
import Derived.Test.YtdegmcfcbndelaaDoorCards
import Derived.Test.YtdegmcfcbndelaaDoorTie
import Derived.SevenTiedAt
import Derived.Test.YtdegmcfcbndelaaDoorJ6
import Derived.Test.YtdegmcfcbndelaaDoorJ9
namespace Go.Proofs.YtdegmcfcbndelaaDoor.stepWrites
open Go.ChangeShapes Go.WideShapes Go.ChangeAt Go.RowKit

abbrev laidV : List (String × DataW Unit) := [("entrust/entrustref02.Constants", Rows.laid_entrust_entrustref02_Constants), ("entrust/entrustref02.Initials", Rows.laid_entrust_entrustref02_Initials), ("entrust/sha.constants", Rows.laid_entrust_sha_constants), ("entrust/sha.initials", Rows.laid_entrust_sha_initials)]
theorem own : ownKnob Tryd.prog.godebug = none := by kernel_rfl
theorem laidOut : laidOutB Tryd.prog = true := by kernel_rfl
theorem readable : ∀ t ∈ Tryd.f7.params.toList, Tryd.prog.readableRec t = true ∧ t < Tryd.prog.types.size := by
  intro t ht
  rw [Tryd.params7] at ht
  simp at ht
  rcases ht with rfl | rfl | rfl
  · exact ⟨by kernel_rfl, of_decide_eq_true (by kernel_rfl)⟩
  · exact ⟨by kernel_rfl, of_decide_eq_true (by kernel_rfl)⟩
  · exact ⟨by kernel_rfl, of_decide_eq_true (by kernel_rfl)⟩
def args0 : Array Value := #[.int .i64 0, .agg #[.slice none 0 0, .slice none 0 0, .slice none 0 0], .agg #[.slice none 0 0, .slice none 0 0]]
/-- The door's own heap meets the condition. -/
theorem door_met (os : Os) (args : Array Value) : laidMetH Tryd.prog laidV ((World.doorLaid Tryd.prog 400 os).forCall (fun _ _ => 0) ⟨#[], args, []⟩).memory :=
  laidMetH_of_parts3 (fuel := 8) (laidMet_of_run' 8 (by kernel_rfl) (by kernel_rfl)) (by kernel_rfl) (by kernel_rfl)

set_option maxRecDepth 100000 in
theorem lifted (os : Os) (started : os.Started) (H : Type) (enc : TypeId × Value → H) :
    ReturnsInHanded {} Tryd.checked os 7 .any (fun w args => (Rows.stepWritesSpec.pre enc Tryd.prog Tryd.f7 [] false w args ∧ laidMetH Tryd.prog laidV w) ∧ sizedMet enc Tryd.prog Tryd.f7 (OpenSpec.ofChange Rows.stepWritesSpec) false w args)
      (Rows.stepWritesSpec.post enc Tryd.prog Tryd.f7 false true false false) := by
  refine returnsInHanded_of_change_and (C := Tryd.checked) (X := fun w _ => laidMetH Tryd.prog laidV w) (fun _ _ _ hh h => h.of_heap hh) own started (by kernel_rfl) Tryd.func7
    (ChangeSpec.witness_shaped (enc := enc) (C := Tryd.checked) (os := os) (X := fun w _ => laidMetH Tryd.prog laidV w) false (World.doorLaid Tryd.prog 400 os) args0 8 rfl (World.shaped_of_RefB (by kernel_rfl) (by kernel_rfl)) (by kernel_rfl) (by kernel_rfl) (by kernel_rfl) (door_met os _)) ?_
  intro W base args ds gs before hval0 hW hcnd hsz hL _
  have hval : ∀ (j : Nat) t v, Tryd.f7.params[j]? = some t → args[j]? = some v → Value.okWide Tryd.prog W .any base t v := hval0
  have hW' := hW
  obtain ⟨p, q, hA0, hV, rfl, hfz, hnd⟩ := hW
  have hA : DataW.TrodAll enc Tryd.prog W 0 (fun _ => true) true Tryd.f7.params.toList args.toList ds p := hA0
  rw [Tryd.params7] at hA hval
  obtain ⟨v0, vs0, d0, ds0, p0, q0, hargs0, rfl, rfl, h0, r0⟩ := trodAll_cons hA
  obtain ⟨v1, vs1, d1, ds1, p1, q1, hargs1, rfl, rfl, h1, r1⟩ := trodAll_cons r0
  obtain ⟨v2, vs2, d2, ds2, p2, q2, hargs2, rfl, rfl, h2, r2⟩ := trodAll_cons r1
  obtain ⟨rfl, rfl, rfl⟩ := trodAll_nil r2
  obtain rfl : args = #[v0, v1, v2] := by cases args; simp_all
  obtain ⟨a, rfl⟩ := okWide_int Tryd.underlying3 (hval 0 3 v0 rfl rfl)
  obtain ⟨cs1, rfl, hs1⟩ := okWide_struct Tryd.underlying72 (hval 1 72 v1 rfl rfl)
  obtain ⟨cs2, rfl, hs2⟩ := okWide_array Tryd.underlying73 (hval 2 73 v2 rfl rfl)
  obtain ⟨fuel0, hf0⟩ := h0
  obtain ⟨fuel1, hf1⟩ := h1
  obtain ⟨fuel2, hf2⟩ := h2
  obtain ⟨Y0, Yc0, y0, Y1, Yn1, Yc1, y1, Y2, Yn2, Yc2, y2, e1, ⟨hy0, oy0, ky0⟩, ⟨hy1, ly1, ky1⟩, hy2, ly2, ky2⟩ := open_write12 (cs := cs1.toList) hf1
  obtain rfl : cs1 = #[.slice Y0 y0.length Yc0, .slice Y1 Yn1 Yc1, .slice Y2 Yn2 Yc2] := by apply Array.toList_inj.1; exact e1
  obtain ⟨cA0, cn0, cc0, c0, cA1, cn1, cc1, c1, e2, ⟨hc0, lc0, kc0⟩, hc1, lc1, kc1⟩ := open_two_hashes (cs := cs2.toList) hf2 (by rw [Array.length_toList, hs2]; kernel_rfl)
  obtain rfl : cs2 = #[.slice cA0 cn0 cc0, .slice cA1 cn1 cc1] := by apply Array.toList_inj.1; exact e2
  clear hA0 hval0
  obtain ⟨hT, hR, hI⟩ := tabs4 hL
  refine (stepWrites_law (alive12_any hT) a y0 y1 y2 c0 c1 Y0 Y1 Y2 cA0 cA1 Yc0 Yn1 Yc1 Yn2 Yc2 cn0 cc0 cn1 cc1 hy0 ky0 hy1 hy2 hc0 ky1 ky2 kc0 ly1 ly2 lc0 hT hR hI lc1 hc1).mono fun e W' ⟨he, hb'⟩ => ?_
  subst he
  exact ⟨_, rfl, post_law laidOut readable rfl rfl Tryd.underlying4 rfl hW' hb'⟩

theorem row_holds : Rows.StepWritesSaid :=
  OpenClaim.holds_of_wide 7 Tryd.f7 rfl rfl rfl rfl rfl rfl rfl ⟨rfl, rfl, rfl, rfl, rfl⟩ rfl rfl rfl rfl rfl (by kernel_rfl) Tryd.func7 (by kernel_rfl)
    (of_decide_eq_true (by kernel_rfl)) (by unfold Func.isWrapper; first | (rw [if_pos (by decide +kernel)]; kernel_rfl) | (rw [if_neg (by decide +kernel)]; exact ⟨rfl, rfl⟩))
    (fun os started H enc _ => lifted os started H enc)

theorem proved : Rows.StepWritesCardSaid :=
  Claim7.holds_tied_plain_at .later [] [.data, .data, .data, .data] true (true, "cec860a29ee05be5e7951197f79f2a5ab053777d363b58b336a36f0941d0d025") true
    row_holds (fun _ h => by cases h) (by kernel_rfl) (fun _ h => by cases h) stepWrites_row_tie rfl ⟨rfl, rfl⟩ (by kernel_rfl) rfl
    (fun f fn hf hfn => by
      obtain rfl : f = 7 := Option.some.inj ((show Tryd.prog.funcNamed "entrust/entrustlaw12.StepWrites" = some 7 by kernel_rfl).symm.trans hf) |>.symm
      obtain rfl : fn = Tryd.f7 := (Option.some.inj (Tryd.func7.symm.trans hfn)).symm
      exact ⟨by kernel_rfl, fun j t ht => by
        rw [Tryd.params7] at ht
        have hm : t ∈ [3, 72, 73] := by simpa using Array.mem_of_getElem? ht
        have hall : ([3, 72, 73].all fun u => !Tryd.prog.wantsStandIn u) = true := by kernel_rfl
        exact (show Tryd.prog.wantsStandIn t = false by simpa using List.all_eq_true.1 hall t hm)⟩)
    (by kernel_rfl)
end Go.Proofs.YtdegmcfcbndelaaDoor.stepWrites
