/-
  The statement ProofBinds of entrustlaw10 (P10.3): where other leaves, or another proof, come to the same root, two unlike texts have one hash, for every height, all indices and all lists; no condition.
-/
import Derived.Test.YthkbmpocfpbkoaaDoorLpb
import Derived.Test.YthkbmpocfpbkoaaDoorJ9
import Derived.Test.YthkbmpocfpbkoaaDoorCards
import Derived.Test.YthkbmpocfpbkoaaDoorTie
import Derived.SevenTiedAt
import Derived.Test.YthkbmpocfpbkoaaDoorZ2
import Derived.Test.YthkbmpocfpbkoaaDoorJ7
namespace Go.Proofs.YthkbmpocfpbkoaaDoor.proofBinds
open Go.ChangeShapes Go.WideShapes Go.ChangeAt Go.RowKit

abbrev laidV : List (String × DataW Unit) := [("entrust/sha.constants", Rows.laid_entrust_sha_constants), ("entrust/sha.initials", Rows.laid_entrust_sha_initials)]
theorem own : ownKnob Tryd.prog.godebug = none := by kernel_rfl
theorem laidOut : laidOutB Tryd.prog = true := by kernel_rfl
theorem readable : ∀ t ∈ Tryd.f11.params.toList, Tryd.prog.readableRec t = true ∧ t < Tryd.prog.types.size := by
  intro t ht
  rw [Tryd.params11] at ht
  simp at ht
  rcases ht with rfl | rfl | rfl
  · exact ⟨by kernel_rfl, of_decide_eq_true (by kernel_rfl)⟩
  · exact ⟨by kernel_rfl, of_decide_eq_true (by kernel_rfl)⟩
  · exact ⟨by kernel_rfl, of_decide_eq_true (by kernel_rfl)⟩
def args0 : Array Value := #[.int .i64 0, .slice none 0 0, .agg #[.slice none 0 0, .slice none 0 0, .slice none 0 0, .slice none 0 0]]
/-- The door's own heap meets the condition. -/
theorem door_met (os : Os) (args : Array Value) : laidMetH Tryd.prog laidV ((World.doorLaid Tryd.prog 400 os).forCall (fun _ _ => 0) ⟨#[], args, []⟩).memory :=
  laidMetH_of_parts3 (fuel := 8) (laidMet_of_run' 8 (by kernel_rfl) (by kernel_rfl)) (by kernel_rfl) (by kernel_rfl)

set_option maxRecDepth 100000 in
theorem lifted (os : Os) (started : os.Started) (H : Type) (enc : TypeId × Value → H) :
    ReturnsInHanded {} Tryd.checked os 11 .any (fun w args => (Rows.proofBindsSpec.pre enc Tryd.prog Tryd.f11 [] false w args ∧ laidMetH Tryd.prog laidV w) ∧ sizedMet enc Tryd.prog Tryd.f11 (OpenSpec.ofChange Rows.proofBindsSpec) false w args)
      (Rows.proofBindsSpec.post enc Tryd.prog Tryd.f11 false true false false) := by
  refine returnsInHanded_of_change_and (C := Tryd.checked) (X := fun w _ => laidMetH Tryd.prog laidV w) (fun _ _ _ hh h => h.of_heap hh) own started (by kernel_rfl) Tryd.func11
    (ChangeSpec.witness_shaped (enc := enc) (C := Tryd.checked) (os := os) (X := fun w _ => laidMetH Tryd.prog laidV w) false (World.doorLaid Tryd.prog 400 os) args0 8 rfl (World.shaped_of_RefB (by kernel_rfl) (by kernel_rfl)) (by kernel_rfl) (by kernel_rfl) (by kernel_rfl) (door_met os _)) ?_
  intro W base args ds gs before hval0 hW hcnd hsz hL _
  have hval : ∀ (j : Nat) t v, Tryd.f11.params[j]? = some t → args[j]? = some v → Value.okWide Tryd.prog W .any base t v := hval0
  have hW' := hW
  obtain ⟨p, q, hA0, hV, rfl, hfz, hnd⟩ := hW
  have hA : DataW.TrodAll enc Tryd.prog W 0 (fun _ => true) true Tryd.f11.params.toList args.toList ds p := hA0
  rw [Tryd.params11] at hA hval
  obtain ⟨v0, vs0, d0, ds0, p0, q0, hargs0, rfl, rfl, h0, r0⟩ := trodAll_cons hA
  obtain ⟨v1, vs1, d1, ds1, p1, q1, hargs1, rfl, rfl, h1, r1⟩ := trodAll_cons r0
  obtain ⟨v2, vs2, d2, ds2, p2, q2, hargs2, rfl, rfl, h2, r2⟩ := trodAll_cons r1
  obtain ⟨rfl, rfl, rfl⟩ := trodAll_nil r2
  obtain rfl : args = #[v0, v1, v2] := by cases args; simp_all
  obtain ⟨a, rfl⟩ := okWide_int Tryd.underlying3 (hval 0 3 v0 rfl rfl)
  obtain ⟨D1, len1, cap1, rfl⟩ := okWide_slice Tryd.underlying73 (hval 1 73 v1 rfl rfl)
  obtain ⟨cs2, rfl, hs2⟩ := okWide_array Tryd.underlying96 (hval 2 96 v2 rfl rfl)
  obtain ⟨fuel0, hf0⟩ := h0
  obtain ⟨fuel1, hf1⟩ := h1
  obtain ⟨fuel2, hf2⟩ := h2
  obtain ⟨D1', kp1, b, hcd, hb, ob, lb⟩ := open_nums hf1
  cases hcd
  obtain ⟨cA0, cn0, cc0, c0, cA1, cn1, cc1, c1, cA2, cn2, cc2, c2, cA3, cn3, cc3, c3, e2, ⟨hc0, lc0, kc0⟩, ⟨hc1, lc1, kc1⟩, ⟨hc2, lc2, kc2⟩, hc3, lc3, kc3⟩ := open_four_hashes (cs := cs2.toList) hf2 (by rw [Array.length_toList, hs2]; kernel_rfl)
  obtain rfl : cs2 = #[.slice cA0 cn0 cc0, .slice cA1 cn1 cc1, .slice cA2 cn2 cc2, .slice cA3 cn3 cc3] := by apply Array.toList_inj.1; exact e2
  clear hA0 hval0
  have hT := tabs2 hL
  refine (proofBinds_law (alive10_any (t9c (join_c _ hT) (empties_c _ hT)) hT) a b _ _ hb lb c0 c1 c2 c3 _ _ _ _ _ _ _ _ _ _ _ _ hc0 hc1 hc2 hc3 kc0 kc1 kc2 kc3 lc0 lc1 lc2 lc3 hT).mono fun e W' ⟨he, hb'⟩ => ?_
  subst he
  exact ⟨_, rfl, post_law laidOut readable rfl rfl Tryd.underlying4 rfl hW' hb'⟩

theorem row_holds : Rows.ProofBindsSaid :=
  OpenClaim.holds_of_wide 11 Tryd.f11 rfl rfl rfl rfl rfl rfl rfl ⟨rfl, rfl, rfl, rfl, rfl⟩ rfl rfl rfl rfl rfl (by kernel_rfl) Tryd.func11 (by kernel_rfl)
    (of_decide_eq_true (by kernel_rfl)) (by unfold Func.isWrapper; first | (rw [if_pos (by decide +kernel)]; kernel_rfl) | (rw [if_neg (by decide +kernel)]; exact ⟨rfl, rfl⟩))
    (fun os started H enc _ => lifted os started H enc)

theorem proved : Rows.ProofBindsCardSaid :=
  Claim7.holds_tied_plain_at .later [] [.data, .data] true (true, "ec0d2082fa5931ee78c75d93d724398ab7e43ac1dce8d9b86620a119f4c79be1") true
    row_holds (fun _ h => by cases h) (by kernel_rfl) (fun _ h => by cases h) proofBinds_row_tie rfl ⟨rfl, rfl⟩ (by kernel_rfl) rfl
    (fun f fn hf hfn => by
      obtain rfl : f = 11 := Option.some.inj ((show Tryd.prog.funcNamed "entrust/entrustlaw10.ProofBinds" = some 11 by kernel_rfl).symm.trans hf) |>.symm
      obtain rfl : fn = Tryd.f11 := (Option.some.inj (Tryd.func11.symm.trans hfn)).symm
      exact ⟨by kernel_rfl, fun j t ht => by
        rw [Tryd.params11] at ht
        have hm : t ∈ [3, 73, 96] := by simpa using Array.mem_of_getElem? ht
        have hall : ([3, 73, 96].all fun u => !Tryd.prog.wantsStandIn u) = true := by kernel_rfl
        exact (show Tryd.prog.wantsStandIn t = false by simpa using List.all_eq_true.1 hall t hm)⟩)
    (by kernel_rfl)
end Go.Proofs.YthkbmpocfpbkoaaDoor.proofBinds
