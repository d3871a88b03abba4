/-
  The statement NodeApart of entrustlaw08: unlike leaves, and unlike nodes, have unlike texts, and no text is of two kinds.
-/
import Derived.Test.YthbppiobadcbkaaDoorNp
import Derived.Test.YthbppiobadcbkaaDoorY5
import Derived.Test.YthbppiobadcbkaaDoorCards
import Derived.Test.YthbppiobadcbkaaDoorTie
import Derived.SevenTiedAt
import Derived.Test.YthbppiobadcbkaaDoorNv
import Derived.Test.YthbppiobadcbkaaDoorPc
import Derived.Test.YthbppiobadcbkaaDoorOd
namespace Go.Proofs.YthbppiobadcbkaaDoor.nodeApart
open Go.ChangeShapes Go.WideShapes Go.ChangeAt Go.RowKit

abbrev laidV : List (String × DataW Unit) := [("entrust/sha.constants", Rows.laid_entrust_sha_constants), ("entrust/sha.initials", Rows.laid_entrust_sha_initials)]
theorem own : ownKnob Tryd.prog.godebug = none := by kernel_rfl
theorem laidOut : laidOutB Tryd.prog = true := by kernel_rfl
theorem readable : ∀ t ∈ Tryd.f6.params.toList, Tryd.prog.readableRec t = true ∧ t < Tryd.prog.types.size := by
  intro t ht
  rw [Tryd.params6] at ht
  simp at ht
  rcases ht with rfl | rfl | rfl
  · exact ⟨by kernel_rfl, of_decide_eq_true (by kernel_rfl)⟩
  · exact ⟨by kernel_rfl, of_decide_eq_true (by kernel_rfl)⟩
  · exact ⟨by kernel_rfl, of_decide_eq_true (by kernel_rfl)⟩
def args0 : Array Value := #[.agg #[.int .u64 0, .int .u64 0], .agg ((.int .u64 0 :: (ubs (List.replicate 32 0) ++ ubs (List.replicate 16 0))) ++ (.int .u64 0 :: (ubs (List.replicate 32 0) ++ ubs (List.replicate 16 0)))).toArray, .agg #[.int .i64 0, .int .i64 0]]
/-- The door's own heap meets the condition. -/
theorem door_met (os : Os) (args : Array Value) : laidMetH Tryd.prog laidV ((World.doorLaid Tryd.prog 400 os).forCall (fun _ _ => 0) ⟨#[], args, []⟩).memory :=
  laidMetH_of_parts3 (fuel := 8) (laidMet_of_run' 8 (by kernel_rfl) (by kernel_rfl)) (by kernel_rfl) (by kernel_rfl)

set_option maxRecDepth 100000 in
theorem lifted (os : Os) (started : os.Started) (H : Type) (enc : TypeId × Value → H) :
    ReturnsInHanded {} Tryd.checked os 6 .any (fun w args => (Rows.nodeApartSpec.pre enc Tryd.prog Tryd.f6 [] false w args ∧ laidMetH Tryd.prog laidV w) ∧ sizedMet enc Tryd.prog Tryd.f6 (OpenSpec.ofChange Rows.nodeApartSpec) false w args)
      (Rows.nodeApartSpec.post enc Tryd.prog Tryd.f6 false true false false) := by
  refine returnsInHanded_of_change_and (C := Tryd.checked) (X := fun w _ => laidMetH Tryd.prog laidV w) (fun _ _ _ hh h => h.of_heap hh) own started (by kernel_rfl) Tryd.func6
    (ChangeSpec.witness_shaped (enc := enc) (C := Tryd.checked) (os := os) (X := fun w _ => laidMetH Tryd.prog laidV w) false (World.doorLaid Tryd.prog 400 os) args0 8 rfl (World.shaped_of_RefB (by kernel_rfl) (by kernel_rfl)) (by kernel_rfl) (by kernel_rfl) (by kernel_rfl) (door_met os _)) ?_
  intro W base args ds gs before hval0 hW hcnd hsz hL _
  have hval : ∀ (j : Nat) t v, Tryd.f6.params[j]? = some t → args[j]? = some v → Value.okWide Tryd.prog W .any base t v := hval0
  have hW' := hW
  obtain ⟨p, q, hA0, hV, rfl, hfz, hnd⟩ := hW
  have hA : DataW.TrodAll enc Tryd.prog W 0 (fun _ => true) true Tryd.f6.params.toList args.toList ds p := hA0
  rw [Tryd.params6] at hA hval
  obtain ⟨v0, vs0, d0, ds0, p0, q0, hargs0, rfl, rfl, h0, r0⟩ := trodAll_cons hA
  obtain ⟨v1, vs1, d1, ds1, p1, q1, hargs1, rfl, rfl, h1, r1⟩ := trodAll_cons r0
  obtain ⟨v2, vs2, d2, ds2, p2, q2, hargs2, rfl, rfl, h2, r2⟩ := trodAll_cons r1
  obtain ⟨rfl, rfl, rfl⟩ := trodAll_nil r2
  obtain rfl : args = #[v0, v1, v2] := by cases args; simp_all
  obtain ⟨cs0, rfl, hs0⟩ := okWide_array Tryd.underlying58 (hval 0 58 v0 rfl rfl)
  obtain ⟨cs1, rfl, hs1⟩ := okWide_array Tryd.underlying59 (hval 1 59 v1 rfl rfl)
  obtain ⟨cs2, rfl, hs2⟩ := okWide_array Tryd.underlying60 (hval 2 60 v2 rfl rfl)
  obtain ⟨fuel0, hf0⟩ := h0
  obtain ⟨fuel1, hf1⟩ := h1
  obtain ⟨fuel2, hf2⟩ := h2
  obtain ⟨a0, a1, e0, la0, la1⟩ := open_pair64 (cs := cs0.toList) (by rw [Array.length_toList, hs0]; kernel_rfl) hf0
  obtain rfl : cs0 = #[.int .u64 (a0 : Int), .int .u64 (a1 : Int)] := by apply Array.toList_inj.1; exact e0
  obtain ⟨b0, b1, b2, b3, b4, b5, e1, ⟨lb0, lb1, lb2⟩, lb3, lb4, lb5⟩ := open_two_sealed (cs := cs1.toList) hf1 (by rw [Array.length_toList, hs1]; kernel_rfl)
  obtain rfl : cs1 = (sv b0 b1 b2 ++ sv b3 b4 b5).toArray := by rw [sv, sv, ← e1]
  obtain ⟨c0, c1, e2, lc0, lc1⟩ := open_two_ints (cs := cs2.toList) (by rw [Array.length_toList, hs2]; kernel_rfl) hf2
  obtain rfl : cs2 = #[.int .i64 c0, .int .i64 c1] := by apply Array.toList_inj.1; exact e2
  clear hA0 hval0
  have hT := tabs2 hL
  refine (nodeApart_law b1 b2 b4 b5 a0 b0 a1 b3 c0 c1 W lb1 lb2 lb4 lb5 la0 lb0 la1 lb3 lc0.1 lc0.2 lc1.1 lc1.2 (alive8_any W (empty_c W hT)) (leafText_c W) (joinText_c W) (kind_c W)).mono fun e W' ⟨he, hb'⟩ => ?_
  subst he
  exact ⟨_, rfl, post_law laidOut readable rfl rfl Tryd.underlying4 rfl hW' hb'⟩

theorem row_holds : Rows.NodeApartSaid :=
  OpenClaim.holds_of_wide 6 Tryd.f6 rfl rfl rfl rfl rfl rfl rfl ⟨rfl, rfl, rfl, rfl, rfl⟩ rfl rfl rfl rfl rfl (by kernel_rfl) Tryd.func6 (by kernel_rfl)
    (of_decide_eq_true (by kernel_rfl)) (by unfold Func.isWrapper; first | (rw [if_pos (by decide +kernel)]; kernel_rfl) | (rw [if_neg (by decide +kernel)]; exact ⟨rfl, rfl⟩))
    (fun os started H enc _ => lifted os started H enc)

theorem proved : Rows.NodeApartCardSaid :=
  Claim7.holds_tied_plain_at .later [] [.data, .data] true (true, "5c755e0fa62abf7d0a0e5c4bee8b6ac8ff3281d6864e630428c49d5167dac7d2") true
    row_holds (fun _ h => by cases h) (by kernel_rfl) (fun _ h => by cases h) nodeApart_row_tie rfl ⟨rfl, rfl⟩ (by kernel_rfl) rfl
    (fun f fn hf hfn => by
      obtain rfl : f = 6 := Option.some.inj ((show Tryd.prog.funcNamed "entrust/entrustlaw08.NodeApart" = some 6 by kernel_rfl).symm.trans hf) |>.symm
      obtain rfl : fn = Tryd.f6 := (Option.some.inj (Tryd.func6.symm.trans hfn)).symm
      exact ⟨by kernel_rfl, fun j t ht => by
        rw [Tryd.params6] at ht
        have hm : t ∈ [58, 59, 60] := by simpa using Array.mem_of_getElem? ht
        have hall : ([58, 59, 60].all fun u => !Tryd.prog.wantsStandIn u) = true := by kernel_rfl
        exact (show Tryd.prog.wantsStandIn t = false by simpa using List.all_eq_true.1 hall t hm)⟩)
    (by kernel_rfl)
end Go.Proofs.YthbppiobadcbkaaDoor.nodeApart
