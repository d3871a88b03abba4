/-
  CtrTwice: for every counter, all bytes and every pair of numbers: what the program turns twice is as it was, and the steps of a counter add up. No condition.
-/
import Derived.Test.YtenlidbgllahhaaLtw
import Derived.Test.YtenlidbgllahhaaOd
import Derived.Test.YtenlidbgllahhaaRows
import Derived.ProofKit
namespace Go.Proofs.Ytenlidbgllahhaa.ctrTwice
open Go.ChangeShapes Go.WideShapes Go.ChangeAt Go.RowKit

theorem own : ownKnob Try.prog.godebug = none := by kernel_rfl
theorem laidOut : laidOutB Try.prog = true := by kernel_rfl
theorem readable : ∀ t ∈ Try.f8.params.toList, Try.prog.readableRec t = true ∧ t < Try.prog.types.size := by
  intro t ht
  rw [Try.params8] at ht
  simp at ht
  rcases ht with rfl | rfl | rfl
  · exact ⟨by kernel_rfl, of_decide_eq_true (by kernel_rfl)⟩
  · exact ⟨by kernel_rfl, of_decide_eq_true (by kernel_rfl)⟩
  · exact ⟨by kernel_rfl, of_decide_eq_true (by kernel_rfl)⟩

set_option maxRecDepth 100000 in
theorem lifted (os : Os) (started : os.Started) (H : Type) (enc : TypeId × Value → H) :
    ReturnsInHanded {} Try.checked os 8 .any (Rows.ctrTwiceSpec.pre6 enc Try.prog Try.f8 Rows.ctrTwiceRow.domain false) (Rows.ctrTwiceSpec.post enc Try.prog Try.f8 false true false false) := by
  refine returnsInHanded_of_change_sized (C := Try.checked) own started (by kernel_rfl) Try.func8
    (ChangeSpec.witness6 (enc := enc) (C := Try.checked) false ⟨#[], #[.agg (ubs (List.replicate 16 0)).toArray, .slice none 0 0, .agg #[.int .u64 0, .int .u64 0]], []⟩ 8 (by kernel_rfl) (by kernel_rfl) (by kernel_rfl) (by kernel_rfl)) ?_
  intro W base args ds gs before hval0 hW hcnd hsz _
  have hval : ∀ (j : Nat) t v, Try.f8.params[j]? = some t → args[j]? = some v → Value.okWide Try.prog W .any base t v := hval0
  have hW' := hW
  obtain ⟨p, q, hA0, hV, rfl, hfz, hnd⟩ := hW
  have hA : DataW.TrodAll enc Try.prog W 0 (fun _ => true) true Try.f8.params.toList args.toList ds p := hA0
  rw [Try.params8] at hA hval
  obtain ⟨v0, vs0, d0, ds0, p0, q0, hargs0, rfl, rfl, h0, r0⟩ := trodAll_cons hA
  obtain ⟨v1, vs1, d1, ds1, p1, q1, hargs1, rfl, rfl, h1, r1⟩ := trodAll_cons r0
  obtain ⟨v2, vs2, d2, ds2, p2, q2, hargs2, rfl, rfl, h2, r2⟩ := trodAll_cons r1
  obtain ⟨rfl, rfl, rfl⟩ := trodAll_nil r2
  obtain rfl : args = #[v0, v1, v2] := by cases args; simp_all
  obtain ⟨cs0, rfl, hs0⟩ := okWide_array Try.underlying26 (hval 0 26 v0 rfl rfl)
  obtain ⟨D1, len1, cap1, rfl⟩ := okWide_slice Try.underlying37 (hval 1 37 v1 rfl rfl)
  obtain ⟨cs2, rfl, hs2⟩ := okWide_array Try.underlying54 (hval 2 54 v2 rfl rfl)
  obtain ⟨fuel0, hf0⟩ := h0
  obtain ⟨fuel1, hf1⟩ := h1
  obtain ⟨fuel2, hf2⟩ := h2
  obtain ⟨D1', c1, b, hcd, hb, lb, _⟩ := open_bytes hf1 (fun n hn => of_decide_eq_true (List.all_eq_true.1 hsz n (by
    rw [Try.params8]
    exact List.mem_append_right _ (List.mem_append_left _ hn))))
  cases hcd
  obtain ⟨a, e0, la⟩ := open_block (cs := cs0.toList) Try.underlying26 (by rw [Array.length_toList, hs0]; kernel_rfl) hf0
  obtain rfl : cs0 = (ubs a).toArray := by rw [← e0]
  obtain ⟨c0, c1, e2, lc0, lc1⟩ := open_pair64 (cs := cs2.toList) (by rw [Array.length_toList, hs2]; kernel_rfl) hf2
  obtain rfl : cs2 = #[.int .u64 (c0 : Int), .int .u64 (c1 : Int)] := by apply Array.toList_inj.1; exact e2
  clear hA0 hval0
  refine (twice_law a b D1 cap1 c0 c1 W la hb lb).mono fun e W' ⟨he, hb'⟩ => ?_
  subst he
  exact ⟨_, rfl, post_law laidOut readable rfl rfl Try.underlying4 rfl hW' hb'⟩

theorem over : Rows.ctrTwiceRow.holds Try.pinned (OpenSpec.ofChange Rows.ctrTwiceSpec) :=
  OpenClaim.holds_of_wide 8 Try.f8 rfl rfl rfl rfl rfl rfl rfl ⟨rfl, rfl, rfl, rfl, rfl⟩ rfl rfl rfl rfl rfl (by kernel_rfl) Try.func8 (by kernel_rfl)
    (of_decide_eq_true (by kernel_rfl)) (by unfold Func.isWrapper; first | (rw [if_pos (by decide +kernel)]; kernel_rfl) | (rw [if_neg (by decide +kernel)]; exact ⟨rfl, rfl⟩))
    (fun os started H enc _ => lifted os started H enc)

theorem proved : Rows.CtrTwiceSaid := over
end Go.Proofs.Ytenlidbgllahhaa.ctrTwice
