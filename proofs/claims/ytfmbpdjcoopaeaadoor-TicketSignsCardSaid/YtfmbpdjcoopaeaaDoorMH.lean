/-
  entrustnum.Hashes: two slices of hashes held against each other.
  entrustnum.Num and Is of any error of package api.
-/
import Derived.Test.YtfmbpdjcoopaeaaDoorM3
import Derived.Test.YtfmbpdjcoopaeaaDoorY1
import Derived.Test.YtfmbpdjcoopaeaaDoorY4
import Derived.Test.YtfmbpdjcoopaeaaDoorY9
namespace Go.Proofs.YtfmbpdjcoopaeaaDoor
open Go.RowKit

/-- A hash of a row of them. -/
def hpart (bs : List UInt8) (j : Nat) : List UInt8 := (bs.drop (32 * j)).take 32
theorem hpart_length {bs : List UInt8} {n j : Nat} (hb : bs.length = 32 * n) (hj : j < n) : (hpart bs j).length = 32 := by
  rw [hpart, List.length_take, List.length_drop]
  omega
theorem hpart_range {W : World} {B n j : Nat} {A : Option Addr} {bs : List UInt8} (h : Rd W B A (ubs bs)) (hb : bs.length = 32 * n) (hj : j < n) : ∃ g o, A = some ⟨g, o, none⟩ ∧ g < B ∧ W.rangeAt g (o + 32 * j) (ubs (hpart bs j)) := by
  obtain ⟨g, o, rfl, hg, hc⟩ := h (fun e => by have := congrArg List.length e; rw [ubs_length, hb] at this; simp only [List.length_nil] at this; omega)
  refine ⟨g, o, rfl, hg, fun q u hq => ?_⟩
  have hq2 : q < 32 := by
    have := (List.getElem?_eq_some_iff.1 hq).1
    rw [ubs_length, hpart_length hb hj] at this
    exact this
  have := hc (32 * j + q) u (by
    unfold ubs at hq ⊢
    rw [List.getElem?_map] at hq ⊢
    unfold hpart at hq
    rwa [List.getElem?_take_of_lt hq2, List.getElem?_drop] at hq)
  rwa [← Nat.add_assoc] at this
theorem take_part (bs : List UInt8) (j : Nat) : bs.take (32 * (j + 1)) = bs.take (32 * j) ++ hpart bs j := by
  unfold hpart
  rw [show 32 * (j + 1) = 32 * j + 32 by omega, List.take_add]
theorem hpart_eq {bs cs : List UInt8} (j : Nat) (h : bs = cs) : hpart bs j = hpart cs j := by rw [h]
def hhF (A C : Value) (i x y g q : Nat) (P Q : List UInt8) (r : Bool) : Nat → Value
  | 0 => A
  | 1 => .int .i64 (i : Int)
  | 2 => .pointer (some ⟨g, x, none⟩)
  | 3 => .agg (ubs P).toArray
  | 4 => C
  | 5 => .int .i64 (i : Int)
  | 6 => .pointer (some ⟨q, y, none⟩)
  | 7 => .agg (ubs Q).toArray
  | _ => .bool r
set_option maxRecDepth 100000 in
set_option maxHeartbeats 2000000 in
theorem hashes_any (n : Nat) (bs cs : List UInt8) (A C : Option Addr) (c d : Nat) (w : World) (hb : bs.length = 32 * n) (hc : cs.length = 32 * n) (ha : Rd w w.heap.size A (ubs bs)) (hd : Rd w w.heap.size C (ubs cs)) (hn : n ≤ 100000) :
    Calls Tryd.prog 46 #[.slice A n c, .slice C n d] w fun r w' => r = .returned (.bool (decide (bs = cs))) ∧ Below w.heap.size w w' := by
  have HA := hid (fun (V : World) (k : Below w.heap.size w V) => (show Rd V w.heap.size A (ubs bs) from Rd.below ha k))
  have HD := hid (fun (V : World) (k : Below w.heap.size w V) => (show Rd V w.heap.size C (ubs cs) from Rd.below hd k))
  have HB := hid hb
  have HC := hid hc
  have HN := hid hn
  obtain ⟨R, hR⟩ : ∃ R, R = decide (bs = cs) := ⟨_, rfl⟩
  rw [← hR]
  have HR := hid hR
  have cn : ((n : Int) != (n : Int)) = false := by simp
  have cn2 : ((n : Int) == (n : Int)) = true := by simp
  clear ha hd hb hc hn hR
  go_enter Tryd.func46, Tryd.ntmps46
  go_wp2
  go_loopw [13] (fun v wr => ∃ j : Nat, j ≤ n ∧ v = .int .i64 (j : Int) ∧ bs.take (32 * j) = cs.take (32 * j) ∧ Below w.heap.size w wr) (fun v _ => n - (intOf v).toNat)
  case atStart => exact ⟨0, by omega, rfl, by simp, Below.refl _ _⟩
  case round =>
    obtain ⟨j, hj, rfl, ht, hw⟩ := hrel
    by_cases hlt : j < n
    · have hdj : decide ((j : Int) < (n : Int)) = true := by simp; omega
      obtain ⟨g, o, eA, hg, hra⟩ := hpart_range (HA.out wr hw) HB.out hlt
      obtain ⟨q, p, eC, hq, hrc⟩ := hpart_range (HD.out wr hw) HC.out hlt
      have HPL := hid (hpart_length HB.out hlt)
      have HQL := hid (hpart_length HC.out hlt)
      have hs := hw.size
      have HRA := hid (fun (V : World) (k : Below wr.heap.size wr V) => show V.rangeAt g (o + 32 * j) (ubs (hpart bs j)) from fun i u hu => (k.cell (p := ⟨g, o + 32 * j + i, none⟩) (Nat.lt_of_lt_of_le hg hs)).trans (hra i u hu))
      have HRC := hid (fun (V : World) (k : Below wr.heap.size wr V) => show V.rangeAt q (p + 32 * j) (ubs (hpart cs j)) from fun i u hu => (k.cell (p := ⟨q, p + 32 * j + i, none⟩) (Nat.lt_of_lt_of_le hq hs)).trans (hrc i u hu))
      have HT1 := hid (fun h : hpart bs j = hpart cs j => show bs.take (32 * (j + 1)) = cs.take (32 * (j + 1)) by rw [take_part, take_part, ht, h])
      have HRF := hid (fun h : hpart bs j ≠ hpart cs j => show R = false by rw [HR.out]; exact decide_eq_false fun e => h (hpart_eq j e))
      obtain ⟨x, hx⟩ : ∃ x, x = o + 32 * j := ⟨_, rfl⟩
      obtain ⟨y, hy⟩ : ∃ y, y = p + 32 * j := ⟨_, rfl⟩
      rw [← hx] at HRA
      rw [← hy] at HRC
      obtain ⟨j1, hj1⟩ : ∃ m, m = j + 1 := ⟨_, rfl⟩
      rw [← hj1] at HT1
      have HJL := hid (show j1 ≤ n by omega)
      have HMS := hid (show n - j1 < n - j by omega)
      have e2 : (j : Int) + 1 = (j1 : Int) := by omega
      have ew : IntKind.i64.wrap (j1 : Int) = (j1 : Int) := by rw [IntKind.wrap_i64] <;> have := HN.out <;> omega
      have EK := hid (show (j : Int) < (n : Int) by omega)
      have ik : (j : Int) < (n : Int) := by omega
      have EX := hid (show o + j * 32 = x by rw [hx]; omega)
      have EY := hid (show p + j * 32 = y by rw [hy]; omega)
      have HW := hid hw
      generalize hpart bs j = P at HRA HPL HT1 HRF
      generalize hpart cs j = Q at HRC HQL HT1 HRF
      subst eA
      subst eC
      clear hra hrc hx hy hj1 hg hq hs ht hw hlt hj
      go_upto_region 6 with (fail)
      try simp only [Act.put, List.setIfInBounds_toArray, List.set_cons_succ, List.set_cons_zero]
      by_cases hpq : P = Q
      · have HPQ := hid (show (P == Q) = !false by simp [hpq])
        have HT2 := hid (HT1.out hpq)
        clear hpq HT1 HRF
        refine wp_region_facts 9 9 [16, 17, 18, 19, 20, 21, 22, 23, 24] (fun k z _ => z = hhF (.slice (some ⟨g, o, none⟩) n c) (.slice (some ⟨q, p, none⟩) n d) j x y g q P Q false k) (fun V => Below wr.heap.size wr V) (by kernel_rfl) (by kernel_rfl)
          (fun V V' h hb => h.trans (hb.mono h.size)) (fun _ _ _ _ h _ => h) ((Below.refl _ _).drew) ?_ ?_
        · intro i hi vals W K hB hn hK
          simp only [frm_cons, frm_nil, List.set_cons_succ, List.set_cons_zero, Nat.reduceAdd] at hK ⊢
          rcases (by omega : i = 0 ∨ i = 1 ∨ i = 2 ∨ i = 3 ∨ i = 4 ∨ i = 5 ∨ i = 6 ∨ i = 7 ∨ i = 8) with rfl | rfl | rfl | rfl | rfl | rfl | rfl | rfl | rfl
          · refine wpOp_plain rfl rfl (wp_val (w' := W) (v := .slice (some ⟨g, o, none⟩) n c) (by go_simp) ?_)
            exact hK _ _ rfl (Below.refl _ _)
          · refine wpOp_plain rfl rfl (wp_val (w' := W) (v := .int .i64 (j : Int)) (by go_simp) ?_)
            exact hK _ _ rfl (Below.refl _ _)
          · have h0 := hn 0 (by decide +kernel)
            have h1 := hn 1 (by decide +kernel)
            simp only [hhF] at h0 h1
            simp only [h0, h1] at hK ⊢
            have x1 := EX.out
            have x2 := EK.out
            refine wpOp_plain rfl rfl (wp_val (w' := W) (v := .pointer (some ⟨g, x, none⟩)) (by go_simp) ?_)
            exact hK _ _ rfl (Below.refl _ _)
          · have h2 := hn 2 (by decide +kernel)
            simp only [hhF] at h2
            simp only [h2] at hK ⊢
            refine wpOp_plain rfl rfl (wp_val (run_loadH (.tmp 18) rfl g x rfl P (HRA.out W hB) HPL.out) ?_)
            exact hK _ _ rfl (Below.refl _ _)
          · refine wpOp_plain rfl rfl (wp_val (w' := W) (v := .slice (some ⟨q, p, none⟩) n d) (by go_simp) ?_)
            exact hK _ _ rfl (Below.refl _ _)
          · refine wpOp_plain rfl rfl (wp_val (w' := W) (v := .int .i64 (j : Int)) (by go_simp) ?_)
            exact hK _ _ rfl (Below.refl _ _)
          · have h4 := hn 4 (by decide +kernel)
            have h5 := hn 5 (by decide +kernel)
            simp only [hhF] at h4 h5
            simp only [h4, h5] at hK ⊢
            have x1 := EY.out
            have x2 := EK.out
            refine wpOp_plain rfl rfl (wp_val (w' := W) (v := .pointer (some ⟨q, y, none⟩)) (by go_simp) ?_)
            exact hK _ _ rfl (Below.refl _ _)
          · have h6 := hn 6 (by decide +kernel)
            simp only [hhF] at h6
            simp only [h6] at hK ⊢
            refine wpOp_plain rfl rfl (wp_val (run_loadH (.tmp 22) rfl q y rfl Q (HRC.out W hB) HQL.out) ?_)
            exact hK _ _ rfl (Below.refl _ _)
          · have h3 := hn 3 (by decide +kernel)
            have h7 := hn 7 (by decide +kernel)
            simp only [hhF] at h3 h7
            simp only [h3, h7] at hK ⊢
            refine wpOp_plain rfl rfl (wp_val (run_neqH _ (.tmp 19) (.tmp 23) rfl P Q HPL.out HQL.out rfl rfl false HPQ.out W) ?_)
            exact hK _ _ rfl (Below.refl _ _)
        · intro vals W hB hF
          have h8 := hF 8 (by omega)
          simp only [hhF] at h8
          simp only [frm_cons, frm_nil, List.set_cons_succ, List.set_cons_zero, Nat.reduceAdd, h8]
          refine wpUpto_done (by decide +kernel) ?_ _
          have HBV := hid hB
          clear hB hF h8
          go_simp
          go_wp2
          go_roundw
          case rel => exact ⟨j1, HJL.out, rfl, HT2.out, HW.out.trans (HBV.out.mono HW.out.size)⟩
          case measure =>
            show n - ((j1 : Int)).toNat < n - (j : Int).toNat
            rw [Int.toNat_natCast, Int.toNat_natCast]
            exact HMS.out
      · have HPQ := hid (show (P == Q) = !true by simpa using hpq)
        have HF2 := hid (HRF.out hpq)
        clear hpq HT1 HRF
        refine wp_region_facts 9 9 [16, 17, 18, 19, 20, 21, 22, 23, 24] (fun k z _ => z = hhF (.slice (some ⟨g, o, none⟩) n c) (.slice (some ⟨q, p, none⟩) n d) j x y g q P Q true k) (fun V => Below wr.heap.size wr V) (by kernel_rfl) (by kernel_rfl)
          (fun V V' h hb => h.trans (hb.mono h.size)) (fun _ _ _ _ h _ => h) ((Below.refl _ _).drew) ?_ ?_
        · intro i hi vals W K hB hn hK
          simp only [frm_cons, frm_nil, List.set_cons_succ, List.set_cons_zero, Nat.reduceAdd] at hK ⊢
          rcases (by omega : i = 0 ∨ i = 1 ∨ i = 2 ∨ i = 3 ∨ i = 4 ∨ i = 5 ∨ i = 6 ∨ i = 7 ∨ i = 8) with rfl | rfl | rfl | rfl | rfl | rfl | rfl | rfl | rfl
          · refine wpOp_plain rfl rfl (wp_val (w' := W) (v := .slice (some ⟨g, o, none⟩) n c) (by go_simp) ?_)
            exact hK _ _ rfl (Below.refl _ _)
          · refine wpOp_plain rfl rfl (wp_val (w' := W) (v := .int .i64 (j : Int)) (by go_simp) ?_)
            exact hK _ _ rfl (Below.refl _ _)
          · have h0 := hn 0 (by decide +kernel)
            have h1 := hn 1 (by decide +kernel)
            simp only [hhF] at h0 h1
            simp only [h0, h1] at hK ⊢
            have x1 := EX.out
            have x2 := EK.out
            refine wpOp_plain rfl rfl (wp_val (w' := W) (v := .pointer (some ⟨g, x, none⟩)) (by go_simp) ?_)
            exact hK _ _ rfl (Below.refl _ _)
          · have h2 := hn 2 (by decide +kernel)
            simp only [hhF] at h2
            simp only [h2] at hK ⊢
            refine wpOp_plain rfl rfl (wp_val (run_loadH (.tmp 18) rfl g x rfl P (HRA.out W hB) HPL.out) ?_)
            exact hK _ _ rfl (Below.refl _ _)
          · refine wpOp_plain rfl rfl (wp_val (w' := W) (v := .slice (some ⟨q, p, none⟩) n d) (by go_simp) ?_)
            exact hK _ _ rfl (Below.refl _ _)
          · refine wpOp_plain rfl rfl (wp_val (w' := W) (v := .int .i64 (j : Int)) (by go_simp) ?_)
            exact hK _ _ rfl (Below.refl _ _)
          · have h4 := hn 4 (by decide +kernel)
            have h5 := hn 5 (by decide +kernel)
            simp only [hhF] at h4 h5
            simp only [h4, h5] at hK ⊢
            have x1 := EY.out
            have x2 := EK.out
            refine wpOp_plain rfl rfl (wp_val (w' := W) (v := .pointer (some ⟨q, y, none⟩)) (by go_simp) ?_)
            exact hK _ _ rfl (Below.refl _ _)
          · have h6 := hn 6 (by decide +kernel)
            simp only [hhF] at h6
            simp only [h6] at hK ⊢
            refine wpOp_plain rfl rfl (wp_val (run_loadH (.tmp 22) rfl q y rfl Q (HRC.out W hB) HQL.out) ?_)
            exact hK _ _ rfl (Below.refl _ _)
          · have h3 := hn 3 (by decide +kernel)
            have h7 := hn 7 (by decide +kernel)
            simp only [hhF] at h3 h7
            simp only [h3, h7] at hK ⊢
            refine wpOp_plain rfl rfl (wp_val (run_neqH _ (.tmp 19) (.tmp 23) rfl P Q HPL.out HQL.out rfl rfl true HPQ.out W) ?_)
            exact hK _ _ rfl (Below.refl _ _)
        · intro vals W hB hF
          have h8 := hF 8 (by omega)
          simp only [hhF] at h8
          simp only [frm_cons, frm_nil, List.set_cons_succ, List.set_cons_zero, Nat.reduceAdd, h8]
          refine wpUpto_done (by decide +kernel) ?_ _
          have HBV := hid hB
          clear hB hF h8
          go_simp
          go_wp2
          go_ret
          exact ⟨by rw [HF2.out]; rfl, HW.out.trans (HBV.out.mono HW.out.size)⟩
    · obtain rfl : j = n := by omega
      have hdj : decide ((j : Int) < (j : Int)) = false := by simp
      have HRT := hid (show R = true by
        rw [HR.out]
        refine decide_eq_true ?_
        rwa [List.take_of_length_le (by rw [HB.out]; exact Nat.le_refl _), List.take_of_length_le (by rw [HC.out]; exact Nat.le_refl _)] at ht)
      have HW := hid hw
      clear ht hw hlt hj
      go_wp2
      go_ret
      exact ⟨by rw [HRT.out]; rfl, HW.out⟩
end Go.Proofs.YtfmbpdjcoopaeaaDoor

namespace Go.Proofs.YtfmbpdjcoopaeaaDoor
open Go.RowKit

set_option maxRecDepth 100000 in
/-- An error's number. -/
theorem enum_any (k : Nat) (w : World) : Calls Tryd.prog 26 #[errV k] w fun e w' => e = .returned (.int .i64 k) ∧ w = w' := by
  by_cases hk : k = 0
  · subst hk
    rw [errV_zero]
    go_enter Tryd.func26, Tryd.ntmps26
    go_wp2
    go_ret
    exact ⟨rfl, rfl⟩
  · rw [errV_pos hk]
    have hne : ((k : Int) != 0) = true := by simp; omega
    have hta : ∀ w : World, (Instr.typeAssert (.iface 49 (.int .i64 (k : Int))) 39 49 true).run Tryd.prog w = .ok (.tuple #[.int .i64 (k : Int), .bool true]) w := fun _ => by kernel_rfl
    clear hk
    go_enter Tryd.func26, Tryd.ntmps26
    go_wp2
    go_ret
    exact ⟨rfl, rfl⟩
set_option maxRecDepth 100000 in
theorem eis_any (k m : Nat) (w : World) : Calls Tryd.prog 22 #[errV k, .int .i64 m] w fun e w' => e = .returned (.bool (decide (k = m))) ∧ w = w' := by
  go_enter Tryd.func22, Tryd.ntmps22
  go_wp2_with (go_at_call 26; refine (enum_any _ _).mono ?_; rintro e w1 ⟨rfl, rfl⟩)
  go_ret
  refine ⟨?_, rfl⟩
  show Ending.returned (.bool _) = _
  congr 2
  rw [Bool.eq_iff_iff]
  simp
  omega
end Go.Proofs.YtfmbpdjcoopaeaaDoor
