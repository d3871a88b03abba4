/-
  Is of layer 9: a tree held against the document's, over what the program's trees are to answer.
-/
import Derived.Test.YthkbmpocfpbkoaaDoorTo
import Derived.Test.YthkbmpocfpbkoaaDoorY1
namespace Go.Proofs.YthkbmpocfpbkoaaDoor
open Go.RowKit

attribute [local go_sem] Oper.semAt_some

/-- What the first test's operations yield. -/
def isF1 (b h n X : Nat) (A1 E : Option Addr) (c1 cE : Nat) (rt : List UInt8) : Nat → Value
  | 0 => .pointer (some ⟨b, 0, none⟩)
  | 3 => .pointer (some ⟨b, 0, none⟩)
  | 4 => .int .i64 (h : Int)
  | 5 => .pointer (some ⟨X, 0, none⟩)
  | 6 => .int .i64 (h : Int)
  | 10 => .pointer (some ⟨b, 0, none⟩)
  | 11 => .int .i64 (n : Int)
  | 12 => .pointer (some ⟨X, 1, none⟩)
  | 13 => .slice A1 n c1
  | 14 => .int .i64 (n : Int)
  | 18 => .pointer (some ⟨b, 0, none⟩)
  | 19 => .agg (ubs rt).toArray
  | 20 => .agg #[.int .i64 (h : Int), .slice A1 n c1, .slice E 33 cE]
  | 21 => .agg (ubs rt).toArray
  | _ => .bool false
/-- What a round's operations yield. -/
def isF2 (X g o y k n u v c1 : Nat) (ph : List UInt8) (R : Bool) : Nat → Value
  | 0 => .int .i64 (k : Int)
  | 1 => .pointer (some ⟨X, 1, none⟩)
  | 2 => .slice (some ⟨g, o, none⟩) n c1
  | 3 => .int .i64 (n : Int)
  | 4 => .bool false
  | 5 => .bool false
  | 6 => .int .u64 (u : Int)
  | 7 => .pointer (some ⟨X, 1, none⟩)
  | 8 => .slice (some ⟨g, o, none⟩) n c1
  | 9 => .int .i64 (k : Int)
  | 10 => .pointer (some ⟨g, y, none⟩)
  | 11 => .pointer (some ⟨g, y, none⟩)
  | 12 => .int .u64 (v : Int)
  | 16 => if R then undef else .agg (ubs ph).toArray
  | 17 => if R then undef else .pointer (some ⟨X, 1, none⟩)
  | 18 => if R then undef else .slice (some ⟨g, o, none⟩) n c1
  | 19 => if R then undef else .int .i64 (k : Int)
  | 20 => if R then undef else .pointer (some ⟨g, y, none⟩)
  | 21 => if R then undef else .pointer (some ⟨g, y + 1, none⟩)
  | 22 => if R then undef else .agg (ubs ph).toArray
  | 23 => if R then undef else .bool false
  | _ => .bool R
theorem srt_ne {L : List (Nat × List UInt8)} (hs : srt L) {i j : Nat} (hi : i < L.length) (hj : j < L.length) (h : i ≠ j) : (L[i]).1 ≠ (L[j]).1 := by
  have := List.pairwise_iff_getElem.1 hs
  rcases Nat.lt_or_gt_of_ne h with q | q
  · have := this i j hi hj q; omega
  · have := this j i hj hi q; omega
section
variable {F : Fence} {rm : Nat} {P : Program} {ops : Array Oper} {Q : Exit → Act → World → Prop}
theorem wpOpIn_on {i : Nat} {o : Oper} {K : Act → World → Prop} {a : Act} {w : World} (ho : ops[i]? = some o) (hg : Region.wanted o (yielded ops a.tmps) = true) (h : o.wpIn F rm P a w K Q) : wpOpIn F rm P ops Q i K a w := by
  unfold wpOpIn
  rw [ho]
  simp only [hg, if_true]
  exact h
theorem wpOpIn_off {i : Nat} {o : Oper} {K : Act → World → Prop} {a : Act} {w : World} (ho : ops[i]? = some o) (hg : Region.wanted o (yielded ops a.tmps) = false) (hab : o.about P w a.eval = none) (h : K (a.put o.dst undef) w) : wpOpIn F rm P ops Q i K a w := by
  unfold wpOpIn
  rw [ho]
  simp only [hg, Bool.false_eq_true, if_false]
  exact ⟨fun f hf => (by rw [hab] at hf; cases hf), h⟩
end
theorem results_one9 {P : Program} {fn : Func} {p : Tmp} {ty : TypeId} (h : fn.results = #[.cell p ty]) (tmps : Array Value) (w : World) (a : Addr) (v : Value) (hp : tmps.getD p undef = .pointer (some a)) (hl : (loadVar ty a).run P w = .ok v w) : (results fn tmps).run P w = .ok v w := by
  have hp' : tmps[p]?.getD undef = .pointer (some a) := by simpa using hp
  simp [results, h, hp', asAddr, hl]
set_option maxRecDepth 100000 in
set_option maxHeartbeats 4000000 in
theorem is9_any {Pt : PtT} {w0 : World} (t : T9 Pt w0) {S : Nat → Prop} (b h : Nat) (L : List (Nat × List UInt8)) (A1 E : Option Addr) (c1 cE : Nat) (w : World) (hw : Below w0.heap.size w0 w) (hp : Pt S w b h L) (hl : Lv w w.heap.size A1 L) (he : Ev w w.heap.size E) (hlen : L.length ≤ 1000) (hT : Tabr w) (hI : Tab w 1 IV.l) :
    Calls Tryd.prog 15 #[.pointer (some ⟨b, 0, none⟩), .agg #[.int .i64 (h : Int), .slice A1 L.length c1, .slice E 33 cE]] w fun r w' => r = .returned (.bool true) ∧ Below w.heap.size w w' := by
  have HTT := hid t
  have HGD := hid (t.good hp)
  have HLE := hid hlen
  obtain ⟨n, hn⟩ : ∃ n, n = L.length := ⟨_, rfl⟩
  obtain ⟨rt, hrt⟩ : ∃ r, r = nodeS h 0 L := ⟨_, rfl⟩
  obtain ⟨w1, hw1⟩ : ∃ w1, w1 = (w.alloc (.cells #[.int .i64 (h : Int), .slice A1 n c1, .slice E 33 cE] 28)).alloc (.cells #[.bool false] 4) := ⟨_, rfl⟩
  have hb1 : Below w.heap.size w w1 := by rw [hw1]; exact ((Below.refl _ _).alloc (Nat.le_refl _) _).alloc (by simp) _
  have hx1 : At w1 w.heap.size #[.int .i64 (h : Int), .slice A1 n c1, .slice E 33 cE] 28 := by rw [hw1]; exact (At.new _ _ _).alloc _
  have hr1 : At w1 (w.heap.size + 1) #[.bool false] 4 := by rw [hw1]; exact At.new_at (by simp)
  have hs1 : w1.heap.size = w.heap.size + 2 := by rw [hw1]; simp
  have HB1 := hid hb1
  have HX := hid (fun (V : World) (k : Below w1.heap.size w1 V) => hx1.new_ k)
  have HC0 := hid (fun (V : World) (k : Below w1.heap.size w1 V) => show V.cell? ⟨w.heap.size, 0, none⟩ = some (.int .i64 (h : Int)) by rw [(hx1.new_ k).cell]; rfl)
  have HC1 := hid (fun (V : World) (k : Below w1.heap.size w1 V) => show V.cell? ⟨w.heap.size, 1, none⟩ = some (.slice A1 n c1) by rw [(hx1.new_ k).cell]; rfl)
  have HR1 := hid hr1
  have HBW := hid (fun (V : World) (k : Below w1.heap.size w1 V) => hw.trans ((hb1.trans (k.mono hb1.size)).mono hw.size))
  have HPT := hid (fun (V : World) (k : Below w1.heap.size w1 V) => t.new hp (hb1.trans (k.mono hb1.size)))
  have HLV := hid (fun (V : World) (k : Below w1.heap.size w1 V) => hl.new (hb1.trans (k.mono hb1.size)))
  have HHE := hid (fun (V : World) (k : Below w1.heap.size w1 V) => t.heightOk (HBW.out V k) (HPT.out V k))
  have HLN := hid (fun (V : World) (k : Below w1.heap.size w1 V) => show Calls Tryd.prog 17 #[ptr b] V (fun r W' => r = .returned (.int .i64 (n : Int)) ∧ Below V.heap.size V W') by rw [hn]; exact t.lenOk (HBW.out V k) (HPT.out V k) hlen)
  have HRT := hid (fun (V : World) (k : Below w1.heap.size w1 V) => show Calls Tryd.prog 32 #[ptr b] V (fun r W' => r = .returned (.agg (ubs rt).toArray) ∧ Below V.heap.size V W') by rw [hrt]; exact t.rootOk (HBW.out V k) (HPT.out V k) hlen)
  have HRR := hid (fun (V : World) (k : Below w1.heap.size w1 V) => show Calls Tryd.prog 60 #[.agg #[.int .i64 (h : Int), .slice A1 n c1, .slice E 33 cE]] V (fun r W' => r = .returned (.agg (ubs rt).toArray) ∧ Below V.heap.size V W') by
    have hk := hb1.trans (k.mono hb1.size)
    have he' : Ev V V.heap.size E := he.new hk
    obtain ⟨gE, oE, rfl, _, _⟩ := he'.hash (k := 0) (by omega)
    rw [hrt, hn]
    exact rootR_any h HGD.out.hh L (some ⟨gE, oE, none⟩) A1 cE c1 V HGD.out.ok hlen (hl.new hk) he' (hT.below hk) (Tab.below (x := IV.a) (xs := [IV.b, IV.c, IV.d, IV.e, IV.f, IV.g, IV.h]) hI hk))
  have HAL := hid (fun (V : World) (k : Below w1.heap.size w1 V) => t.allOk (HBW.out V k) (HPT.out V k) hlen)
  have HRL := hid (show rt.length = 32 by rw [hrt]; exact nodeS_length h 0 L HGD.out.ok)
  have HS3 := hid (fun (cs : Array Value) (e : cs.size = 3) => sizeTr_of cs e)
  have HN := hid hn
  have HL0 := hid hl
  have HZ := hid hs1
  have HIN := hid (fun k hk => (t.inn hp k hk).2)
  rw [← hn]
  clear hn hrt hb1 hx1 hr1 hs1 hw hp hl he hlen hT hI t
  refine (callsIn_wide (n := 6)).1 ?_
  refine callsIn_of_wp_marks Tryd.func15 rfl trivial ?_ rfl
  refine wpIn_wide.2 ?_
  simp only [Tryd.ntmps15, List.size_toArray, List.length_cons, List.length_nil, Nat.reduceAdd, Nat.reduceSub, Array.replicate_succ, Array.replicate_zero, List.push_toArray, List.append_toArray, List.nil_append, List.cons_append]
  go_upto_region 1 with (fail)
  rw [← hw1]
  clear hw1
  try simp only [Act.put, List.setIfInBounds_toArray, List.set_cons_succ, List.set_cons_zero]
  refine wp_region_facts 24 24 [8, 9, 10, 11, 12, 13, 14, 15, 16, 17, 18, 19, 20, 21, 22, 23, 24, 25, 26, 27, 28, 29, 30, 31] (fun k v _ => v = isF1 b h n w.heap.size A1 E c1 cE rt k) (fun W => Below w1.heap.size w1 W) (by kernel_rfl) (by kernel_rfl)
    (fun W W' h hb => h.trans (hb.mono h.size)) (fun _ _ _ _ h _ => h) ((Below.refl _ _).drew) ?_ ?_
  · intro i hi vals W K hB hn hK
    simp only [frm_cons, frm_nil, List.set_cons_succ, List.set_cons_zero, Nat.reduceAdd] at hK ⊢
    rcases (by omega : i = 0 ∨ i = 1 ∨ i = 2 ∨ i = 3 ∨ i = 4 ∨ i = 5 ∨ i = 6 ∨ i = 7 ∨ i = 8 ∨ i = 9 ∨ i = 10 ∨ i = 11 ∨ i = 12 ∨ i = 13 ∨ i = 14 ∨ i = 15 ∨ i = 16 ∨ i = 17 ∨ i = 18 ∨ i = 19 ∨ i = 20 ∨ i = 21 ∨ i = 22 ∨ i = 23) with rfl | rfl | rfl | rfl | rfl | rfl | rfl | rfl | rfl | rfl | rfl | rfl | rfl | rfl | rfl | rfl | rfl | rfl | rfl | rfl | rfl | rfl | rfl | rfl
    · refine wpOp_plain rfl rfl (wp_val (w' := W) (v := .pointer (some ⟨b, 0, none⟩)) (by go_simp) ?_)
      exact hK _ _ rfl (Below.refl _ _)
    · have h0 := hn 0 (by decide +kernel)
      simp only [isF1] at h0
      simp only [h0] at hK ⊢
      refine wpOp_plain rfl rfl (wp_val (w' := W) (v := .bool false) (by go_simp) ?_)
      exact hK _ _ rfl (Below.refl _ _)
    · have h1 := hn 1 (by decide +kernel)
      simp only [isF1] at h1
      simp only [h1] at hK ⊢
      refine wpOp_plain rfl rfl (wp_val (w' := W) (v := .bool false) (by go_simp) ?_)
      exact hK _ _ rfl (Below.refl _ _)
    · have h2 := hn 2 (by decide +kernel)
      simp only [isF1] at h2
      simp only [h2] at hK ⊢
      refine wpOp_on rfl (by rfl) (wp_val (w' := W) (v := .pointer (some ⟨b, 0, none⟩)) (by go_simp) ?_)
      exact hK _ _ rfl (Below.refl _ _)
    · have h2 := hn 2 (by decide +kernel)
      have h3 := hn 3 (by decide +kernel)
      simp only [isF1] at h2 h3
      simp only [h2, h3] at hK ⊢
      refine wpOp_on rfl (by rfl) ?_
      go_simp
      go_at_call 35
      refine (HHE.out W hB).mono ?_
      rintro e W' ⟨rfl, hb⟩
      exact hK _ _ rfl hb
    · have h2 := hn 2 (by decide +kernel)
      simp only [isF1] at h2
      simp only [h2] at hK ⊢
      refine wpOp_on rfl (by rfl) (wp_val (w' := W) (v := .pointer (some ⟨w.heap.size, 0, none⟩)) (by go_simp) ?_)
      exact hK _ _ rfl (Below.refl _ _)
    · have h2 := hn 2 (by decide +kernel)
      have h5 := hn 5 (by decide +kernel)
      simp only [isF1] at h2 h5
      simp only [h2, h5] at hK ⊢
      have q := HC0.out W hB
      refine wpOp_on rfl (by rfl) (wp_val (w' := W) (v := .int .i64 (h : Int)) (by go_simp) ?_)
      exact hK _ _ rfl (Below.refl _ _)
    · have h2 := hn 2 (by decide +kernel)
      have h4 := hn 4 (by decide +kernel)
      have h6 := hn 6 (by decide +kernel)
      simp only [isF1] at h2 h4 h6
      simp only [h2, h4, h6] at hK ⊢
      refine wpOp_on rfl (by rfl) (wp_val (w' := W) (v := .bool false) (by go_simp) ?_)
      exact hK _ _ rfl (Below.refl _ _)
    · have h2 := hn 2 (by decide +kernel)
      have h7 := hn 7 (by decide +kernel)
      simp only [isF1] at h2 h7
      simp only [h2, h7] at hK ⊢
      refine wpOp_plain rfl rfl (wp_val (w' := W) (v := .bool false) (by go_simp) ?_)
      exact hK _ _ rfl (Below.refl _ _)
    · have h8 := hn 8 (by decide +kernel)
      simp only [isF1] at h8
      simp only [h8] at hK ⊢
      refine wpOp_plain rfl rfl (wp_val (w' := W) (v := .bool false) (by go_simp) ?_)
      exact hK _ _ rfl (Below.refl _ _)
    · have h9 := hn 9 (by decide +kernel)
      simp only [isF1] at h9
      simp only [h9] at hK ⊢
      refine wpOp_on rfl (by rfl) (wp_val (w' := W) (v := .pointer (some ⟨b, 0, none⟩)) (by go_simp) ?_)
      exact hK _ _ rfl (Below.refl _ _)
    · have h9 := hn 9 (by decide +kernel)
      have h10 := hn 10 (by decide +kernel)
      simp only [isF1] at h9 h10
      simp only [h9, h10] at hK ⊢
      refine wpOp_on rfl (by rfl) ?_
      go_simp
      go_at_call 17
      refine (HLN.out W hB).mono ?_
      rintro e W' ⟨rfl, hb⟩
      exact hK _ _ rfl hb
    · have h9 := hn 9 (by decide +kernel)
      simp only [isF1] at h9
      simp only [h9] at hK ⊢
      refine wpOp_on rfl (by rfl) (wp_val (w' := W) (v := .pointer (some ⟨w.heap.size, 1, none⟩)) (by go_simp) ?_)
      exact hK _ _ rfl (Below.refl _ _)
    · have h9 := hn 9 (by decide +kernel)
      have h12 := hn 12 (by decide +kernel)
      simp only [isF1] at h9 h12
      simp only [h9, h12] at hK ⊢
      have q := HC1.out W hB
      refine wpOp_on rfl (by rfl) (wp_val (w' := W) (v := .slice A1 n c1) (by go_simp) ?_)
      exact hK _ _ rfl (Below.refl _ _)
    · have h9 := hn 9 (by decide +kernel)
      have h13 := hn 13 (by decide +kernel)
      simp only [isF1] at h9 h13
      simp only [h9, h13] at hK ⊢
      refine wpOp_on rfl (by rfl) (wp_val (w' := W) (v := .int .i64 (n : Int)) (by go_simp) ?_)
      exact hK _ _ rfl (Below.refl _ _)
    · have h9 := hn 9 (by decide +kernel)
      have h11 := hn 11 (by decide +kernel)
      have h14 := hn 14 (by decide +kernel)
      simp only [isF1] at h9 h11 h14
      simp only [h9, h11, h14] at hK ⊢
      refine wpOp_on rfl (by rfl) (wp_val (w' := W) (v := .bool false) (by go_simp) ?_)
      exact hK _ _ rfl (Below.refl _ _)
    · have h9 := hn 9 (by decide +kernel)
      have h15 := hn 15 (by decide +kernel)
      simp only [isF1] at h9 h15
      simp only [h9, h15] at hK ⊢
      refine wpOp_plain rfl rfl (wp_val (w' := W) (v := .bool false) (by go_simp) ?_)
      exact hK _ _ rfl (Below.refl _ _)
    · have h16 := hn 16 (by decide +kernel)
      simp only [isF1] at h16
      simp only [h16] at hK ⊢
      refine wpOp_plain rfl rfl (wp_val (w' := W) (v := .bool false) (by go_simp) ?_)
      exact hK _ _ rfl (Below.refl _ _)
    · have h17 := hn 17 (by decide +kernel)
      simp only [isF1] at h17
      simp only [h17] at hK ⊢
      refine wpOp_on rfl (by rfl) (wp_val (w' := W) (v := .pointer (some ⟨b, 0, none⟩)) (by go_simp) ?_)
      exact hK _ _ rfl (Below.refl _ _)
    · have h17 := hn 17 (by decide +kernel)
      have h18 := hn 18 (by decide +kernel)
      simp only [isF1] at h17 h18
      simp only [h17, h18] at hK ⊢
      refine wpOp_on rfl (by rfl) ?_
      go_simp
      go_at_call 32
      refine (HRT.out W hB).mono ?_
      rintro e W' ⟨rfl, hb⟩
      exact hK _ _ rfl hb
    · have h17 := hn 17 (by decide +kernel)
      simp only [isF1] at h17
      simp only [h17] at hK ⊢
      refine wpOp_on rfl (by rfl) (wp_val (run_loadTr (.tmp 3) rfl w.heap.size rfl _ (HX.out W hB) (HS3.out _ rfl)) ?_)
      exact hK _ _ rfl (Below.refl _ _)
    · have h17 := hn 17 (by decide +kernel)
      have h20 := hn 20 (by decide +kernel)
      simp only [isF1] at h17 h20
      simp only [h17, h20] at hK ⊢
      refine wpOp_on rfl (by rfl) ?_
      go_simp
      go_at_call 60
      refine (HRR.out W hB).mono ?_
      rintro e W' ⟨rfl, hb⟩
      exact hK _ _ rfl hb
    · have h17 := hn 17 (by decide +kernel)
      have h19 := hn 19 (by decide +kernel)
      have h21 := hn 21 (by decide +kernel)
      simp only [isF1] at h17 h19 h21
      simp only [h17, h19, h21] at hK ⊢
      refine wpOp_on rfl (by rfl) (wp_val (run_neqH _ (.tmp 27) (.tmp 29) rfl rt rt HRL.out HRL.out rfl rfl false (by simp) W) ?_)
      exact hK _ _ rfl (Below.refl _ _)
    · have h17 := hn 17 (by decide +kernel)
      have h22 := hn 22 (by decide +kernel)
      simp only [isF1] at h17 h22
      simp only [h17, h22] at hK ⊢
      refine wpOp_plain rfl rfl (wp_val (w' := W) (v := .bool false) (by go_simp) ?_)
      exact hK _ _ rfl (Below.refl _ _)
  · intro vals W hB hF
    have h23 := hF 23 (by omega)
    simp only [isF1] at h23
    simp only [frm_cons, frm_nil, List.set_cons_succ, List.set_cons_zero, Nat.reduceAdd, h23]
    refine wpUpto_done (by decide +kernel) ?_ _
    have HB2 := hid hB
    clear hB hF h23
    go_simp
    have HN2 := hid (show Below w1.heap.size w1 (W.alloc (.cells #[.int .i64 0] 3)) from HB2.out.alloc HB2.out.size _)
    have HAT := hid (At.new W #[.int .i64 0] 3)
    have HWS := hid (show w.heap.size + 2 ≤ W.heap.size from by have := HB2.out.size; have := HZ.out; omega)
    have HSZ2 := hid (show (W.alloc (.cells #[.int .i64 0] 3)).heap.size = W.heap.size + 1 by simp)
    go_wp2_with (first
      | (go_at_call 34; refine (HAL.out _ HN2.out).mono ?_; rintro r2 w2 ⟨gf, lb, rfl, hb2, hcf, C, hC, hsq⟩))
    obtain ⟨Nb, hNb⟩ : ∃ m, m = W.heap.size := ⟨_, rfl⟩
    have HB3 := hid (HN2.out.trans (hb2.mono HN2.out.size))
    have H0N := hid (show At w2 Nb #[.int .i64 0] 3 by rw [hNb]; exact HAT.out.new_ hb2)
    have hsz := hb2.size
    have HNB := hid (show w.heap.size + 2 ≤ Nb by rw [hNb]; exact HWS.out)
    have HCC := hid (show ∀ k, C k → Nb < k ∧ k < w2.heap.size from fun k hk => by have := hC k hk; have := HSZ2.out; omega)
    have HNW := hid (show Nb < w2.heap.size by have := HSZ2.out; omega)
    have HLVB := hid (fun (V : World) (k : Below w.heap.size w V) => (show Lv V w.heap.size A1 L from HL0.out.below k))
    rw [← hNb]
    clear hNb hb2 hC hsz HAT HWS HSZ2 HN2
    have HCF := hid hcf
    have HSQ := hid (hsq 5)
    clear hcf hsq
    refine (wpIn_wide (n := 6)).1 ?_
    refine wpIn_rangeFunc_free (F := Fence.wide) (n := 6) rfl (by omega) (gf := gf) (lb := lb) rfl trivial HCF.out HSQ.out (fun h k => h.trans k) (fun V l o hl j hj => ?kp) (Below.refl _ _) (fun _ => rfl)
      (fun pre V => ((At V Nb #[.int .i64 (pre.length : Int)] 3 ∧ At V (w.heap.size + 1) #[.bool false] 4) ∧ At V w.heap.size #[.int .i64 (h : Int), .slice A1 n c1, .slice E 33 cE] 28) ∧ Below w.heap.size w V ∧ w2.heap.size ≤ V.heap.size)
      (fun _ pre _ => pre.map Fin.val ≠ List.range pre.length)
      (FreeB.and (FreeB.and (FreeB.and (atB_free (f := fun pre : List (Fin L.length) => #[.int .i64 (pre.length : Int)]) HNW.out) (atB_free (f := fun _ => #[.bool false]) ?f1)) (atB_free (f := fun _ => #[.int .i64 (h : Int), .slice A1 n c1, .slice E 33 cE]) ?f2)) (FreeB.and (belowB_free ?bw) (fun _ _ _ hs hg => Nat.le_trans hs hg.size)))
      (fun _ _ _ _ hs _ => hs)
      ⟨⟨⟨H0N.out, HR1.out.new_ HB3.out⟩, HX.out _ HB3.out⟩, HB1.out.trans (HB3.out.mono HB1.out.size), Nat.le_refl _⟩
      (fun x a' V => ∃ Bx, At V Bx (ubs (L[x]).2).toArray 35 ∧ a' = { tmps := #[.pointer (some ⟨b, 0, none⟩), .agg #[.int .i64 (h : Int), .slice A1 n c1, .slice E 33 cE], undef, .pointer (some ⟨w.heap.size, 0, none⟩), .pointer (some ⟨w.heap.size + 1, 0, none⟩), .pointer (some ⟨Nb, 0, none⟩), .int .u64 (((L[x]).1 : Nat) : Int), .pointer (some ⟨Bx, 0, none⟩), vals 0, vals 1, vals 2, vals 3, vals 4, vals 5, vals 6, vals 7, vals 8, vals 9, vals 10, vals 11, vals 12, vals 13, vals 14, vals 15, vals 16, vals 17, vals 18, vals 19, vals 20, vals 21, vals 22, .bool false, .pointer (some ⟨b, 0, none⟩), .func (.func gf) #[] lb, .int .u64 (((L[x]).1 : Nat) : Int), .agg (ubs (L[x]).2).toArray, undef, undef, undef, undef, undef, undef, undef, undef, undef, undef, undef, undef, undef, undef, undef, undef, undef, undef, undef, undef, undef, undef, undef, undef, undef, undef, undef, undef, undef, undef, undef, undef], defers := [] })
      (fun x a' _ X Y row hs hg hr => by obtain ⟨Bx, h2, h3⟩ := hs; exact ⟨Bx, at_own Bx _ (fun (_ : Unit) => (ubs (L[x]).2).toArray) () X Y row h2 hg (fun r e => (hr r e).2), h3⟩)
      ?assign ?body ?done ?stop
    case kp =>
      have hl1 := HB3.out.size
      have hl2 := HB1.out.size
      have hne : j ≠ l := by
        rcases hj with hj | hj
        · have := HIN.out j hj; omega
        · have := (HCC.out j hj).2; omega
      exact World.putObj_heap_other hne
    case f1 => have := HNW.out; have := HNB.out; omega
    case f2 => have := HNW.out; have := HNB.out; omega
    case bw => have := HB1.out.size; have := HB3.out.size; omega
    case assign =>
      rintro l pre x W2 K ⟨⟨⟨hN, hR⟩, hX⟩, hB, hs2⟩ hK
      have hox := HGD.out.ok.get x.isLt
      have HPX := hid (show (ubs (L[x]).2).length = 32 by rw [ubs_length]; exact hox.2)
      have HSX := hid (show (Tryd.prog.info? 35).map (·.size) = some (ubs (L[x]).2).toArray.size from sizeH_of hox.2)
      have hb2 : Below W2.heap.size W2 ((W2.alloc (.cells (ubs n32).toArray 35)).setRow W2.heap.size (ubs (L[x]).2).toArray) := below_setRow ((Below.refl _ _).alloc (Nat.le_refl _) _) (Nat.le_refl _) _
      have HK := hid (hK { tmps := #[.pointer (some ⟨b, 0, none⟩), .agg #[.int .i64 (h : Int), .slice A1 n c1, .slice E 33 cE], undef, .pointer (some ⟨w.heap.size, 0, none⟩), .pointer (some ⟨w.heap.size + 1, 0, none⟩), .pointer (some ⟨Nb, 0, none⟩), .int .u64 (((L[x]).1 : Nat) : Int), .pointer (some ⟨W2.heap.size, 0, none⟩), vals 0, vals 1, vals 2, vals 3, vals 4, vals 5, vals 6, vals 7, vals 8, vals 9, vals 10, vals 11, vals 12, vals 13, vals 14, vals 15, vals 16, vals 17, vals 18, vals 19, vals 20, vals 21, vals 22, .bool false, .pointer (some ⟨b, 0, none⟩), .func (.func gf) #[] lb, .int .u64 (((L[x]).1 : Nat) : Int), .agg (ubs (L[x]).2).toArray, undef, undef, undef, undef, undef, undef, undef, undef, undef, undef, undef, undef, undef, undef, undef, undef, undef, undef, undef, undef, undef, undef, undef, undef, undef, undef, undef, undef, undef, undef, undef, undef], defers := [] } _ (KeepsAll.of_below hb2) (KeepsS.of_below hb2 (fun j hj => by
        have := hB.size
        rcases hj with hj | hj
        · have := HIN.out j hj; omega
        · have := (HCC.out j hj).2; omega)) ⟨⟨⟨hN.new_ hb2, hR.new_ hb2⟩, hX.new_ hb2⟩, hB.trans (hb2.mono hB.size), Nat.le_trans hs2 hb2.size⟩ ⟨W2.heap.size, setRow_heap _ _ (ubs n32).toArray _ _ _ (At.new _ _ _), rfl⟩)
      clear hK hb2 hN hR hX hB hs2 hox
      have hz := noughts32
      simp only [encL9]
      gi_wp2_with (refine wpListIn_store_row rfl _ (.tmp 7) (.tmp 35) rfl W2.heap.size (ubs (L[x]).2).toArray rfl rfl 35 (ubs n32).toArray (At.new _ _ _) HSX.out ?e5 (ubs_all _) ?e6; rotate_right)
      case e5 =>
        rw [ubs_length, n32_length]
        exact HPX.out.symm
      exact HK.out
    case body =>
      rintro l pre x a' W2 hl hr ⟨⟨⟨hN, hR⟩, hX⟩, hB, hs2⟩ ⟨Bx, hBx, rfl⟩ hlt
      have hxl : (x : Nat) < L.length := x.isLt
      have hkl : pre.length < L.length := hlt
      obtain ⟨g, o, eA, hg, hra⟩ := (HLVB.out W2 hB).leaf HGD.out.ok hkl
      have hoq := HGD.out.ok.get hkl
      have hox := HGD.out.ok.get hxl
      obtain ⟨k, hk⟩ : ∃ k, k = pre.length := ⟨_, rfl⟩
      obtain ⟨y, hy⟩ : ∃ y, y = o + k * 33 := ⟨_, rfl⟩
      have hra' : W2.rangeAt g y (lfV L[pre.length]) := by rw [hy, hk, show o + pre.length * 33 = o + 33 * pre.length by omega]; exact hra
      have EX := hid (show o + k * 33 = y from hy.symm)
      have EK := hid (show (k : Int) < (n : Int) by have := HN.out; omega)
      have EKN0 := hid (show k < n by have := HN.out; omega)
      obtain ⟨k1, hk1⟩ : ∃ m, m = k + 1 := ⟨_, rfl⟩
      have EKN := hid (show (k : Int) + 1 = (k1 : Int) by omega)
      have EKW := hid (show IntKind.i64.wrap (k1 : Int) = (k1 : Int) by rw [IntKind.wrap_i64] <;> have := HN.out <;> have := HLE.out <;> omega)
      rw [← hk] at hN
      have QN := hid (fun (V : World) (q : Below W2.heap.size W2 V) => show V.cell? ⟨Nb, 0, none⟩ = some (.int .i64 (k : Int)) by rw [(hN.new_ q).cell]; rfl)
      have QF := hid (fun (V : World) (q : Below W2.heap.size W2 V) => (hN.new_ q).frozen 0)
      have QR := hid (fun (V : World) (q : Below W2.heap.size W2 V) => show V.cell? ⟨w.heap.size + 1, 0, none⟩ = some (.bool false) by rw [(hR.new_ q).cell]; rfl)
      have QRF := hid (fun (V : World) (q : Below W2.heap.size W2 V) => (hR.new_ q).frozen 0)
      have QX := hid (fun (V : World) (q : Below W2.heap.size W2 V) => show V.cell? ⟨w.heap.size, 1, none⟩ = some (.slice (some ⟨g, o, none⟩) n c1) by rw [(hX.new_ q).cell, eA]; rfl)
      have QB := hid (fun (V : World) (q : Below W2.heap.size W2 V) => hBx.new_ q)
      have hgW : g < W2.heap.size := Nat.lt_of_lt_of_le hg hB.size
      have QR0 := hid (fun (V : World) (q : Below W2.heap.size W2 V) => show V.rangeAt g y (lfV L[pre.length]) from fun j z hz => (q.cell (p := ⟨g, y + j, none⟩) hgW).trans (hra' j z hz))
      obtain ⟨v, hv⟩ : ∃ v, v = (L[pre.length]).1 := ⟨_, rfl⟩
      obtain ⟨u, hu⟩ : ∃ u, u = (L[x]).1 := ⟨_, rfl⟩
      obtain ⟨ph, hph⟩ : ∃ p, p = (L[x]).2 := ⟨_, rfl⟩
      have PHL := hid (show ph.length = 32 by rw [hph]; exact hox.2)
      have QI := hid (fun (V : World) (q : Below W2.heap.size W2 V) => show V.cell? ⟨g, y, none⟩ = some (.int .u64 (v : Int)) by rw [hv]; exact leaf_index (QR0.out V q))
      have HX2 := hid hX
      have HN2 := hid hN
      have HR2 := hid hR
      have HB4 := hid hB
      have HS2 := hid hs2
      have HPL := hid hk
      have HK1 := hid hk1
      have HLL := hid hl
      subst eA
      rw [← hph] at QB
      simp only [← hu, ← hph]
      by_cases hin : (x : Nat) = pre.length
      · have huv : u = v := by rw [hu, hv]; simp only [Fin.getElem_fin, hin]
        have hqh : (L[pre.length]).2 = ph := by rw [hph]; simp only [Fin.getElem_fin, hin]
        have QH := hid (fun (V : World) (q : Below W2.heap.size W2 V) => show V.rangeAt g (y + 1) (ubs ph) by rw [← hqh]; exact leaf_hash (QR0.out V q))
        have EU := hid (show ((u : Int) != (v : Int)) = false by rw [huv]; simp)
        have HIN2 := hid hin
        clear hin huv hqh hN hR hX hB hs2 hBx hra hra' hy hk hk1 hlt hl hr hxl hkl hoq hox hg hgW hv hu hph QR0
        gi_wp2
        try simp only [Act.put, List.setIfInBounds_toArray, List.set_cons_succ, List.set_cons_zero]
        refine wpIn_region_facts 25 [36, 37, 38, 39, 40, 41, 42, 43, 44, 45, 46, 47, 48, 49, 50, 51, 52, 53, 54, 55, 56, 57, 58, 59, 60] (fun j z _ => z = isF2 w.heap.size g o y k n u v c1 ph false j) (fun V => Below W2.heap.size W2 V) (by kernel_rfl) (by kernel_rfl)
          (fun V V' h hb => h.trans (hb.mono h.size)) (fun _ _ _ _ h _ => h) ((Below.refl _ _).drew) ?_ ?_
        · intro i hi vl V K hB hn hK
          simp only [frm_cons, frm_nil, List.set_cons_succ, List.set_cons_zero, Nat.reduceAdd] at hK ⊢
          rcases (by omega : i = 0 ∨ i = 1 ∨ i = 2 ∨ i = 3 ∨ i = 4 ∨ i = 5 ∨ i = 6 ∨ i = 7 ∨ i = 8 ∨ i = 9 ∨ i = 10 ∨ i = 11 ∨ i = 12 ∨ i = 13 ∨ i = 14 ∨ i = 15 ∨ i = 16 ∨ i = 17 ∨ i = 18 ∨ i = 19 ∨ i = 20 ∨ i = 21 ∨ i = 22 ∨ i = 23 ∨ i = 24) with rfl | rfl | rfl | rfl | rfl | rfl | rfl | rfl | rfl | rfl | rfl | rfl | rfl | rfl | rfl | rfl | rfl | rfl | rfl | rfl | rfl | rfl | rfl | rfl | rfl
          · have q1 := QN.out V hB
            refine wpOpIn_plain rfl rfl (wpIn_val (w' := V) (v := .int .i64 (k : Int)) (fun c e => by cases e) (by rfl) (by go_simp) ?_)
            exact hK _ _ rfl (Below.refl _ _)
          · refine wpOpIn_plain rfl rfl (wpIn_val (w' := V) (v := .pointer (some ⟨w.heap.size, 1, none⟩)) (fun c e => by cases e) (by rfl) (by go_simp) ?_)
            exact hK _ _ rfl (Below.refl _ _)
          · have h1 := hn 1 (by decide +kernel)
            simp only [isF2] at h1
            simp only [h1] at hK ⊢
            have q1 := QX.out V hB
            refine wpOpIn_plain rfl rfl (wpIn_val (w' := V) (v := .slice (some ⟨g, o, none⟩) n c1) (fun c e => by cases e) (by rfl) (by go_simp) ?_)
            exact hK _ _ rfl (Below.refl _ _)
          · have h2 := hn 2 (by decide +kernel)
            simp only [isF2] at h2
            simp only [h2] at hK ⊢
            refine wpOpIn_plain rfl rfl (wpIn_val (w' := V) (v := .int .i64 (n : Int)) (fun c e => by cases e) (by rfl) (by go_simp) ?_)
            exact hK _ _ rfl (Below.refl _ _)
          · have h0 := hn 0 (by decide +kernel)
            have h3 := hn 3 (by decide +kernel)
            simp only [isF2] at h0 h3
            simp only [h0, h3] at hK ⊢
            refine wpOpIn_plain rfl rfl (wpIn_val (w' := V) (v := .bool false) (fun c e => by cases e) (by rfl) (by go_simp; exact EKN0.out) ?_)
            exact hK _ _ rfl (Below.refl _ _)
          · have h4 := hn 4 (by decide +kernel)
            simp only [isF2] at h4
            simp only [h4] at hK ⊢
            refine wpOpIn_plain rfl rfl (wpIn_val (w' := V) (v := .bool false) (fun c e => by cases e) (by rfl) (by go_simp) ?_)
            exact hK _ _ rfl (Below.refl _ _)
          · have h5 := hn 5 (by decide +kernel)
            simp only [isF2] at h5
            simp only [h5] at hK ⊢
            refine wpOpIn_on rfl (by rfl) (wpIn_val (w' := V) (v := .int .u64 (u : Int)) (fun c e => by cases e) (by rfl) (by go_simp) ?_)
            exact hK _ _ rfl (Below.refl _ _)
          · have h5 := hn 5 (by decide +kernel)
            simp only [isF2] at h5
            simp only [h5] at hK ⊢
            refine wpOpIn_on rfl (by rfl) (wpIn_val (w' := V) (v := .pointer (some ⟨w.heap.size, 1, none⟩)) (fun c e => by cases e) (by rfl) (by go_simp) ?_)
            exact hK _ _ rfl (Below.refl _ _)
          · have h5 := hn 5 (by decide +kernel)
            have h7 := hn 7 (by decide +kernel)
            simp only [isF2] at h5 h7
            simp only [h5, h7] at hK ⊢
            have q1 := QX.out V hB
            refine wpOpIn_on rfl (by rfl) (wpIn_val (w' := V) (v := .slice (some ⟨g, o, none⟩) n c1) (fun c e => by cases e) (by rfl) (by go_simp) ?_)
            exact hK _ _ rfl (Below.refl _ _)
          · have h5 := hn 5 (by decide +kernel)
            simp only [isF2] at h5
            simp only [h5] at hK ⊢
            have q1 := QN.out V hB
            refine wpOpIn_on rfl (by rfl) (wpIn_val (w' := V) (v := .int .i64 (k : Int)) (fun c e => by cases e) (by rfl) (by go_simp) ?_)
            exact hK _ _ rfl (Below.refl _ _)
          · have h5 := hn 5 (by decide +kernel)
            have h8 := hn 8 (by decide +kernel)
            have h9 := hn 9 (by decide +kernel)
            simp only [isF2] at h5 h8 h9
            simp only [h5, h8, h9] at hK ⊢
            have x1 := EX.out
            have x2 := EK.out
            refine wpOpIn_on rfl (by rfl) (wpIn_val (w' := V) (v := .pointer (some ⟨g, y, none⟩)) (fun c e => by cases e) (by rfl) (by go_simp) ?_)
            exact hK _ _ rfl (Below.refl _ _)
          · have h5 := hn 5 (by decide +kernel)
            have h10 := hn 10 (by decide +kernel)
            simp only [isF2] at h5 h10
            simp only [h5, h10] at hK ⊢
            refine wpOpIn_on rfl (by rfl) (wpIn_val (w' := V) (v := .pointer (some ⟨g, y, none⟩)) (fun c e => by cases e) (by rfl) (by go_simp) ?_)
            exact hK _ _ rfl (Below.refl _ _)
          · have h5 := hn 5 (by decide +kernel)
            have h11 := hn 11 (by decide +kernel)
            simp only [isF2] at h5 h11
            simp only [h5, h11] at hK ⊢
            have q1 := QI.out V hB
            refine wpOpIn_on rfl (by rfl) (wpIn_val (w' := V) (v := .int .u64 (v : Int)) (fun c e => by cases e) (by rfl) (by go_simp) ?_)
            exact hK _ _ rfl (Below.refl _ _)
          · have h5 := hn 5 (by decide +kernel)
            have h6 := hn 6 (by decide +kernel)
            have h12 := hn 12 (by decide +kernel)
            simp only [isF2] at h5 h6 h12
            simp only [h5, h6, h12] at hK ⊢
            have x1 := EU.out
            refine wpOpIn_on rfl (by rfl) (wpIn_val (w' := V) (v := .bool false) (fun c e => by cases e) (by rfl) (by go_simp) ?_)
            exact hK _ _ rfl (Below.refl _ _)
          · have h5 := hn 5 (by decide +kernel)
            have h13 := hn 13 (by decide +kernel)
            simp only [isF2] at h5 h13
            simp only [h5, h13] at hK ⊢
            refine wpOpIn_plain rfl rfl (wpIn_val (w' := V) (v := .bool false) (fun c e => by cases e) (by rfl) (by go_simp) ?_)
            exact hK _ _ rfl (Below.refl _ _)
          · have h14 := hn 14 (by decide +kernel)
            simp only [isF2] at h14
            simp only [h14] at hK ⊢
            refine wpOpIn_plain rfl rfl (wpIn_val (w' := V) (v := .bool false) (fun c e => by cases e) (by rfl) (by go_simp) ?_)
            exact hK _ _ rfl (Below.refl _ _)
          · have h15 := hn 15 (by decide +kernel)
            simp only [isF2] at h15
            simp only [h15] at hK ⊢
            refine wpOpIn_on rfl (by rfl) (wpIn_val (fun c e => by cases e) (by rfl) (run_loadH (.tmp 7) rfl Bx 0 rfl ph (range_whole (QB.out V hB)) PHL.out) ?_)
            exact hK _ _ rfl (Below.refl _ _)
          · have h15 := hn 15 (by decide +kernel)
            simp only [isF2] at h15
            simp only [h15] at hK ⊢
            refine wpOpIn_on rfl (by rfl) (wpIn_val (w' := V) (v := .pointer (some ⟨w.heap.size, 1, none⟩)) (fun c e => by cases e) (by rfl) (by go_simp) ?_)
            exact hK _ _ rfl (Below.refl _ _)
          · have h15 := hn 15 (by decide +kernel)
            have h17 := hn 17 (by decide +kernel)
            simp only [isF2] at h15 h17
            simp only [h15, h17] at hK ⊢
            have q1 := QX.out V hB
            refine wpOpIn_on rfl (by rfl) (wpIn_val (w' := V) (v := .slice (some ⟨g, o, none⟩) n c1) (fun c e => by cases e) (by rfl) (by go_simp) ?_)
            exact hK _ _ rfl (Below.refl _ _)
          · have h15 := hn 15 (by decide +kernel)
            simp only [isF2] at h15
            simp only [h15] at hK ⊢
            have q1 := QN.out V hB
            refine wpOpIn_on rfl (by rfl) (wpIn_val (w' := V) (v := .int .i64 (k : Int)) (fun c e => by cases e) (by rfl) (by go_simp) ?_)
            exact hK _ _ rfl (Below.refl _ _)
          · have h15 := hn 15 (by decide +kernel)
            have h18 := hn 18 (by decide +kernel)
            have h19 := hn 19 (by decide +kernel)
            simp only [isF2] at h15 h18 h19
            simp only [h15, h18, h19] at hK ⊢
            have x1 := EX.out
            have x2 := EK.out
            refine wpOpIn_on rfl (by rfl) (wpIn_val (w' := V) (v := .pointer (some ⟨g, y, none⟩)) (fun c e => by cases e) (by rfl) (by go_simp) ?_)
            exact hK _ _ rfl (Below.refl _ _)
          · have h15 := hn 15 (by decide +kernel)
            have h20 := hn 20 (by decide +kernel)
            simp only [isF2] at h15 h20
            simp only [h15, h20] at hK ⊢
            refine wpOpIn_on rfl (by rfl) (wpIn_val (w' := V) (v := .pointer (some ⟨g, y + 1, none⟩)) (fun c e => by cases e) (by rfl) (by go_simp) ?_)
            exact hK _ _ rfl (Below.refl _ _)
          · have h15 := hn 15 (by decide +kernel)
            have h21 := hn 21 (by decide +kernel)
            simp only [isF2] at h15 h21
            simp only [h15, h21] at hK ⊢
            refine wpOpIn_on rfl (by rfl) (wpIn_val (fun c e => by cases e) (by rfl) (run_loadH (.tmp 57) rfl g (y + 1) rfl ph (QH.out V hB) PHL.out) ?_)
            exact hK _ _ rfl (Below.refl _ _)
          · have h15 := hn 15 (by decide +kernel)
            have h16 := hn 16 (by decide +kernel)
            have h22 := hn 22 (by decide +kernel)
            simp only [isF2] at h15 h16 h22
            simp only [h15, h16, h22] at hK ⊢
            refine wpOpIn_on rfl (by rfl) (wpIn_val (fun c e => by cases e) (by rfl) (run_neqH _ (.tmp 52) (.tmp 58) rfl ph ph PHL.out PHL.out rfl rfl false (by simp) V) ?_)
            exact hK _ _ rfl (Below.refl _ _)
          · have h15 := hn 15 (by decide +kernel)
            have h23 := hn 23 (by decide +kernel)
            simp only [isF2] at h15 h23
            simp only [h15, h23] at hK ⊢
            refine wpOpIn_plain rfl rfl (wpIn_val (w' := V) (v := .bool false) (fun c e => by cases e) (by rfl) (by go_simp) ?_)
            exact hK _ _ rfl (Below.refl _ _)
        · intro vl V hB hF
          have h24 := hF 24 (by omega)
          simp only [isF2] at h24
          simp only [frm_cons, frm_nil, List.set_cons_succ, List.set_cons_zero, Nat.reduceAdd, h24]
          refine ⟨by decide +kernel, ?_⟩
          have HBV := hid hB
          have q1 := QN.out V hB
          have f1 := QF.out V hB
          have x1 := EKN.out
          have x3 := EKW.out
          clear hB hF h24
          gi_wp2
          have hsz := HB4.out.size
          have hsv := HBV.out.size
          have hs2 := HS2.out
          have hnb := HNB.out
          refine ⟨(KeepsAll.of_below HBV.out).trans (KeepsAll.setCell _ _ _ HNW.out), fun j hj => ?_, ⟨⟨?_, (HR2.out.new_ HBV.out).far (p := ⟨Nb, 0, none⟩) (by simp; omega) _⟩, (HX2.out.new_ HBV.out).far (p := ⟨Nb, 0, none⟩) (by simp; omega) _⟩, (HB4.out.trans (HBV.out.mono hsz)).setCell (by simp; omega) _, by simp [World.setCell]; omega⟩
          · have hj2 : j ≠ Nb ∧ j < W2.heap.size := by
              rcases hj with hj | hj
              · have := HIN.out j hj; omega
              · have := HCC.out j hj; omega
            exact (Below.heap_setCell V ⟨Nb, 0, none⟩ _ j hj2.1).trans (HBV.out.block j hj2.2)
          · have hl1 : (((pre ++ [x]).length : Nat) : Int) = (k1 : Int) := by have := HPL.out; have := HK1.out; simp; omega
            rw [hl1]
            exact (HN2.out.new_ HBV.out).put 0 _
      · have hne : u ≠ v := by
          rw [hu, hv]
          exact srt_ne HGD.out.ord x.isLt hkl hin
        have EU := hid (show ((u : Int) != (v : Int)) = true by simp; omega)
        have HIN2 := hid hin
        clear hin hne hN hR hX hB hs2 hBx hra hra' hy hk hk1 hlt hl hr hxl hkl hoq hox hg hgW hv hu hph QR0
        gi_wp2
        try simp only [Act.put, List.setIfInBounds_toArray, List.set_cons_succ, List.set_cons_zero]
        refine wpIn_region_facts 25 [36, 37, 38, 39, 40, 41, 42, 43, 44, 45, 46, 47, 48, 49, 50, 51, 52, 53, 54, 55, 56, 57, 58, 59, 60] (fun j z _ => z = isF2 w.heap.size g o y k n u v c1 ph true j) (fun V => Below W2.heap.size W2 V) (by kernel_rfl) (by kernel_rfl)
          (fun V V' h hb => h.trans (hb.mono h.size)) (fun _ _ _ _ h _ => h) ((Below.refl _ _).drew) ?_ ?_
        · intro i hi vl V K hB hn hK
          simp only [frm_cons, frm_nil, List.set_cons_succ, List.set_cons_zero, Nat.reduceAdd] at hK ⊢
          rcases (by omega : i = 0 ∨ i = 1 ∨ i = 2 ∨ i = 3 ∨ i = 4 ∨ i = 5 ∨ i = 6 ∨ i = 7 ∨ i = 8 ∨ i = 9 ∨ i = 10 ∨ i = 11 ∨ i = 12 ∨ i = 13 ∨ i = 14 ∨ i = 15 ∨ i = 16 ∨ i = 17 ∨ i = 18 ∨ i = 19 ∨ i = 20 ∨ i = 21 ∨ i = 22 ∨ i = 23 ∨ i = 24) with rfl | rfl | rfl | rfl | rfl | rfl | rfl | rfl | rfl | rfl | rfl | rfl | rfl | rfl | rfl | rfl | rfl | rfl | rfl | rfl | rfl | rfl | rfl | rfl | rfl
          · have q1 := QN.out V hB
            refine wpOpIn_plain rfl rfl (wpIn_val (w' := V) (v := .int .i64 (k : Int)) (fun c e => by cases e) (by rfl) (by go_simp) ?_)
            exact hK _ _ rfl (Below.refl _ _)
          · refine wpOpIn_plain rfl rfl (wpIn_val (w' := V) (v := .pointer (some ⟨w.heap.size, 1, none⟩)) (fun c e => by cases e) (by rfl) (by go_simp) ?_)
            exact hK _ _ rfl (Below.refl _ _)
          · have h1 := hn 1 (by decide +kernel)
            simp only [isF2] at h1
            simp only [h1] at hK ⊢
            have q1 := QX.out V hB
            refine wpOpIn_plain rfl rfl (wpIn_val (w' := V) (v := .slice (some ⟨g, o, none⟩) n c1) (fun c e => by cases e) (by rfl) (by go_simp) ?_)
            exact hK _ _ rfl (Below.refl _ _)
          · have h2 := hn 2 (by decide +kernel)
            simp only [isF2] at h2
            simp only [h2] at hK ⊢
            refine wpOpIn_plain rfl rfl (wpIn_val (w' := V) (v := .int .i64 (n : Int)) (fun c e => by cases e) (by rfl) (by go_simp) ?_)
            exact hK _ _ rfl (Below.refl _ _)
          · have h0 := hn 0 (by decide +kernel)
            have h3 := hn 3 (by decide +kernel)
            simp only [isF2] at h0 h3
            simp only [h0, h3] at hK ⊢
            refine wpOpIn_plain rfl rfl (wpIn_val (w' := V) (v := .bool false) (fun c e => by cases e) (by rfl) (by go_simp; exact EKN0.out) ?_)
            exact hK _ _ rfl (Below.refl _ _)
          · have h4 := hn 4 (by decide +kernel)
            simp only [isF2] at h4
            simp only [h4] at hK ⊢
            refine wpOpIn_plain rfl rfl (wpIn_val (w' := V) (v := .bool false) (fun c e => by cases e) (by rfl) (by go_simp) ?_)
            exact hK _ _ rfl (Below.refl _ _)
          · have h5 := hn 5 (by decide +kernel)
            simp only [isF2] at h5
            simp only [h5] at hK ⊢
            refine wpOpIn_on rfl (by rfl) (wpIn_val (w' := V) (v := .int .u64 (u : Int)) (fun c e => by cases e) (by rfl) (by go_simp) ?_)
            exact hK _ _ rfl (Below.refl _ _)
          · have h5 := hn 5 (by decide +kernel)
            simp only [isF2] at h5
            simp only [h5] at hK ⊢
            refine wpOpIn_on rfl (by rfl) (wpIn_val (w' := V) (v := .pointer (some ⟨w.heap.size, 1, none⟩)) (fun c e => by cases e) (by rfl) (by go_simp) ?_)
            exact hK _ _ rfl (Below.refl _ _)
          · have h5 := hn 5 (by decide +kernel)
            have h7 := hn 7 (by decide +kernel)
            simp only [isF2] at h5 h7
            simp only [h5, h7] at hK ⊢
            have q1 := QX.out V hB
            refine wpOpIn_on rfl (by rfl) (wpIn_val (w' := V) (v := .slice (some ⟨g, o, none⟩) n c1) (fun c e => by cases e) (by rfl) (by go_simp) ?_)
            exact hK _ _ rfl (Below.refl _ _)
          · have h5 := hn 5 (by decide +kernel)
            simp only [isF2] at h5
            simp only [h5] at hK ⊢
            have q1 := QN.out V hB
            refine wpOpIn_on rfl (by rfl) (wpIn_val (w' := V) (v := .int .i64 (k : Int)) (fun c e => by cases e) (by rfl) (by go_simp) ?_)
            exact hK _ _ rfl (Below.refl _ _)
          · have h5 := hn 5 (by decide +kernel)
            have h8 := hn 8 (by decide +kernel)
            have h9 := hn 9 (by decide +kernel)
            simp only [isF2] at h5 h8 h9
            simp only [h5, h8, h9] at hK ⊢
            have x1 := EX.out
            have x2 := EK.out
            refine wpOpIn_on rfl (by rfl) (wpIn_val (w' := V) (v := .pointer (some ⟨g, y, none⟩)) (fun c e => by cases e) (by rfl) (by go_simp) ?_)
            exact hK _ _ rfl (Below.refl _ _)
          · have h5 := hn 5 (by decide +kernel)
            have h10 := hn 10 (by decide +kernel)
            simp only [isF2] at h5 h10
            simp only [h5, h10] at hK ⊢
            refine wpOpIn_on rfl (by rfl) (wpIn_val (w' := V) (v := .pointer (some ⟨g, y, none⟩)) (fun c e => by cases e) (by rfl) (by go_simp) ?_)
            exact hK _ _ rfl (Below.refl _ _)
          · have h5 := hn 5 (by decide +kernel)
            have h11 := hn 11 (by decide +kernel)
            simp only [isF2] at h5 h11
            simp only [h5, h11] at hK ⊢
            have q1 := QI.out V hB
            refine wpOpIn_on rfl (by rfl) (wpIn_val (w' := V) (v := .int .u64 (v : Int)) (fun c e => by cases e) (by rfl) (by go_simp) ?_)
            exact hK _ _ rfl (Below.refl _ _)
          · have h5 := hn 5 (by decide +kernel)
            have h6 := hn 6 (by decide +kernel)
            have h12 := hn 12 (by decide +kernel)
            simp only [isF2] at h5 h6 h12
            simp only [h5, h6, h12] at hK ⊢
            have x1 := EU.out
            refine wpOpIn_on rfl (by rfl) (wpIn_val (w' := V) (v := .bool true) (fun c e => by cases e) (by rfl) (by go_simp) ?_)
            exact hK _ _ rfl (Below.refl _ _)
          · have h5 := hn 5 (by decide +kernel)
            have h13 := hn 13 (by decide +kernel)
            simp only [isF2] at h5 h13
            simp only [h5, h13] at hK ⊢
            refine wpOpIn_plain rfl rfl (wpIn_val (w' := V) (v := .bool true) (fun c e => by cases e) (by rfl) (by go_simp) ?_)
            exact hK _ _ rfl (Below.refl _ _)
          · have h14 := hn 14 (by decide +kernel)
            simp only [isF2] at h14
            simp only [h14] at hK ⊢
            refine wpOpIn_plain rfl rfl (wpIn_val (w' := V) (v := .bool true) (fun c e => by cases e) (by rfl) (by go_simp) ?_)
            exact hK _ _ rfl (Below.refl _ _)
          · have h15 := hn 15 (by decide +kernel)
            simp only [isF2] at h15
            simp only [h15] at hK ⊢
            refine wpOpIn_off rfl (by rfl) (by rfl) ?_
            exact hK _ _ rfl (Below.refl _ _)
          · have h15 := hn 15 (by decide +kernel)
            simp only [isF2] at h15
            simp only [h15] at hK ⊢
            refine wpOpIn_off rfl (by rfl) (by rfl) ?_
            exact hK _ _ rfl (Below.refl _ _)
          · have h15 := hn 15 (by decide +kernel)
            simp only [isF2] at h15
            simp only [h15] at hK ⊢
            refine wpOpIn_off rfl (by rfl) (by rfl) ?_
            exact hK _ _ rfl (Below.refl _ _)
          · have h15 := hn 15 (by decide +kernel)
            simp only [isF2] at h15
            simp only [h15] at hK ⊢
            refine wpOpIn_off rfl (by rfl) (by rfl) ?_
            exact hK _ _ rfl (Below.refl _ _)
          · have h15 := hn 15 (by decide +kernel)
            simp only [isF2] at h15
            simp only [h15] at hK ⊢
            refine wpOpIn_off rfl (by rfl) (by rfl) ?_
            exact hK _ _ rfl (Below.refl _ _)
          · have h15 := hn 15 (by decide +kernel)
            simp only [isF2] at h15
            simp only [h15] at hK ⊢
            refine wpOpIn_off rfl (by rfl) (by rfl) ?_
            exact hK _ _ rfl (Below.refl _ _)
          · have h15 := hn 15 (by decide +kernel)
            simp only [isF2] at h15
            simp only [h15] at hK ⊢
            refine wpOpIn_off rfl (by rfl) (by rfl) ?_
            exact hK _ _ rfl (Below.refl _ _)
          · have h15 := hn 15 (by decide +kernel)
            simp only [isF2] at h15
            simp only [h15] at hK ⊢
            refine wpOpIn_off rfl (by rfl) (by rfl) ?_
            exact hK _ _ rfl (Below.refl _ _)
          · have h15 := hn 15 (by decide +kernel)
            simp only [isF2] at h15
            simp only [h15] at hK ⊢
            refine wpOpIn_plain rfl rfl (wpIn_val (w' := V) (v := .bool true) (fun c e => by cases e) (by rfl) (by go_simp) ?_)
            exact hK _ _ rfl (Below.refl _ _)
        · intro vl V hB hF
          have h24 := hF 24 (by omega)
          simp only [isF2] at h24
          simp only [frm_cons, frm_nil, List.set_cons_succ, List.set_cons_zero, Nat.reduceAdd, h24]
          refine ⟨by decide +kernel, ?_⟩
          have HBV := hid hB
          have q1 := QR.out V hB
          have f1 := QRF.out V hB
          clear hB hF h24
          gi_wp2
          refine ⟨(KeepsAll.of_below HBV.out).trans (KeepsAll.setCell _ _ _ (show w.heap.size + 1 < w2.heap.size by have := HNW.out; have := HNB.out; omega)), fun e => ?_⟩
          have e2 := congrArg (fun z => z[pre.length]?) e
          simp at e2
          exact HIN2.out e2
    case done =>
      rintro D xs V hD hxs ⟨⟨⟨hN, hR⟩, hX⟩, hB, hs2⟩ hK
      have hxl : xs.length = n := by have := congrArg List.length hxs; rw [List.length_map, List.length_range] at this; rw [this, HN.out]
      rw [hxl] at hN
      have q0 := hN.cell 0
      have q1 := hX.cell 1
      have q2 := hR.frozen 0
      have q3 := hR.cell 0
      simp at q0 q1 q3
      have HR5 := hid hR
      have HB5 := hid hB
      have HK5 := hid hK
      have hDn : w.heap.size + 1 < D := by have := HB3.out.size; have := HZ.out; omega
      have HD5 := hid hDn
      clear hN hX hR hB hK hxs hD hs2 hxl hDn
      go_wp2
      have hA1 := HR5.out.put 0 (.bool true)
      have hDn := HD5.out
      refine ⟨by simp, .inl ⟨_, _, rfl, run_takeDeferred ((Below.heap_setCell V ⟨w.heap.size + 1, 0, none⟩ (.bool true) D (by simp; omega)).trans HK5.out), ?_⟩⟩
      have hgr := grownBy_putObj' (V.setCell ⟨w.heap.size + 1, 0, none⟩ (.bool true)) D (.deferred none)
      have hA2 : At ((V.setCell ⟨w.heap.size + 1, 0, none⟩ (.bool true)).putObj D (.deferred none)) (w.heap.size + 1) #[.bool true] 4 := (hgr.block _ hA1.lt (by simp; omega)).trans hA1
      have q5 := hA2.cell 0
      refine ⟨_, results_one9 rfl _ _ ⟨w.heap.size + 1, 0, none⟩ (.bool true) rfl (by clear q0 q1 q2 q3; go_simp), rfl, ?_⟩
      exact (HB5.out.setCell (by simp) _).grown hgr (by have := HB5.out.size; simp [World.setCell]; omega) (fun k e => by cases e; omega)
    case stop =>
      rintro D c pre V hD hs hx
      exact absurd hs hx
end Go.Proofs.YthkbmpocfpbkoaaDoor
