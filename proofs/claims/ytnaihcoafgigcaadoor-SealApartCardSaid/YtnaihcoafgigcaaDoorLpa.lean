/-
  SealApart, walked.
-/
import Derived.Test.YtnaihcoafgigcaaDoorUp
namespace Go.Proofs.YtnaihcoafgigcaaDoor
open Go.RowKit

/-- What holds in the law: the key, the places, what was sealed. -/
structure SaW (w : World) (key : List UInt8) (i e j f : Nat) (L : List (Nat × List Value)) (W : World) : Prop where
  k : At W w.heap.size (ubs key).toArray 23
  p : At W (w.heap.size + 1) (pl4 i e j f).toArray 52
  xs : ∀ q ∈ L, At W q.1 q.2.toArray 31
  below : Below w.heap.size w W
section
variable {w W W' : World} {key : List UInt8} {i e j f : Nat} {L : List (Nat × List Value)}
theorem SaW.new (h : SaW w key i e j f L W) (hb : Below W.heap.size W W') : SaW w key i e j f L W' := ⟨h.k.new_ hb, h.p.new_ hb, fun q hq => (h.xs q hq).new_ hb, h.below.trans (hb.mono h.below.size)⟩
theorem SaW.drew (h : SaW w key i e j f L W) : SaW w key i e j f L W.drew := ⟨h.k, h.p, h.xs, h.below.drew⟩
theorem SaW.start (w : World) (key : List UInt8) (i e j f : Nat) : SaW w key i e j f [] ((w.alloc (.cells (ubs key).toArray 23)).alloc (.cells #[.int .u64 (i : Int), .int .u64 (e : Int), .int .u64 (j : Int), .int .u64 (f : Int)] 52)) :=
  ⟨(At.new _ _ _).alloc _, At.new_at (by simp), (fun _ h => nomatch h), ((Below.refl w.heap.size w).alloc (Nat.le_refl _) _).alloc (by simp) _⟩
theorem SaW.add (h : SaW w key i e j f L W) (x : List Value) : SaW w key i e j f ((W.heap.size, x) :: L) ((W.alloc (.cells (sv 0 n32 n16).toArray 31)).setRow W.heap.size x.toArray) :=
  have hb := ps_stored_below W x
  ⟨h.k.new_ hb, h.p.new_ hb, fun q hq => (List.mem_cons.1 hq).elim (fun e => e ▸ ps_stored W x) (fun hq => (h.xs q hq).new_ hb), h.below.trans (hb.mono h.below.size)⟩
end
/-- What the law's last region yields. -/
def paF (A X Y : Nat) (i e j f : Nat) (x y : List Value) (d d' : List UInt8) (p : Bool) : Nat → Value
  | 0 => .pointer (some ⟨X, 1, none⟩)
  | 1 => .agg (ubs d).toArray
  | 2 => .pointer (some ⟨Y, 1, none⟩)
  | 3 => .agg (ubs d').toArray
  | 4 => .bool p
  | 5 => .pointer (some ⟨A, 0, none⟩)
  | 6 => .agg #[.int .u64 (i : Int), .int .u64 (e : Int)]
  | 7 => .pointer (some ⟨A, 2, none⟩)
  | 8 => .agg #[.int .u64 (j : Int), .int .u64 (f : Int)]
  | 9 => .bool p
  | 12 => .agg x.toArray
  | 13 => .agg y.toArray
  | 14 => .bool p
  | 15 => .pointer (some ⟨A, 0, none⟩)
  | 16 => .agg #[.int .u64 (i : Int), .int .u64 (e : Int)]
  | 17 => .pointer (some ⟨A, 2, none⟩)
  | 18 => .agg #[.int .u64 (j : Int), .int .u64 (f : Int)]
  | 19 => .bool p
  | _ => .bool true
set_option maxRecDepth 100000 in
set_option maxHeartbeats 4000000 in
theorem sealApart_law (key : List UInt8) (i e j f : Nat) (w : World) (hk : key.length = 16) (he : e < 18446744073709551616) (hf : f < 18446744073709551616) (hT : Tabs w) :
    Calls Tryd.prog 6 #[.agg (ubs key).toArray, .agg #[.int .u64 (i : Int), .int .u64 (e : Int), .int .u64 (j : Int), .int .u64 (f : Int)]] w fun r w' => r = .returned (.bool true) ∧ Below w.heap.size w w' := by
  have HAL := hid (fun (W : World) (h : Below w.heap.size w W) => alive7_any W (hT.below h))
  have HN := hid (fun (W : World) (h : Below w.heap.size w W) => pnew_any key W hk (hT.below h))
  have H0 := hid (SaW.start w key i e j f)
  have HAS := hid (fun (o : Oper) (a : Go.Act) (W : World) (h : o.op = .alloc 31) => run_alloc_of (o := o) (a := a) (W := W) _ h _ zeroPs)
  have HZ0 := hid (sv_length 0 n32 n16 n32_length n16_length)
  have HZA := hid (sv_all 0 n32 n16)
  have HZK := hid (show (Tryd.prog.info? 23).map (·.size) = some (ubs key).toArray.size from sizeKey_of hk)
  clear hk
  cases hr1 : rightB i e with
  | false =>
    have HS1 := hid (fun (W : World) (S : Nat) (hs : SlA W key S) (h : Below w.heap.size w W) => pseal_no (b := n32) hr1 n32_length he hs (hT.below h))
    have HS2 := hid (fun (W : World) (S : Nat) (hs : SlA W key S) (h : Below w.heap.size w W) => pseal_any key n32 j f (some ⟨S, 0, none⟩) W n32_length hf (Or.inr ⟨S, rfl, hs⟩) (hT.below h))
    obtain ⟨f1, d2, t2, hx2, hd2, ht2⟩ := sealL_form key j f n32 n32_length
    rw [hx2] at HS2
    generalize errV (if rightB j f = true then 0 else 1) = E2 at HS2
    have HYL := hid (sv_length f1 d2 t2 hd2 ht2)
    have HYA := hid (sv_all f1 d2 t2)
    generalize sv f1 d2 t2 = y at HS2 HYL HYA
    have HXL := hid HZ0.out
    have HXA := hid HZA.out
    generalize hx0 : sv 0 n32 n16 = x at HS1 HXL HXA
    clear he hf hT hr1 hx2 hd2 ht2
    go_enter Tryd.func6, Tryd.ntmps6
    go_wp2_with (first
      | (go_at_call 7; refine (HAL.out _ H0.out.below).mono ?_; rintro r1 w1 ⟨rfl, hb1⟩; have H1 := hid (H0.out.new hb1); clear hb1)
      | (refine wpList_load_row rfl _ (.tmp 2) rfl w.heap.size rfl 23 (ubs key).toArray (0, 0) _ H1.out.k Tryd.underlying23 rfl HZK.out ?_)
      | (go_at_call 8; refine (HN.out w1 H1.out.below).mono ?_; rintro r2 w2 ⟨S, rfl, hs2, hb2⟩; have H2 := hid (H1.out.new hb2); have S2 := hid hs2; have q0 := pl4_q0 H2.out.p; have q1 := pl4_q1 H2.out.p; clear hb2 hs2)
      | (refine wpList_valW (by rfl) (run_build_block0 rfl) ?_)
      | (refine Great.wpList_allocTo rfl _ rfl _ _ (HAS.out _ _ _ rfl) ?_)
      | (go_at_call 9; (with_reducible refine (HS1.out w2 S S2.out H2.out.below).mono ?_); rintro r3 w3 ⟨rfl, hb3⟩; have H3 := hid (H2.out.new hb3); have S3 := hid (S2.out.new hb3); clear hb3)
      | (refine wpList_store_row rfl _ (.tmp 6) (.tmp 24) rfl w3.heap.size x.toArray rfl rfl 31 (sv 0 n32 n16).toArray (heap_alloc_new _ _) (sizePs_of HXL.out) ?e5a HXA.out ?e6a; rotate_right; have H4 := hid (H3.out.add x); have S4 := hid (S3.out.new (ps_stored_below w3 x)); generalize ((w3.alloc (.cells (sv 0 n32 n16).toArray 31)).setRow w3.heap.size x.toArray) = w4 at H4 S4 ⊢; generalize w3.heap.size = X at H4 ⊢; have q2 := pl4_q2 H4.out.p; have q3 := pl4_q3 H4.out.p)
      | (go_at_call 9; (with_reducible refine (HS2.out w4 S S4.out H4.out.below).mono ?_); rintro r5 w5 ⟨rfl, hb5⟩; have H5 := hid (H4.out.new hb5); clear hb5)
      | (refine wpList_store_row rfl _ (.tmp 8) (.tmp 36) rfl w5.heap.size y.toArray rfl rfl 31 (sv 0 n32 n16).toArray (heap_alloc_new _ _) (sizePs_of HYL.out) ?e7a HYA.out ?e8a; rotate_right; have H6 := hid (H5.out.add y); generalize ((w5.alloc (.cells (sv 0 n32 n16).toArray 31)).setRow w5.heap.size y.toArray) = w6 at H6 ⊢; generalize w5.heap.size = Y at H6 ⊢))
    case e5a => simp [HZ0.out, HXL.out]
    case e7a => simp [HZ0.out, HYL.out]
    go_ret
    exact ⟨rfl, H6.out.below⟩
  | true =>
    have HS1 := hid (fun (W : World) (S : Nat) (hs : SlA W key S) (h : Below w.heap.size w W) => pseal_ok (b := n32) hr1 n32_length he hs (hT.below h))
    have HD1 := hid (show (turnedL key i e n32).length = 32 by rw [turnedL_length, n32_length])
    have HT1 := hid (tagL_length key i e (turnedL key i e n32))
    cases hr2 : rightB j f with
    | false =>
      have HS2 := hid (fun (W : World) (S : Nat) (hs : SlA W key S) (h : Below w.heap.size w W) => pseal_no (b := n32) hr2 n32_length hf hs (hT.below h))
      have HXL := hid (sv_length e (turnedL key i e n32) (tagL key i e (turnedL key i e n32)) HD1.out HT1.out)
      have HXA := hid (sv_all e (turnedL key i e n32) (tagL key i e (turnedL key i e n32)))
      generalize sv e (turnedL key i e n32) (tagL key i e (turnedL key i e n32)) = x at HS1 HXL HXA
      have HYL := hid HZ0.out
      have HYA := hid HZA.out
      generalize hy0 : sv 0 n32 n16 = y at HS2 HYL HYA
      clear he hf hT hr1 hr2
      go_enter Tryd.func6, Tryd.ntmps6
      go_wp2_with (first
        | (go_at_call 7; refine (HAL.out _ H0.out.below).mono ?_; rintro r1 w1 ⟨rfl, hb1⟩; have H1 := hid (H0.out.new hb1); clear hb1)
        | (refine wpList_load_row rfl _ (.tmp 2) rfl w.heap.size rfl 23 (ubs key).toArray (0, 0) _ H1.out.k Tryd.underlying23 rfl HZK.out ?_)
        | (go_at_call 8; refine (HN.out w1 H1.out.below).mono ?_; rintro r2 w2 ⟨S, rfl, hs2, hb2⟩; have H2 := hid (H1.out.new hb2); have S2 := hid hs2; have q0 := pl4_q0 H2.out.p; have q1 := pl4_q1 H2.out.p; clear hb2 hs2)
        | (refine wpList_valW (by rfl) (run_build_block0 rfl) ?_)
        | (refine Great.wpList_allocTo rfl _ rfl _ _ (HAS.out _ _ _ rfl) ?_)
        | (go_at_call 9; (with_reducible refine (HS1.out w2 S S2.out H2.out.below).mono ?_); rintro r3 w3 ⟨rfl, hb3⟩; have H3 := hid (H2.out.new hb3); have S3 := hid (S2.out.new hb3); clear hb3)
        | (refine wpList_store_row rfl _ (.tmp 6) (.tmp 24) rfl w3.heap.size x.toArray rfl rfl 31 (sv 0 n32 n16).toArray (heap_alloc_new _ _) (sizePs_of HXL.out) ?e5b HXA.out ?e6b; rotate_right; have H4 := hid (H3.out.add x); have S4 := hid (S3.out.new (ps_stored_below w3 x)); generalize ((w3.alloc (.cells (sv 0 n32 n16).toArray 31)).setRow w3.heap.size x.toArray) = w4 at H4 S4 ⊢; generalize w3.heap.size = X at H4 ⊢; have q2 := pl4_q2 H4.out.p; have q3 := pl4_q3 H4.out.p)
        | (go_at_call 9; (with_reducible refine (HS2.out w4 S S4.out H4.out.below).mono ?_); rintro r5 w5 ⟨rfl, hb5⟩; have H5 := hid (H4.out.new hb5); clear hb5)
        | (refine wpList_store_row rfl _ (.tmp 8) (.tmp 36) rfl w5.heap.size y.toArray rfl rfl 31 (sv 0 n32 n16).toArray (heap_alloc_new _ _) (sizePs_of HYL.out) ?e7b HYA.out ?e8b; rotate_right; have H6 := hid (H5.out.add y); generalize ((w5.alloc (.cells (sv 0 n32 n16).toArray 31)).setRow w5.heap.size y.toArray) = w6 at H6 ⊢; generalize w5.heap.size = Y at H6 ⊢))
      case e5b => simp [HZ0.out, HXL.out]
      case e7b => simp [HZ0.out, HYL.out]
      go_ret
      exact ⟨rfl, H6.out.below⟩
    | true =>
      have HS2 := hid (fun (W : World) (S : Nat) (hs : SlA W key S) (h : Below w.heap.size w W) => pseal_ok (b := n32) hr2 n32_length hf hs (hT.below h))
      have HD2 := hid (show (turnedL key j f n32).length = 32 by rw [turnedL_length, n32_length])
      have HT2 := hid (tagL_length key j f (turnedL key j f n32))
      have HP := hid (show ∃ p : Bool, (turnedL key i e n32 == turnedL key j f n32) = p ∧ (i == j && e == f) = p ∧ (e == f && turnedL key i e n32 == turnedL key j f n32 && tagL key i e (turnedL key i e n32) == tagL key j f (turnedL key j f n32)) = p from by
        by_cases c : i = j ∧ e = f
        · obtain ⟨rfl, rfl⟩ := c
          exact ⟨true, by simp, by simp, by simp⟩
        · have hne : (turnedL key i e n32 == turnedL key j f n32) = false := beq_eq_false_iff_ne.2 fun h => c (turned_apart n32_length hr1 hr2 he hf h)
          refine ⟨false, hne, ?_, by rw [hne]; simp⟩
          rw [Bool.and_eq_false_iff, beq_eq_false_iff_ne, beq_eq_false_iff_ne]
          by_cases a : i = j
          · exact Or.inr fun b => c ⟨a, b⟩
          · exact Or.inl a)
      generalize tagL key i e (turnedL key i e n32) = t at HS1 HT1 HP
      generalize turnedL key i e n32 = d at HS1 HD1 HP
      generalize tagL key j f (turnedL key j f n32) = t' at HS2 HT2 HP
      generalize turnedL key j f n32 = d' at HS2 HD2 HP
      obtain ⟨p, hp1, hp2, hp3⟩ := HP.out
      have P1 := hid hp1
      have P2 := hid hp2
      have P3 := hid hp3
      have HXL := hid (sv_length e d t HD1.out HT1.out)
      have HXA := hid (sv_all e d t)
      have HYL := hid (sv_length f d' t' HD2.out HT2.out)
      have HYA := hid (sv_all f d' t')
      clear he hf hT hr1 hr2 hp1 hp2 hp3 HP
      obtain ⟨x, hx⟩ : ∃ x, x = sv e d t := ⟨_, rfl⟩
      obtain ⟨y, hy⟩ : ∃ y, y = sv f d' t' := ⟨_, rfl⟩
      rw [← hx] at HS1 HXL HXA
      rw [← hy] at HS2 HYL HYA
      have EX := hid hx
      have EY := hid hy
      clear hx hy
      go_enter Tryd.func6, Tryd.ntmps6
      go_upto_region 8 with (first
        | (go_at_call 7; refine (HAL.out _ H0.out.below).mono ?_; rintro r1 w1 ⟨rfl, hb1⟩; have H1 := hid (H0.out.new hb1); clear hb1)
        | (refine wpList_load_row rfl _ (.tmp 2) rfl w.heap.size rfl 23 (ubs key).toArray (0, 0) _ H1.out.k Tryd.underlying23 rfl HZK.out ?_)
        | (go_at_call 8; refine (HN.out w1 H1.out.below).mono ?_; rintro r2 w2 ⟨S, rfl, hs2, hb2⟩; have H2 := hid (H1.out.new hb2); have S2 := hid hs2; have q0 := pl4_q0 H2.out.p; have q1 := pl4_q1 H2.out.p; clear hb2 hs2)
        | (refine wpList_valW (by rfl) (run_build_block0 rfl) ?_)
        | (refine Great.wpList_allocTo rfl _ rfl _ _ (HAS.out _ _ _ rfl) ?_)
        | (go_at_call 9; (with_reducible refine (HS1.out w2 S S2.out H2.out.below).mono ?_); rintro r3 w3 ⟨rfl, hb3⟩; have H3 := hid (H2.out.new hb3); have S3 := hid (S2.out.new hb3); clear hb3)
        | (refine wpList_store_row rfl _ (.tmp 6) (.tmp 24) rfl w3.heap.size x.toArray rfl rfl 31 (sv 0 n32 n16).toArray (heap_alloc_new _ _) (sizePs_of HXL.out) ?e5c HXA.out ?e6c; rotate_right; have H4 := hid (H3.out.add x); have S4 := hid (S3.out.new (ps_stored_below w3 x)); generalize ((w3.alloc (.cells (sv 0 n32 n16).toArray 31)).setRow w3.heap.size x.toArray) = w4 at H4 S4 ⊢; generalize w3.heap.size = X at H4 ⊢; have q2 := pl4_q2 H4.out.p; have q3 := pl4_q3 H4.out.p)
        | (go_at_call 9; (with_reducible refine (HS2.out w4 S S4.out H4.out.below).mono ?_); rintro r5 w5 ⟨rfl, hb5⟩; have H5 := hid (H4.out.new hb5); clear hb5)
        | (refine wpList_store_row rfl _ (.tmp 8) (.tmp 36) rfl w5.heap.size y.toArray rfl rfl 31 (sv 0 n32 n16).toArray (heap_alloc_new _ _) (sizePs_of HYL.out) ?e7c HYA.out ?e8c; rotate_right; have H6 := hid (H5.out.add y); generalize ((w5.alloc (.cells (sv 0 n32 n16).toArray 31)).setRow w5.heap.size y.toArray) = w6 at H6 ⊢; generalize w5.heap.size = Y at H6 ⊢))
      case e5c => simp [HZ0.out, HXL.out]
      case e7c => simp [HZ0.out, HYL.out]
      clear q0 q1 q2 q3
      try simp only [Act.put, List.setIfInBounds_toArray, List.set_cons_succ, List.set_cons_zero]
      refine wp_region_facts 23 23 [44, 45, 46, 47, 48, 49, 50, 51, 52, 53, 54, 55, 56, 57, 58, 59, 60, 61, 62, 63, 64, 65, 4] (fun k v _ => v = paF (w.heap.size + 1) X Y i e j f x y d d' p k) (SaW w key i e j f [(Y, y), (X, x)]) (by kernel_rfl) (by kernel_rfl)
        (fun W W' h hb => h.new hb) (fun _ _ _ _ h _ => h) (H6.out.drew) ?_ ?_
      · intro i hi vals W K hB hn hK
        simp only [frm_cons, frm_nil, List.set_cons_succ, List.set_cons_zero, Nat.reduceAdd] at hK ⊢
        rcases (by omega : i = 0 ∨ i = 1 ∨ i = 2 ∨ i = 3 ∨ i = 4 ∨ i = 5 ∨ i = 6 ∨ i = 7 ∨ i = 8 ∨ i = 9 ∨ i = 10 ∨ i = 11 ∨ i = 12 ∨ i = 13 ∨ i = 14 ∨ i = 15 ∨ i = 16 ∨ i = 17 ∨ i = 18 ∨ i = 19 ∨ i = 20 ∨ i = 21 ∨ i = 22) with rfl | rfl | rfl | rfl | rfl | rfl | rfl | rfl | rfl | rfl | rfl | rfl | rfl | rfl | rfl | rfl | rfl | rfl | rfl | rfl | rfl | rfl | rfl
        · refine wpOp_plain rfl rfl (wp_val (w' := W) (v := .pointer (some ⟨X, 1, none⟩)) (by go_simp) ?_)
          exact hK _ _ rfl (Below.refl _ _)
        · have h0 := hn 0 (by decide +kernel)
          simp only [paF] at h0
          simp only [h0] at hK ⊢
          refine wpOp_plain rfl rfl (wp_val (run_loadB (.tmp 44) rfl X 1 rfl d (sv_data (EX.out ▸ (hB.xs (X, x) (by simp)))) HD1.out) ?_)
          exact hK _ _ rfl (Below.refl _ _)
        · refine wpOp_plain rfl rfl (wp_val (w' := W) (v := .pointer (some ⟨Y, 1, none⟩)) (by go_simp) ?_)
          exact hK _ _ rfl (Below.refl _ _)
        · have h2 := hn 2 (by decide +kernel)
          simp only [paF] at h2
          simp only [h2] at hK ⊢
          refine wpOp_plain rfl rfl (wp_val (run_loadB (.tmp 46) rfl Y 1 rfl d' (sv_data (EY.out ▸ (hB.xs (Y, y) (by simp)))) HD2.out) ?_)
          exact hK _ _ rfl (Below.refl _ _)
        · have h1 := hn 1 (by decide +kernel)
          have h3 := hn 3 (by decide +kernel)
          simp only [paF] at h1 h3
          simp only [h1, h3] at hK ⊢
          refine wpOp_plain rfl rfl (wp_val (run_eqlB _ (.tmp 45) (.tmp 47) rfl d d' HD1.out HD2.out rfl rfl p P1.out W) ?_)
          exact hK _ _ rfl (Below.refl _ _)
        · refine wpOp_plain rfl rfl (wp_val (w' := W) (v := .pointer (some ⟨w.heap.size + 1, 0, none⟩)) (by go_simp) ?_)
          exact hK _ _ rfl (Below.refl _ _)
        · have h5 := hn 5 (by decide +kernel)
          simp only [paF] at h5
          simp only [h5] at hK ⊢
          refine wpOp_plain rfl rfl (wp_val (run_loadPl (.tmp 49) rfl (w.heap.size + 1) 0 rfl [.int .u64 (i : Int), .int .u64 (e : Int)] (pl4_r0 hB.p) rfl) ?_)
          exact hK _ _ rfl (Below.refl _ _)
        · refine wpOp_plain rfl rfl (wp_val (w' := W) (v := .pointer (some ⟨w.heap.size + 1, 2, none⟩)) (by go_simp) ?_)
          exact hK _ _ rfl (Below.refl _ _)
        · have h7 := hn 7 (by decide +kernel)
          simp only [paF] at h7
          simp only [h7] at hK ⊢
          refine wpOp_plain rfl rfl (wp_val (run_loadPl (.tmp 51) rfl (w.heap.size + 1) 2 rfl [.int .u64 (j : Int), .int .u64 (f : Int)] (pl4_r1 hB.p) rfl) ?_)
          exact hK _ _ rfl (Below.refl _ _)
        · have h6 := hn 6 (by decide +kernel)
          have h8 := hn 8 (by decide +kernel)
          simp only [paF] at h6 h8
          simp only [h6, h8] at hK ⊢
          refine wpOp_plain rfl rfl (wp_val (run_eql_pl _ (.tmp 50) (.tmp 52) rfl i e j f rfl rfl p P2.out W) ?_)
          exact hK _ _ rfl (Below.refl _ _)
        · have h4 := hn 4 (by decide +kernel)
          have h9 := hn 9 (by decide +kernel)
          simp only [paF] at h4 h9
          simp only [h4, h9] at hK ⊢
          have hpp : (p == p) = true := by simp
          refine wpOp_plain rfl rfl (wp_val (w' := W) (v := .bool true) (by go_simp) ?_)
          exact hK _ _ rfl (Below.refl _ _)
        · have h10 := hn 10 (by decide +kernel)
          simp only [paF] at h10
          simp only [h10] at hK ⊢
          refine wpOp_plain rfl rfl (wp_val (w' := W) (v := .bool true) (by go_simp) ?_)
          exact hK _ _ rfl (Below.refl _ _)
        · have h11 := hn 11 (by decide +kernel)
          simp only [paF] at h11
          simp only [h11] at hK ⊢
          refine wpOp_on rfl (by rfl) (wp_val (run_loadPs (.tmp 6) rfl X rfl x _ (hB.xs (X, x) (by simp)) HXL.out) ?_)
          exact hK _ _ rfl (Below.refl _ _)
        · have h11 := hn 11 (by decide +kernel)
          simp only [paF] at h11
          simp only [h11] at hK ⊢
          refine wpOp_on rfl (by rfl) (wp_val (run_loadPs (.tmp 8) rfl Y rfl y _ (hB.xs (Y, y) (by simp)) HYL.out) ?_)
          exact hK _ _ rfl (Below.refl _ _)
        · have h11 := hn 11 (by decide +kernel)
          have h12 := hn 12 (by decide +kernel)
          have h13 := hn 13 (by decide +kernel)
          simp only [paF] at h11 h12 h13
          simp only [h11, h12, h13] at hK ⊢
          refine wpOp_on rfl (by rfl) (wp_val (run_eql_psv _ (.tmp 56) (.tmp 57) rfl e f d d' t t' HD1.out HD2.out HT1.out HT2.out (by rw [← EX.out]; rfl) (by rw [← EY.out]; rfl) p P3.out W) ?_)
          exact hK _ _ rfl (Below.refl _ _)
        · have h11 := hn 11 (by decide +kernel)
          simp only [paF] at h11
          simp only [h11] at hK ⊢
          refine wpOp_on rfl (by rfl) (wp_val (w' := W) (v := .pointer (some ⟨w.heap.size + 1, 0, none⟩)) (by go_simp) ?_)
          exact hK _ _ rfl (Below.refl _ _)
        · have h11 := hn 11 (by decide +kernel)
          have h15 := hn 15 (by decide +kernel)
          simp only [paF] at h11 h15
          simp only [h11, h15] at hK ⊢
          refine wpOp_on rfl (by rfl) (wp_val (run_loadPl (.tmp 59) rfl (w.heap.size + 1) 0 rfl [.int .u64 (i : Int), .int .u64 (e : Int)] (pl4_r0 hB.p) rfl) ?_)
          exact hK _ _ rfl (Below.refl _ _)
        · have h11 := hn 11 (by decide +kernel)
          simp only [paF] at h11
          simp only [h11] at hK ⊢
          refine wpOp_on rfl (by rfl) (wp_val (w' := W) (v := .pointer (some ⟨w.heap.size + 1, 2, none⟩)) (by go_simp) ?_)
          exact hK _ _ rfl (Below.refl _ _)
        · have h11 := hn 11 (by decide +kernel)
          have h17 := hn 17 (by decide +kernel)
          simp only [paF] at h11 h17
          simp only [h11, h17] at hK ⊢
          refine wpOp_on rfl (by rfl) (wp_val (run_loadPl (.tmp 61) rfl (w.heap.size + 1) 2 rfl [.int .u64 (j : Int), .int .u64 (f : Int)] (pl4_r1 hB.p) rfl) ?_)
          exact hK _ _ rfl (Below.refl _ _)
        · have h11 := hn 11 (by decide +kernel)
          have h16 := hn 16 (by decide +kernel)
          have h18 := hn 18 (by decide +kernel)
          simp only [paF] at h11 h16 h18
          simp only [h11, h16, h18] at hK ⊢
          refine wpOp_on rfl (by rfl) (wp_val (run_eql_pl _ (.tmp 60) (.tmp 62) rfl i e j f rfl rfl p P2.out W) ?_)
          exact hK _ _ rfl (Below.refl _ _)
        · have h11 := hn 11 (by decide +kernel)
          have h14 := hn 14 (by decide +kernel)
          have h19 := hn 19 (by decide +kernel)
          simp only [paF] at h11 h14 h19
          simp only [h11, h14, h19] at hK ⊢
          have hpp : (p == p) = true := by simp
          refine wpOp_on rfl (by rfl) (wp_val (w' := W) (v := .bool true) (by go_simp) ?_)
          exact hK _ _ rfl (Below.refl _ _)
        · have h11 := hn 11 (by decide +kernel)
          have h20 := hn 20 (by decide +kernel)
          simp only [paF] at h11 h20
          simp only [h11, h20] at hK ⊢
          refine wpOp_plain rfl rfl (wp_val (w' := W) (v := .bool true) (by go_simp) ?_)
          exact hK _ _ rfl (Below.refl _ _)
        · have h21 := hn 21 (by decide +kernel)
          simp only [paF] at h21
          simp only [h21] at hK ⊢
          refine wpOp_plain rfl rfl (wp_val (w' := W) (v := .bool true) (by go_simp) ?_)
          exact hK _ _ rfl (Below.refl _ _)
      · intro vals W hB hF
        have h0 := hF 0 (by omega)
        have h1 := hF 1 (by omega)
        have h2 := hF 2 (by omega)
        have h3 := hF 3 (by omega)
        have h4 := hF 4 (by omega)
        have h5 := hF 5 (by omega)
        have h6 := hF 6 (by omega)
        have h7 := hF 7 (by omega)
        have h8 := hF 8 (by omega)
        have h9 := hF 9 (by omega)
        have h10 := hF 10 (by omega)
        have h11 := hF 11 (by omega)
        have h12 := hF 12 (by omega)
        have h13 := hF 13 (by omega)
        have h14 := hF 14 (by omega)
        have h15 := hF 15 (by omega)
        have h16 := hF 16 (by omega)
        have h17 := hF 17 (by omega)
        have h18 := hF 18 (by omega)
        have h19 := hF 19 (by omega)
        have h20 := hF 20 (by omega)
        have h21 := hF 21 (by omega)
        have h22 := hF 22 (by omega)
        simp only [paF] at h0 h1 h2 h3 h4 h5 h6 h7 h8 h9 h10 h11 h12 h13 h14 h15 h16 h17 h18 h19 h20 h21 h22
        simp only [frm_cons, frm_nil, List.set_cons_succ, List.set_cons_zero, Nat.reduceAdd, h0, h1, h2, h3, h4, h5, h6, h7, h8, h9, h10, h11, h12, h13, h14, h15, h16, h17, h18, h19, h20, h21, h22]
        refine wpUpto_done (by decide +kernel) ?_ _
        have HE := hid hB.below
        clear hB hF h0 h1 h2 h3 h4 h5 h6 h7 h8 h9 h10 h11 h12 h13 h14 h15 h16 h17 h18 h19 h20 h21 h22 H6
        go_simp
        go_wp2
        go_ret
        exact ⟨rfl, HE.out⟩
end Go.Proofs.YtnaihcoafgigcaaDoor
