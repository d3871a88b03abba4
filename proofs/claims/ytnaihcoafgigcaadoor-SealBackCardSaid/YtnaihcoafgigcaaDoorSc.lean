/-
  The document's layer 7: a tag.
-/
import Derived.Test.YtnaihcoafgigcaaDoorSb
namespace Go.Proofs.YtnaihcoafgigcaaDoor
open Go.RowKit

def tagL (key : List UInt8) (i e : Nat) (d : List UInt8) : List UInt8 := (macL (keyTag key) (placeL i e ++ d)).take 16
theorem tagL_length (key : List UInt8) (i e : Nat) (d : List UInt8) : (tagL key i e d).length = 16 := by rw [tagL, List.length_take, macL_length]; rfl
/-- What holds in Tag: the data, the result, the tag's key. -/
structure TgW (w : World) (d h : List UInt8) (K : Nat) (W : World) : Prop where
  b : At W (w.heap.size + 1) (ubs d).toArray 28
  r : At W (w.heap.size + 2) (ubs n16).toArray 22
  h : At W K (ubs h).toArray 61
  size : w.heap.size + 3 ≤ W.heap.size
  below : Below w.heap.size w W
theorem TgW.new {w W W' : World} {d h : List UInt8} {K : Nat} (x : TgW w d h K W) (hb : Below W.heap.size W W') : TgW w d h K W' := ⟨x.b.new_ hb, x.r.new_ hb, x.h.new_ hb, Nat.le_trans x.size hb.size, x.below.trans (hb.mono x.below.size)⟩
theorem TgW.drewN {w W : World} {d h : List UInt8} {K : Nat} (x : TgW w d h K W) (n : Nat) : TgW w d h K (W.drewN n) := ⟨x.b, x.r, x.h, x.size, below_drewN x.below n⟩
theorem TgW.drew {w W : World} {d h : List UInt8} {K : Nat} (x : TgW w d h K W) : TgW w d h K W.drew := ⟨x.b, x.r, x.h, x.size, below_drewN x.below 1⟩
theorem own_base {W : World} {base n : Nat} {xs : List Value} {v : Value} (ho : W.ownsRow base 5 1 v n xs) (k : Nat) (hk : v.ownBlock = some k) : base ≤ k := by
  rcases ho.2 with ⟨h1, _⟩ | ⟨g, cap, cur, h1, h2, _⟩
  · subst h1; cases hk
  · subst h1
    have e : g = k := Option.some.inj hk
    omega
/-- A row of a later call's own grows: what was there before that call stays. -/
theorem below_grown {W0 W W' : World} {n : Nat} {xs : List Value} {v : Value} (ho : W.ownsRow W0.heap.size 5 1 v n xs) (hb : Below W0.heap.size W0 W) (hg : W.grownBy W' v.ownBlock) : Below W0.heap.size W0 W' :=
  hb.grown hg hb.size (fun k hk => by
    have := own_base ho k hk
    exact this)
section
variable {P : Program} {ops : Array Oper} {Q : Exit → Act → World → Prop} {md : Region.Mode} {S : World → Prop} {z : Nat}
/-- Two can come up. -/
theorem wpUpto_two {i j : Nat} {oi oj : Oper} {fuel : Nat} {listed : Array Bool} {a : Act} {w : World} (hi : ops[i]? = some oi) (hj : ops[j]? = some oj) (hr : Region.ready md ops listed = [i, j]) (hgi : oi.guard = none) (hgj : oj.guard = none)
    (h1 : ∀ K : Act → World → Prop, RowKit.Hid (∀ a' w', (i ≠ z → S w') → wpUpto P md ops Q S z fuel (listed.setIfInBounds i true) a' w' → K a' w') → oi.wp P a w K Q)
    (h2 : ∀ K : Act → World → Prop, RowKit.Hid (∀ a' w', (j ≠ z → S w') → wpUpto P md ops Q S z fuel (listed.setIfInBounds j true) a' w' → K a' w') → oj.wp P a w K Q) : wpUpto P md ops Q S z (fuel + 1) listed a w := by
  refine ⟨fun h0 => (by rw [hr] at h0; cases h0), fun k hk => ?_⟩
  rw [hr] at hk
  unfold wpOp
  rcases (by simpa using hk : k = i ∨ k = j) with rfl | rfl
  · rw [hi]
    simp only [Region.wanted, hgi, if_true]
    exact .inl (h1 _ (fun _ _ h1 h2 => ⟨h1, h2⟩))
  · rw [hj]
    simp only [Region.wanted, hgj, if_true]
    exact .inl (h2 _ (fun _ _ h1 h2 => ⟨h1, h2⟩))
end
theorem own_alloc1 {w W : World} {n : Nat} {bs : List UInt8} {v : Value} (h : Own1 w n bs v W) (o : Obj) : Own1 w n bs v (W.alloc o) := ⟨h.len, own_fr (S := fun _ => False) h.own ((Fr.refl _ _).alloc o) (fun _ _ => id), h.below.alloc h.below.size o⟩
theorem splice_first (h : List UInt8) (hl : h.length = 32) : splice (ubs n16) 0 ((ubs h).take 16) = ubs (h.take 16) := splice_take h hl
set_option maxRecDepth 100000 in
set_option maxHeartbeats 2000000 in
theorem tagR_any (key d : List UInt8) (i e : Nat) (w : World) (hk : key.length = 16) (hd : d.length = 32) (hi : i < 18446744073709551616) (he : e < 18446744073709551616) (hT : Tabr w) (hI : Tab w 0 IV.l) :
    Calls Tryd.prog 18 #[.agg (ubs key).toArray, .int .u64 (i : Int), .int .u64 (e : Int), .agg (ubs d).toArray] w fun r w' => r = .returned (.agg (ubs (tagL key i e d)).toArray) ∧ Below w.heap.size w w' := by
  obtain ⟨i0, hi0, hz0, hz1, hz2⟩ := info_parts infoB
  have HK0 := hid (((At.new w (ubs key).toArray 23).alloc (.cells (ubs d).toArray 28)).alloc (.cells (ubs n16).toArray 22))
  have HD0 := hid (show At (((w.alloc (.cells (ubs key).toArray 23)).alloc (.cells (ubs d).toArray 28)).alloc (.cells (ubs n16).toArray 22)) (w.heap.size + 1) (ubs d).toArray 28 from (At.new_at (by simp)).alloc _)
  have HR0 := hid (show At (((w.alloc (.cells (ubs key).toArray 23)).alloc (.cells (ubs d).toArray 28)).alloc (.cells (ubs n16).toArray 22)) (w.heap.size + 2) (ubs n16).toArray 22 from At.new_at (by simp))
  have HB0 := hid ((((Below.refl w.heap.size w).alloc (Nat.le_refl _) (.cells (ubs key).toArray 23)).alloc (by simp) (.cells (ubs d).toArray 28)).alloc (by simp; omega) (.cells (ubs n16).toArray 22))
  have HSZ := hid (show (((w.alloc (.cells (ubs key).toArray 23)).alloc (.cells (ubs d).toArray 28)).alloc (.cells (ubs n16).toArray 22)).heap.size = w.heap.size + 3 by simp)
  have HTK := hid (fun (W : World) (h : Below w.heap.size w W) => refTag_any key W hk (hT.below h) (Tab.below (x := IV.a) (xs := [IV.b, IV.c, IV.d, IV.e, IV.f, IV.g, IV.h]) hI h))
  have HP := hid (fun W => placeR_any i e W hi he)
  have HM := hid (fun (W : World) (K c : Nat) (A : Option Addr) (h : Below w.heap.size w W) (hK : Rb W W.heap.size (some ⟨K, 0, none⟩) (keyTag key)) (hA : Rb W W.heap.size A (placeL i e ++ d)) => show Calls Tryd.prog 30 #[.slice (some ⟨K, 0, none⟩) 32 32, .slice A 44 c] W (fun e' w' => e' = .returned (.agg (ubs (macL (keyTag key) (placeL i e ++ d))).toArray) ∧ Below W.heap.size W w') by
    have := macR_any (keyTag key) (placeL i e ++ d) (some ⟨K, 0, none⟩) A 32 c W hK hA (by rw [keyTag_length]; omega) (by rw [List.length_append, placeL_length, hd]; omega) (hT.below h) (Tab.below (x := IV.a) (xs := [IV.b, IV.c, IV.d, IV.e, IV.f, IV.g, IV.h]) hI h)
    rw [keyTag_length, List.length_append, placeL_length, hd] at this
    exact this)
  have HZK := hid (sizeKey_of hk)
  have HPL := hid (placeL_length i e)
  have HDL := hid hd
  have HTL := hid (keyTag_length key)
  have HGL := hid (tagL_length key i e d)
  have HGD := hid (show tagL key i e d = (macL (keyTag key) (placeL i e ++ d)).take 16 from rfl)
  have HML := hid (macL_length (keyTag key) (placeL i e ++ d))
  have hz32 := noughts32
  have hz16 := noughts16
  obtain ⟨h, hh⟩ : ∃ h, h = keyTag key := ⟨_, rfl⟩
  rw [← hh] at HTK HM HTL HGD HML
  obtain ⟨p, hp⟩ : ∃ p, p = placeL i e := ⟨_, rfl⟩
  rw [← hp] at HP HM HPL HGD HML
  obtain ⟨m, hm⟩ : ∃ m, m = macL h (p ++ d) := ⟨_, rfl⟩
  rw [← hm] at HM HGD HML
  obtain ⟨t, ht⟩ : ∃ t, t = tagL key i e d := ⟨_, rfl⟩
  rw [← ht] at HGL HGD ⊢
  clear hk hd hi he hT hI hh hp hm ht
  go_enter Tryd.func18, Tryd.ntmps18
  go_upto_region 2 with (first
    | (refine wpList_load_row rfl _ (.tmp 4) rfl w.heap.size rfl 23 (ubs key).toArray (0, 0) _ HK0.out Tryd.underlying23 rfl HZK.out ?_)
    | (go_at_call 29; refine (HTK.out _ HB0.out).mono ?_; rintro e1 w1 ⟨rfl, hb1⟩; have D1 := hid (HD0.out.new_ hb1); have R1 := hid (HR0.out.new_ hb1); have B1 := hid (HB0.out.trans (hb1.mono HB0.out.size)); have S1 := hid (show w.heap.size + 3 ≤ w1.heap.size by have h1 := hb1.size; have h2 := HSZ.out; omega); clear hb1)
    | (refine wpList_store_row rfl _ (.tmp 9) (.tmp 13) rfl w1.heap.size (ubs h).toArray rfl rfl 61 (ubs n32).toArray (heap_alloc_new _ _) (sizeH_of HTL.out) ?e1 (ubs_all _) ?e2; rotate_right; have X2 := hid (show TgW w d h w1.heap.size ((w1.alloc (.cells (ubs n32).toArray 61)).setRow w1.heap.size (ubs h).toArray) from ⟨D1.out.new_ (stored_below w1 h), R1.out.new_ (stored_below w1 h), stored_at w1 h, Nat.le_trans S1.out (stored_below w1 h).size, B1.out.trans ((stored_below w1 h).mono B1.out.size)⟩); generalize ((w1.alloc (.cells (ubs n32).toArray 61)).setRow w1.heap.size (ubs h).toArray) = w2 at X2 ⊢))
  case e1 => simp [ubs_length, n32_length, HTL.out]
  have X3 := hid (X2.out.drew)
  clear X2 D1 R1 B1 S1 HK0 HD0 HR0 HB0 HSZ
  generalize w1.heap.size = K at X3 ⊢
  refine wp_region_upto (fun _ => True) 9 9 (by kernel_rfl) (by kernel_rfl) ?_
  generalize w2.drew = V0 at X3 ⊢
  refine wpUpto_takeL (i := 0) (v := .slice (some ⟨K, 0, none⟩) 32 32) rfl rfl (by decide +kernel) (by decide +kernel) (by decide +kernel) (by decide +kernel) (by decide) (fun _ _ _ h => h) (Or.inl ⟨by rfl, ?_⟩) trivial ?_
  · (intro W hSW; go_simp)
  simp only [List.set_cons_succ, List.set_cons_zero]
  refine wpUpto_takeL (i := 1) (v := .int .u64 (i : Int)) rfl rfl (by decide +kernel) (by decide +kernel) (by decide +kernel) (by decide +kernel) (by decide) (fun _ _ _ h => h) (Or.inl ⟨by rfl, ?_⟩) trivial ?_
  · (intro W hSW; go_simp)
  simp only [List.set_cons_succ, List.set_cons_zero]
  refine wpUpto_takeL (i := 2) (v := .int .u64 (e : Int)) rfl rfl (by decide +kernel) (by decide +kernel) (by decide +kernel) (by decide +kernel) (by decide) (fun _ _ _ h => h) (Or.inl ⟨by rfl, ?_⟩) trivial ?_
  · (intro W hSW; go_simp)
  simp only [List.set_cons_succ, List.set_cons_zero]
  refine wpUpto_takeL (i := 4) (v := .slice (some ⟨w.heap.size + 1, 0, none⟩) 32 32) rfl rfl (by decide +kernel) (by decide +kernel) (by decide +kernel) (by decide +kernel) (by decide) (fun _ _ _ h => h) (Or.inl ⟨by rfl, ?_⟩) trivial ?_
  · (intro W hSW; go_simp)
  simp only [List.set_cons_succ, List.set_cons_zero]
  refine wpUpto_two (i := 3) (j := 7) rfl rfl (by decide +kernel) rfl rfl ?_ ?_
  · intro Q0 hQ0
    go_simp
    go_at_call 31
    refine (HP.out V0).mono ?_
    rintro e1 w3 ⟨A3, c3, rfl, hO3⟩
    have X4 := hid (X3.out.new hO3.below)
    have O4 := hid hO3
    clear hO3
    refine hQ0.out _ _ (fun _ => trivial) ?_
    clear hQ0 Q0
    refine wpUpto_two (i := 5) (j := 7) rfl rfl (by decide +kernel) rfl rfl ?_ ?_
    · intro Q0 hQ0
      refine wp_append_rd (.tmp 17) (.tmp 18) _ rfl V0.heap.size 5 i0 (.int .u8 0) 1 Tryd.underlying55 hi0 hz0 hz1 hz2 rfl (.slice A3 12 c3) 12 (ubs p) rfl O4.out.own w3.heap.size (some ⟨w.heap.size + 1, 0, none⟩) 32 32 (ubs d) rfl (by rw [ubs_length, HDL.out]) (rb_at X4.out.b) (ubs_one _) (by unfold maxLen; omega) (by omega) O4.out.below.size ?_
      intro v5 w5 ho5 hg5 _
      have X5 := hid (X3.out.new (below_grown O4.out.own O4.out.below hg5))
      have R5 := hid (O4.out.more ho5 HDL.out.symm hg5)
      have hf5 := own_form ho5
      clear ho5 hg5
      obtain ⟨A5, c5, rfl, -⟩ := hf5
      refine hQ0.out _ _ (fun _ => trivial) ?_
      clear hQ0 Q0
      refine wpUpto_two (i := 6) (j := 7) rfl rfl (by decide +kernel) rfl rfl ?_ ?_
      · intro Q0 hQ0
        go_simp
        go_at_call 30
        refine (HM.out w5 K c5 A5 X5.out.below (rb_at X5.out.h) (Rd.of_own R5.out.own)).mono ?_
        rintro e6 w6 ⟨rfl, hb6⟩
        have X6 := hid (X5.out.new hb6)
        clear hb6
        refine hQ0.out _ _ (fun _ => trivial) ?_
        clear hQ0 Q0
        refine wpUpto_one (i := 7) rfl (by decide +kernel) rfl ?_
        intro Q0 hQ0
        go_simp
        have XA := hid (X6.out.new ((Below.refl w6.heap.size w6).alloc (Nat.le_refl _) (.cells (ubs n32).toArray 61)))
        have AQ := hid (At.new w6 (ubs n32).toArray 61)
        refine hQ0.out _ _ (fun _ => trivial) ?_
        clear hQ0 Q0
        have HQ1 := hid (show w.heap.size ≤ w6.heap.size from X6.out.below.size)
        obtain ⟨QQ, hQQ⟩ : ∃ q, q = w6.heap.size := ⟨_, rfl⟩
        rw [← hQQ] at AQ HQ1 ⊢
        have HQQ := HQ1
        clear HQ1
        generalize (w6.alloc (.cells (ubs n32).toArray 61)) = WA at XA AQ ⊢
        clear hQQ
        refine wpUpto_one (i := 8) rfl (by decide +kernel) rfl ?_
        intro Q0 hQ0
        refine wp_store_row 61 (.tmp 10) (.tmp 20) rfl QQ (ubs m).toArray rfl rfl 61 (ubs n32).toArray AQ.out (sizeH_of HML.out) ?u14 (ubs_all _) ?_
        case u14 => simp [ubs_length, n32_length, HML.out]
        have R7 := hid (At.setRow_far (ds := (ubs m).toArray) XA.out.r (At.ne XA.out.r AQ.out (by decide)))
        have H7 := hid (setRow_heap WA QQ (ubs n32).toArray (ubs m).toArray 61 (0, 0) AQ.out)
        have B7 := hid (below_setRow XA.out.below (HQQ.out) (ubs m).toArray)
        have Z7 := hid (show w.heap.size + 3 ≤ (WA.setRow QQ (ubs m).toArray).heap.size by have := XA.out.size; simpa using this)
        generalize (WA.setRow QQ (ubs m).toArray) = w8 at R7 H7 B7 Z7 ⊢
        refine hQ0.out _ _ (fun _ => trivial) ?_
        clear hQ0 Q0
        refine wpUpto_done (by decide +kernel) ?_ _
        go_simp
        go_upto_region 4 with (fail)
        have R8 := hid (R7.out.alloc (.cells (ubs n16).toArray 22))
        have H8 := hid (At.alloc (show At w8 QQ (ubs m).toArray 61 from H7.out) (.cells (ubs n16).toArray 22))
        have E8 := hid (At.new w8 (ubs n16).toArray 22)
        have B8 := hid (B7.out.alloc B7.out.size (.cells (ubs n16).toArray 22))
        have Z8 := Z7
        clear R7 H7 B7 Z7
        obtain ⟨EE, hEE⟩ : ∃ q, q = w8.heap.size := ⟨_, rfl⟩
        rw [← hEE] at E8 Z8 ⊢
        generalize (w8.alloc (.cells (ubs n16).toArray 22)) = w9 at R8 H8 E8 B8 ⊢
        clear hEE
        refine wp_region_still_tail 2 (by kernel_rfl) (by kernel_rfl) ?_
        simp only [List.take_succ_cons, List.take_zero, List.drop_succ_cons, List.drop_zero]
        obtain ⟨V9, hV9⟩ : ∃ V9 : World, { w9 with drawn := w9.drawn + 1 } = V9 := ⟨_, rfl⟩
        rw [hV9]
        have R9 := hid (show At V9 (w.heap.size + 2) (ubs n16).toArray 22 by rw [← hV9]; exact R8.out)
        have H9 := hid (show At V9 QQ (ubs m).toArray 61 by rw [← hV9]; exact H8.out)
        have E9 := hid (show At V9 EE (ubs n16).toArray 22 by rw [← hV9]; exact E8.out)
        have B9 := hid (show Below w.heap.size w V9 by rw [← hV9]; exact below_drewN B8.out 1)
        clear hV9 R8 H8 E8 B8
        repeat still_step
        refine wpStill_nil ?_
        go_wp2_with (first
          | (refine wpList_copy_rd rfl (.tmp 21) (.tmp 22) _ _ rfl 5 Tryd.underlying55 sizeU8 EE 0 16 16 V9.heap.size (some ⟨QQ, 0, none⟩) 32 32 rfl rfl (ubs n16) 22 E9.out (ubs m) (rb_at H9.out) (by rw [ubs_length]; exact HML.out) (by rw [ubs_length, n16_length]; omega) (ubs_one _) ?_; intro wa hAa hFa; have Ea := hid (show At wa EE (ubs t).toArray 22 by rw [splice_first m HML.out, ← HGD.out] at hAa; exact hAa); have Ra := hid (R9.out.fr hFa (by have := Z8.out; omega)); have Ba := hid (((Fr.of_below (S := fun k => w.heap.size ≤ k) B9.out (fun _ _ h => h)).next hFa (fun k hk e => by have := Z8.out; omega)).below (B := w.heap.size) (fun _ h => h) (Nat.le_refl _)); clear hAa hFa)
          | (refine wpList_load_row rfl _ (.tmp 11) rfl EE rfl 22 (ubs t).toArray (0, 0) _ Ea.out Tryd.underlying22 rfl (size16_of HGL.out) ?_)
          | (refine wpList_store_row rfl _ (.tmp 8) (.tmp 24) rfl (w.heap.size + 2) (ubs t).toArray rfl rfl 22 (ubs n16).toArray Ra.out (size16_of HGL.out) ?u24 (ubs_all _) ?u34; rotate_right))
        case u24 => simp [ubs_length, n16_length, HGL.out]
        refine bodyPost_ret (results_cell_row rfl _ _ (w.heap.size + 2) 22 (ubs t).toArray (0, 0) _ rfl (setRow_heap _ _ _ _ _ _ Ra.out) Tryd.underlying22 rfl (size16_of HGL.out)) rfl ?_
        exact ⟨rfl, below_setRow Ba.out (by omega) _⟩
      · intro Q0 hQ0
        go_simp
        have XA := hid (X5.out.new ((Below.refl w5.heap.size w5).alloc (Nat.le_refl _) (.cells (ubs n32).toArray 61)))
        have AQ := hid (At.new w5 (ubs n32).toArray 61)
        have RA := hid (own_alloc1 R5.out (.cells (ubs n32).toArray 61))
        refine hQ0.out _ _ (fun _ => trivial) ?_
        clear hQ0 Q0
        have HQ1 := hid (show w.heap.size ≤ w5.heap.size from X5.out.below.size)
        obtain ⟨QQ, hQQ⟩ : ∃ q, q = w5.heap.size := ⟨_, rfl⟩
        rw [← hQQ] at AQ HQ1 ⊢
        have HQQ := HQ1
        clear HQ1
        generalize (w5.alloc (.cells (ubs n32).toArray 61)) = WA at XA AQ RA ⊢
        clear hQQ
        refine wpUpto_one (i := 6) rfl (by decide +kernel) rfl ?_
        intro Q0 hQ0
        go_simp
        go_at_call 30
        refine (HM.out WA K c5 A5 XA.out.below (rb_at XA.out.h) (Rd.of_own RA.out.own)).mono ?_
        rintro e6 w6 ⟨rfl, hb6⟩
        have X6 := hid (XA.out.new hb6)
        have AQ6 := hid (AQ.out.new_ hb6)
        clear hb6
        refine hQ0.out _ _ (fun _ => trivial) ?_
        clear hQ0 Q0
        refine wpUpto_one (i := 8) rfl (by decide +kernel) rfl ?_
        intro Q0 hQ0
        refine wp_store_row 61 (.tmp 10) (.tmp 20) rfl QQ (ubs m).toArray rfl rfl 61 (ubs n32).toArray AQ6.out (sizeH_of HML.out) ?u13 (ubs_all _) ?_
        case u13 => simp [ubs_length, n32_length, HML.out]
        have R7 := hid (At.setRow_far (ds := (ubs m).toArray) X6.out.r (At.ne X6.out.r AQ6.out (by decide)))
        have H7 := hid (setRow_heap w6 QQ (ubs n32).toArray (ubs m).toArray 61 (0, 0) AQ6.out)
        have B7 := hid (below_setRow X6.out.below (HQQ.out) (ubs m).toArray)
        have Z7 := hid (show w.heap.size + 3 ≤ (w6.setRow QQ (ubs m).toArray).heap.size by have := X6.out.size; simpa using this)
        generalize (w6.setRow QQ (ubs m).toArray) = w8 at R7 H7 B7 Z7 ⊢
        refine hQ0.out _ _ (fun _ => trivial) ?_
        clear hQ0 Q0
        refine wpUpto_done (by decide +kernel) ?_ _
        go_simp
        go_upto_region 4 with (fail)
        have R8 := hid (R7.out.alloc (.cells (ubs n16).toArray 22))
        have H8 := hid (At.alloc (show At w8 QQ (ubs m).toArray 61 from H7.out) (.cells (ubs n16).toArray 22))
        have E8 := hid (At.new w8 (ubs n16).toArray 22)
        have B8 := hid (B7.out.alloc B7.out.size (.cells (ubs n16).toArray 22))
        have Z8 := Z7
        clear R7 H7 B7 Z7
        obtain ⟨EE, hEE⟩ : ∃ q, q = w8.heap.size := ⟨_, rfl⟩
        rw [← hEE] at E8 Z8 ⊢
        generalize (w8.alloc (.cells (ubs n16).toArray 22)) = w9 at R8 H8 E8 B8 ⊢
        clear hEE
        refine wp_region_still_tail 2 (by kernel_rfl) (by kernel_rfl) ?_
        simp only [List.take_succ_cons, List.take_zero, List.drop_succ_cons, List.drop_zero]
        obtain ⟨V9, hV9⟩ : ∃ V9 : World, { w9 with drawn := w9.drawn + 1 } = V9 := ⟨_, rfl⟩
        rw [hV9]
        have R9 := hid (show At V9 (w.heap.size + 2) (ubs n16).toArray 22 by rw [← hV9]; exact R8.out)
        have H9 := hid (show At V9 QQ (ubs m).toArray 61 by rw [← hV9]; exact H8.out)
        have E9 := hid (show At V9 EE (ubs n16).toArray 22 by rw [← hV9]; exact E8.out)
        have B9 := hid (show Below w.heap.size w V9 by rw [← hV9]; exact below_drewN B8.out 1)
        clear hV9 R8 H8 E8 B8
        repeat still_step
        refine wpStill_nil ?_
        go_wp2_with (first
          | (refine wpList_copy_rd rfl (.tmp 21) (.tmp 22) _ _ rfl 5 Tryd.underlying55 sizeU8 EE 0 16 16 V9.heap.size (some ⟨QQ, 0, none⟩) 32 32 rfl rfl (ubs n16) 22 E9.out (ubs m) (rb_at H9.out) (by rw [ubs_length]; exact HML.out) (by rw [ubs_length, n16_length]; omega) (ubs_one _) ?_; intro wa hAa hFa; have Ea := hid (show At wa EE (ubs t).toArray 22 by rw [splice_first m HML.out, ← HGD.out] at hAa; exact hAa); have Ra := hid (R9.out.fr hFa (by have := Z8.out; omega)); have Ba := hid (((Fr.of_below (S := fun k => w.heap.size ≤ k) B9.out (fun _ _ h => h)).next hFa (fun k hk e => by have := Z8.out; omega)).below (B := w.heap.size) (fun _ h => h) (Nat.le_refl _)); clear hAa hFa)
          | (refine wpList_load_row rfl _ (.tmp 11) rfl EE rfl 22 (ubs t).toArray (0, 0) _ Ea.out Tryd.underlying22 rfl (size16_of HGL.out) ?_)
          | (refine wpList_store_row rfl _ (.tmp 8) (.tmp 24) rfl (w.heap.size + 2) (ubs t).toArray rfl rfl 22 (ubs n16).toArray Ra.out (size16_of HGL.out) ?u23 (ubs_all _) ?u33; rotate_right))
        case u23 => simp [ubs_length, n16_length, HGL.out]
        refine bodyPost_ret (results_cell_row rfl _ _ (w.heap.size + 2) 22 (ubs t).toArray (0, 0) _ rfl (setRow_heap _ _ _ _ _ _ Ra.out) Tryd.underlying22 rfl (size16_of HGL.out)) rfl ?_
        exact ⟨rfl, below_setRow Ba.out (by omega) _⟩
    · intro Q0 hQ0
      go_simp
      have XA := hid (X4.out.new ((Below.refl w3.heap.size w3).alloc (Nat.le_refl _) (.cells (ubs n32).toArray 61)))
      have AQ := hid (At.new w3 (ubs n32).toArray 61)
      have OA := hid (own_alloc1 O4.out (.cells (ubs n32).toArray 61))
      refine hQ0.out _ _ (fun _ => trivial) ?_
      clear hQ0 Q0
      have HQ1 := hid (show w.heap.size ≤ w3.heap.size from X4.out.below.size)
      obtain ⟨QQ, hQQ⟩ : ∃ q, q = w3.heap.size := ⟨_, rfl⟩
      rw [← hQQ] at AQ HQ1 ⊢
      have HQQ := HQ1
      clear HQ1
      generalize (w3.alloc (.cells (ubs n32).toArray 61)) = WA at XA AQ OA ⊢
      clear hQQ
      refine wpUpto_one (i := 5) rfl (by decide +kernel) rfl ?_
      intro Q0 hQ0
      refine wp_append_rd (.tmp 17) (.tmp 18) _ rfl V0.heap.size 5 i0 (.int .u8 0) 1 Tryd.underlying55 hi0 hz0 hz1 hz2 rfl (.slice A3 12 c3) 12 (ubs p) rfl OA.out.own WA.heap.size (some ⟨w.heap.size + 1, 0, none⟩) 32 32 (ubs d) rfl (by rw [ubs_length, HDL.out]) (rb_at XA.out.b) (ubs_one _) (by unfold maxLen; omega) (by omega) OA.out.below.size ?_
      intro v5 w5 ho5 hg5 _
      have X5 := hid (X3.out.new (below_grown OA.out.own OA.out.below hg5))
      have R5 := hid (OA.out.more ho5 HDL.out.symm hg5)
      have AQ5 := hid (at_grown AQ.out OA.out.own (by decide) hg5)
      have hf5 := own_form ho5
      clear ho5 hg5
      obtain ⟨A5, c5, rfl, -⟩ := hf5
      refine hQ0.out _ _ (fun _ => trivial) ?_
      clear hQ0 Q0
      refine wpUpto_one (i := 6) rfl (by decide +kernel) rfl ?_
      intro Q0 hQ0
      go_simp
      go_at_call 30
      refine (HM.out w5 K c5 A5 X5.out.below (rb_at X5.out.h) (Rd.of_own R5.out.own)).mono ?_
      rintro e6 w6 ⟨rfl, hb6⟩
      have X6 := hid (X5.out.new hb6)
      have AQ6 := hid (AQ5.out.new_ hb6)
      clear hb6
      refine hQ0.out _ _ (fun _ => trivial) ?_
      clear hQ0 Q0
      refine wpUpto_one (i := 8) rfl (by decide +kernel) rfl ?_
      intro Q0 hQ0
      refine wp_store_row 61 (.tmp 10) (.tmp 20) rfl QQ (ubs m).toArray rfl rfl 61 (ubs n32).toArray AQ6.out (sizeH_of HML.out) ?u12 (ubs_all _) ?_
      case u12 => simp [ubs_length, n32_length, HML.out]
      have R7 := hid (At.setRow_far (ds := (ubs m).toArray) X6.out.r (At.ne X6.out.r AQ6.out (by decide)))
      have H7 := hid (setRow_heap w6 QQ (ubs n32).toArray (ubs m).toArray 61 (0, 0) AQ6.out)
      have B7 := hid (below_setRow X6.out.below (HQQ.out) (ubs m).toArray)
      have Z7 := hid (show w.heap.size + 3 ≤ (w6.setRow QQ (ubs m).toArray).heap.size by have := X6.out.size; simpa using this)
      generalize (w6.setRow QQ (ubs m).toArray) = w8 at R7 H7 B7 Z7 ⊢
      refine hQ0.out _ _ (fun _ => trivial) ?_
      clear hQ0 Q0
      refine wpUpto_done (by decide +kernel) ?_ _
      go_simp
      go_upto_region 4 with (fail)
      have R8 := hid (R7.out.alloc (.cells (ubs n16).toArray 22))
      have H8 := hid (At.alloc (show At w8 QQ (ubs m).toArray 61 from H7.out) (.cells (ubs n16).toArray 22))
      have E8 := hid (At.new w8 (ubs n16).toArray 22)
      have B8 := hid (B7.out.alloc B7.out.size (.cells (ubs n16).toArray 22))
      have Z8 := Z7
      clear R7 H7 B7 Z7
      obtain ⟨EE, hEE⟩ : ∃ q, q = w8.heap.size := ⟨_, rfl⟩
      rw [← hEE] at E8 Z8 ⊢
      generalize (w8.alloc (.cells (ubs n16).toArray 22)) = w9 at R8 H8 E8 B8 ⊢
      clear hEE
      refine wp_region_still_tail 2 (by kernel_rfl) (by kernel_rfl) ?_
      simp only [List.take_succ_cons, List.take_zero, List.drop_succ_cons, List.drop_zero]
      obtain ⟨V9, hV9⟩ : ∃ V9 : World, { w9 with drawn := w9.drawn + 1 } = V9 := ⟨_, rfl⟩
      rw [hV9]
      have R9 := hid (show At V9 (w.heap.size + 2) (ubs n16).toArray 22 by rw [← hV9]; exact R8.out)
      have H9 := hid (show At V9 QQ (ubs m).toArray 61 by rw [← hV9]; exact H8.out)
      have E9 := hid (show At V9 EE (ubs n16).toArray 22 by rw [← hV9]; exact E8.out)
      have B9 := hid (show Below w.heap.size w V9 by rw [← hV9]; exact below_drewN B8.out 1)
      clear hV9 R8 H8 E8 B8
      repeat still_step
      refine wpStill_nil ?_
      go_wp2_with (first
        | (refine wpList_copy_rd rfl (.tmp 21) (.tmp 22) _ _ rfl 5 Tryd.underlying55 sizeU8 EE 0 16 16 V9.heap.size (some ⟨QQ, 0, none⟩) 32 32 rfl rfl (ubs n16) 22 E9.out (ubs m) (rb_at H9.out) (by rw [ubs_length]; exact HML.out) (by rw [ubs_length, n16_length]; omega) (ubs_one _) ?_; intro wa hAa hFa; have Ea := hid (show At wa EE (ubs t).toArray 22 by rw [splice_first m HML.out, ← HGD.out] at hAa; exact hAa); have Ra := hid (R9.out.fr hFa (by have := Z8.out; omega)); have Ba := hid (((Fr.of_below (S := fun k => w.heap.size ≤ k) B9.out (fun _ _ h => h)).next hFa (fun k hk e => by have := Z8.out; omega)).below (B := w.heap.size) (fun _ h => h) (Nat.le_refl _)); clear hAa hFa)
        | (refine wpList_load_row rfl _ (.tmp 11) rfl EE rfl 22 (ubs t).toArray (0, 0) _ Ea.out Tryd.underlying22 rfl (size16_of HGL.out) ?_)
        | (refine wpList_store_row rfl _ (.tmp 8) (.tmp 24) rfl (w.heap.size + 2) (ubs t).toArray rfl rfl 22 (ubs n16).toArray Ra.out (size16_of HGL.out) ?u22 (ubs_all _) ?u32; rotate_right))
      case u22 => simp [ubs_length, n16_length, HGL.out]
      refine bodyPost_ret (results_cell_row rfl _ _ (w.heap.size + 2) 22 (ubs t).toArray (0, 0) _ rfl (setRow_heap _ _ _ _ _ _ Ra.out) Tryd.underlying22 rfl (size16_of HGL.out)) rfl ?_
      exact ⟨rfl, below_setRow Ba.out (by omega) _⟩
  · intro Q0 hQ0
    go_simp
    have XA := hid (X3.out.new ((Below.refl V0.heap.size V0).alloc (Nat.le_refl _) (.cells (ubs n32).toArray 61)))
    have AQ := hid (At.new V0 (ubs n32).toArray 61)
    refine hQ0.out _ _ (fun _ => trivial) ?_
    clear hQ0 Q0
    have HQ1 := hid (show w.heap.size ≤ V0.heap.size from X3.out.below.size)
    obtain ⟨QQ, hQQ⟩ : ∃ q, q = V0.heap.size := ⟨_, rfl⟩
    rw [← hQQ] at AQ HQ1 ⊢
    have HQQ := HQ1
    clear HQ1
    generalize (V0.alloc (.cells (ubs n32).toArray 61)) = WA at XA AQ ⊢
    clear hQQ
    refine wpUpto_one (i := 3) rfl (by decide +kernel) rfl ?_
    intro Q0 hQ0
    go_simp
    go_at_call 31
    refine (HP.out WA).mono ?_
    rintro e1 w3 ⟨A3, c3, rfl, hO3⟩
    have X4 := hid (XA.out.new hO3.below)
    have O4 := hid hO3
    have AQ4 := hid (AQ.out.new_ hO3.below)
    clear hO3
    refine hQ0.out _ _ (fun _ => trivial) ?_
    clear hQ0 Q0
    refine wpUpto_one (i := 5) rfl (by decide +kernel) rfl ?_
    intro Q0 hQ0
    refine wp_append_rd (.tmp 17) (.tmp 18) _ rfl WA.heap.size 5 i0 (.int .u8 0) 1 Tryd.underlying55 hi0 hz0 hz1 hz2 rfl (.slice A3 12 c3) 12 (ubs p) rfl O4.out.own w3.heap.size (some ⟨w.heap.size + 1, 0, none⟩) 32 32 (ubs d) rfl (by rw [ubs_length, HDL.out]) (rb_at X4.out.b) (ubs_one _) (by unfold maxLen; omega) (by omega) O4.out.below.size ?_
    intro v5 w5 ho5 hg5 _
    have X5 := hid (XA.out.new (below_grown O4.out.own O4.out.below hg5))
    have R5 := hid (O4.out.more ho5 HDL.out.symm hg5)
    have AQ5 := hid (at_grown AQ4.out O4.out.own (by decide) hg5)
    have hf5 := own_form ho5
    clear ho5 hg5
    obtain ⟨A5, c5, rfl, -⟩ := hf5
    refine hQ0.out _ _ (fun _ => trivial) ?_
    clear hQ0 Q0
    refine wpUpto_one (i := 6) rfl (by decide +kernel) rfl ?_
    intro Q0 hQ0
    go_simp
    go_at_call 30
    refine (HM.out w5 K c5 A5 X5.out.below (rb_at X5.out.h) (Rd.of_own R5.out.own)).mono ?_
    rintro e6 w6 ⟨rfl, hb6⟩
    have X6 := hid (X5.out.new hb6)
    have AQ6 := hid (AQ5.out.new_ hb6)
    clear hb6
    refine hQ0.out _ _ (fun _ => trivial) ?_
    clear hQ0 Q0
    refine wpUpto_one (i := 8) rfl (by decide +kernel) rfl ?_
    intro Q0 hQ0
    refine wp_store_row 61 (.tmp 10) (.tmp 20) rfl QQ (ubs m).toArray rfl rfl 61 (ubs n32).toArray AQ6.out (sizeH_of HML.out) ?u11 (ubs_all _) ?_
    case u11 => simp [ubs_length, n32_length, HML.out]
    have R7 := hid (At.setRow_far (ds := (ubs m).toArray) X6.out.r (At.ne X6.out.r AQ6.out (by decide)))
    have H7 := hid (setRow_heap w6 QQ (ubs n32).toArray (ubs m).toArray 61 (0, 0) AQ6.out)
    have B7 := hid (below_setRow X6.out.below (HQQ.out) (ubs m).toArray)
    have Z7 := hid (show w.heap.size + 3 ≤ (w6.setRow QQ (ubs m).toArray).heap.size by have := X6.out.size; simpa using this)
    generalize (w6.setRow QQ (ubs m).toArray) = w8 at R7 H7 B7 Z7 ⊢
    refine hQ0.out _ _ (fun _ => trivial) ?_
    clear hQ0 Q0
    refine wpUpto_done (by decide +kernel) ?_ _
    go_simp
    go_upto_region 4 with (fail)
    have R8 := hid (R7.out.alloc (.cells (ubs n16).toArray 22))
    have H8 := hid (At.alloc (show At w8 QQ (ubs m).toArray 61 from H7.out) (.cells (ubs n16).toArray 22))
    have E8 := hid (At.new w8 (ubs n16).toArray 22)
    have B8 := hid (B7.out.alloc B7.out.size (.cells (ubs n16).toArray 22))
    have Z8 := Z7
    clear R7 H7 B7 Z7
    obtain ⟨EE, hEE⟩ : ∃ q, q = w8.heap.size := ⟨_, rfl⟩
    rw [← hEE] at E8 Z8 ⊢
    generalize (w8.alloc (.cells (ubs n16).toArray 22)) = w9 at R8 H8 E8 B8 ⊢
    clear hEE
    refine wp_region_still_tail 2 (by kernel_rfl) (by kernel_rfl) ?_
    simp only [List.take_succ_cons, List.take_zero, List.drop_succ_cons, List.drop_zero]
    obtain ⟨V9, hV9⟩ : ∃ V9 : World, { w9 with drawn := w9.drawn + 1 } = V9 := ⟨_, rfl⟩
    rw [hV9]
    have R9 := hid (show At V9 (w.heap.size + 2) (ubs n16).toArray 22 by rw [← hV9]; exact R8.out)
    have H9 := hid (show At V9 QQ (ubs m).toArray 61 by rw [← hV9]; exact H8.out)
    have E9 := hid (show At V9 EE (ubs n16).toArray 22 by rw [← hV9]; exact E8.out)
    have B9 := hid (show Below w.heap.size w V9 by rw [← hV9]; exact below_drewN B8.out 1)
    clear hV9 R8 H8 E8 B8
    repeat still_step
    refine wpStill_nil ?_
    go_wp2_with (first
      | (refine wpList_copy_rd rfl (.tmp 21) (.tmp 22) _ _ rfl 5 Tryd.underlying55 sizeU8 EE 0 16 16 V9.heap.size (some ⟨QQ, 0, none⟩) 32 32 rfl rfl (ubs n16) 22 E9.out (ubs m) (rb_at H9.out) (by rw [ubs_length]; exact HML.out) (by rw [ubs_length, n16_length]; omega) (ubs_one _) ?_; intro wa hAa hFa; have Ea := hid (show At wa EE (ubs t).toArray 22 by rw [splice_first m HML.out, ← HGD.out] at hAa; exact hAa); have Ra := hid (R9.out.fr hFa (by have := Z8.out; omega)); have Ba := hid (((Fr.of_below (S := fun k => w.heap.size ≤ k) B9.out (fun _ _ h => h)).next hFa (fun k hk e => by have := Z8.out; omega)).below (B := w.heap.size) (fun _ h => h) (Nat.le_refl _)); clear hAa hFa)
      | (refine wpList_load_row rfl _ (.tmp 11) rfl EE rfl 22 (ubs t).toArray (0, 0) _ Ea.out Tryd.underlying22 rfl (size16_of HGL.out) ?_)
      | (refine wpList_store_row rfl _ (.tmp 8) (.tmp 24) rfl (w.heap.size + 2) (ubs t).toArray rfl rfl 22 (ubs n16).toArray Ra.out (size16_of HGL.out) ?u21 (ubs_all _) ?u31; rotate_right))
    case u21 => simp [ubs_length, n16_length, HGL.out]
    refine bodyPost_ret (results_cell_row rfl _ _ (w.heap.size + 2) 22 (ubs t).toArray (0, 0) _ rfl (setRow_heap _ _ _ _ _ _ Ra.out) Tryd.underlying22 rfl (size16_of HGL.out)) rfl ?_
    exact ⟨rfl, below_setRow Ba.out (by omega) _⟩
end Go.Proofs.YtnaihcoafgigcaaDoor
