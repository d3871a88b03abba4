/-
  HmacTurns, walked.
-/
import Derived.Test.YtobehmjmmnmflaaDoorLck
namespace Go.Proofs.YtobehmjmmnmflaaDoor
open Go.RowKit

/-- One bit. -/
def bitN (j : Nat) : UInt8 := UInt8.ofNat (2 ^ j)
theorem bitN_ne (j : Nat) (h : j < 8) : bitN j ≠ 0 := by
  rcases (by omega : j = 0 ∨ j = 1 ∨ j = 2 ∨ j = 3 ∨ j = 4 ∨ j = 5 ∨ j = 6 ∨ j = 7) with rfl | rfl | rfl | rfl | rfl | rfl | rfl | rfl <;> decide
theorem b_shl (t : TypeId) (j : Nat) (h : j < 8) : binOp .shl t (.int .u8 1) (.int .i64 (j : Int)) = pure (.int .u8 ((bitN j).toNat : Int)) := by
  rcases (by omega : j = 0 ∨ j = 1 ∨ j = 2 ∨ j = 3 ∨ j = 4 ∨ j = 5 ∨ j = 6 ∨ j = 7) with rfl | rfl | rfl | rfl | rfl | rfl | rfl | rfl <;> rfl
theorem xor_ne (x b : UInt8) (h : b ≠ 0) : x ^^^ b ≠ x := by
  intro e
  apply h
  have := congrArg (x ^^^ ·) e
  simpa [← UInt8.xor_assoc, UInt8.xor_self] using this
theorem set_ne (m : List UInt8) (i : Nat) (b : UInt8) (hi : i < m.length) (h : b ≠ 0) : m.set i (m.getD i 0 ^^^ b) ≠ m := by
  intro e
  have := congrArg (fun l => l.getD i 0) e
  simp [hi] at this
  exact xor_ne _ _ h this
theorem isTag_self (m : List UInt8) : isTag m m = true := by rw [isTag_eq]; simp
theorem isTag_take (m : List UInt8) : isTag m (m.take 16) = true := by rw [isTag_eq]; simp
theorem isTag_20 (m : List UInt8) (hm : m.length = 32) : isTag m (m.take 20) = false := isTag_other m _ hm (by rw [List.length_take]; omega) (by rw [List.length_take]; omega)
theorem isTag_turned (m : List UInt8) (i : Nat) (b : UInt8) (hm : m.length = 32) (hi : i < 16) (h : b ≠ 0) : isTag m (m.set i (m.getD i 0 ^^^ b)) = false := by
  rw [isTag_eq, Bool.or_eq_false_iff, beq_eq_false_iff_ne, beq_eq_false_iff_ne]
  refine ⟨set_ne m i b (by omega) h, fun e => ?_⟩
  have := congrArg List.length e
  rw [List.length_set, List.length_take] at this
  omega
theorem isTag_turned16 (m : List UInt8) (i : Nat) (b : UInt8) (hm : m.length = 32) (hi : i < 16) (h : b ≠ 0) : isTag m ((m.take 16).set i ((m.take 16).getD i 0 ^^^ b)) = false := by
  rw [isTag_eq, Bool.or_eq_false_iff, beq_eq_false_iff_ne, beq_eq_false_iff_ne]
  refine ⟨fun e => ?_, set_ne (m.take 16) i b (by rw [List.length_take]; omega) h⟩
  have := congrArg List.length e
  rw [List.length_set, List.length_take] at this
  omega
theorem kk_of (n : Int) : ∃ kk : Nat, kk < 128 ∧ wrap64 ((IntKind.u64.wrap n).tmod 128) = (kk : Int) := by
  have h1 : IntKind.u64.wrap n = n % 18446744073709551616 := by simp [IntKind.wrap, IntKind.signed, IntKind.bits]
  have h0 : 0 ≤ n % 18446744073709551616 := Int.emod_nonneg _ (by omega)
  refine ⟨(n % 18446744073709551616 % 128).toNat, by omega, ?_⟩
  rw [h1, Int.tmod_eq_emod_of_nonneg h0]
  have h3 : wrap64 (n % 18446744073709551616 % 128) = n % 18446744073709551616 % 128 := by unfold wrap64; omega
  rw [h3]
  omega
/-- What holds while the law goes on: the tag and the short tag. -/
structure LtW (w : World) (m : List UInt8) (C : Nat) (s : List UInt8) (D : Nat) (W : World) : Prop where
  hsh : At W C (ubs m).toArray 36
  sh : At W D (ubs s).toArray 5
  hC : w.heap.size ≤ C
  hD : w.heap.size ≤ D
  below : Below w.heap.size w W
theorem LtW.next {w W W' : World} {m s : List UInt8} {C D : Nat} (h : LtW w m C s D W) (hb : Below W.heap.size W W') : LtW w m C s D W' :=
  ⟨h.hsh.new_ hb, h.sh.new_ hb, h.hC, h.hD, h.below.trans (hb.mono h.below.size)⟩
theorem LtW.drew {w W : World} {m s : List UInt8} {C D : Nat} (h : LtW w m C s D W) : LtW w m C s D W.drew := ⟨h.hsh, h.sh, h.hC, h.hD, below_drewN h.below 1⟩
theorem LtW.ne {w W : World} {m s : List UInt8} {C D : Nat} (h : LtW w m C s D W) : C ≠ D := h.hsh.ne h.sh (by decide)
theorem LtW.put {w W : World} {m s : List UInt8} {C D : Nat} (h : LtW w m C s D W) (i : Nat) (b : UInt8) : LtW w (m.set i b) C s D (W.setCell ⟨C, i, none⟩ (.int .u8 (b.toNat : Int))) :=
  ⟨at_ub_put h.hsh i b, h.sh.far (p := ⟨C, i, none⟩) (Ne.symm h.ne) _, h.hC, h.hD, h.below.setCell (p := ⟨C, i, none⟩) h.hC _⟩
theorem LtW.put2 {w W : World} {m s : List UInt8} {C D : Nat} (h : LtW w m C s D W) (i : Nat) (b : UInt8) : LtW w m C (s.set i b) D (W.setCell ⟨D, i, none⟩ (.int .u8 (b.toNat : Int))) :=
  ⟨h.hsh.far (p := ⟨D, i, none⟩) h.ne _, at_ub_put h.sh i b, h.hC, h.hD, h.below.setCell (p := ⟨D, i, none⟩) h.hD _⟩
set_option maxRecDepth 100000 in
set_option maxHeartbeats 16000000 in
theorem turns_law (k a : List UInt8) (n : Int) (K A : Option Addr) (ck ca : Nat) (w : World) (hk : Rb w w.heap.size K k) (ha : Rb w w.heap.size A a)
    (lk : k.length ≤ 140737488351232) (la : a.length ≤ 140737488351232) (hT : Tabs w) :
    Calls Tryd.prog 7 #[.slice K k.length ck, .slice A a.length ca, .int .i64 n] w fun e w' => e = .returned (.bool true) ∧ Below w.heap.size w w' := by
  have HT := hid hT
  by_cases hbig : 3000 < k.length + a.length
  · obtain ⟨y, hy⟩ : ∃ x, x = k.length := ⟨_, rfl⟩
    obtain ⟨z, hz⟩ : ∃ x, x = a.length := ⟨_, rfl⟩
    rw [← hy] at lk hbig ⊢
    rw [← hz] at la hbig ⊢
    clear hy hz hk ha hT
    go_enter Tryd.func7, Tryd.ntmps7
    go_wp2_with (go_at_call 13; refine (alive3_any _ HT.out).mono ?_; rintro e w1 ⟨rfl, hb1⟩; have HB1 := hid hb1; clear hb1)
    go_ret
    exact ⟨rfl, HB1.out⟩
  · obtain ⟨m, hm⟩ : ∃ m, m = macL k a := ⟨_, rfl⟩
    have HML := hid (show m.length = 32 by rw [hm, macL_length])
    have HD := hid (fun (W : World) (h : Below w.heap.size w W) => handed1 ((hk.below h).mono h.size) ((ha.below h).mono h.size) ca (hT.below h) (by omega) (by omega))
    have KM := hid (fun (W : World) (h : Below w.heap.size w W) => show Calls Tryd.prog 16 #[.slice K k.length ck, .slice (some ⟨W.heap.size, 0, none⟩) 1 1] (W.alloc (.cells #[.slice A a.length ca] 34)) (fun e w' => e = .returned (.agg (ubs m).toArray) ∧ Below (W.alloc (.cells #[.slice A a.length ca] 34)).heap.size (W.alloc (.cells #[.slice A a.length ca] 34)) w') by
      have := (HD.out W h).mac ck 1
      rw [joined_p1, ← hm] at this
      exact this)
    have KS := hid (fun (W : World) (h : Below w.heap.size w W) => show Calls Tryd.prog 18 #[.slice K k.length ck, .slice (some ⟨W.heap.size, 0, none⟩) 1 1] (W.alloc (.cells #[.slice A a.length ca] 34)) (fun e w' => ∃ g, e = .returned (.slice (some ⟨g, 0, none⟩) 16 16) ∧ At w' g (ubs (m.take 16)).toArray 5 ∧ (W.alloc (.cells #[.slice A a.length ca] 34)).heap.size ≤ g ∧ Below (W.alloc (.cells #[.slice A a.length ca] 34)).heap.size (W.alloc (.cells #[.slice A a.length ca] 34)) w') by
      have := short_any k K ck (p1 a A ca) (some ⟨W.heap.size, 0, none⟩) 1 _ (HD.out W h)
      rw [joined_p1, ← hm] at this
      exact this)
    have KC := hid (fun (W : World) (h : Below w.heap.size w W) (t : List UInt8) (T : Option Addr) (l ct : Nat) (b : Bool) (ht : Rb W W.heap.size T t) (hl : t.length = l) (lt : l ≤ 100) (hb : isTag m t = b) => show Calls Tryd.prog 20 #[.slice T l ct, .slice K k.length ck, .slice (some ⟨W.heap.size, 0, none⟩) 1 1] (W.alloc (.cells #[.slice A a.length ca] 34)) (fun e w' => e = .returned (.bool b) ∧ Below (W.alloc (.cells #[.slice A a.length ca] 34)).heap.size (W.alloc (.cells #[.slice A a.length ca] 34)) w') by
      have hb2 : Below W.heap.size W (W.alloc (.cells #[.slice A a.length ca] 34)) := (Below.refl _ _).alloc (Nat.le_refl _) _
      have := check_any t T ct k K ck (p1 a A ca) (some ⟨W.heap.size, 0, none⟩) 1 _ ((ht.below hb2).mono hb2.size) (by omega) (HD.out W h)
      rw [joined_p1, ← hm, hl, hb] at this
      exact this)
    have HS := hid (show (Tryd.prog.info? 36).map (·.size) = some (ubs m).toArray.size by rw [sizeH]; simp [ubs_length, HML.out])
    have T1 := hid (isTag_self m)
    have T2 := hid (isTag_take m)
    have T3 := hid (isTag_20 m HML.out)
    have BL := hid (fun (W : World) (h : Below w.heap.size w W) => (h.alloc h.size (.cells #[.slice A a.length ca] 34) : Below w.heap.size w (W.alloc (.cells #[.slice A a.length ca] 34))))
    obtain ⟨kk, hkk, hkn⟩ := kk_of n
    obtain ⟨y, hy⟩ : ∃ x, x = k.length := ⟨_, rfl⟩
    obtain ⟨z, hz⟩ : ∃ x, x = a.length := ⟨_, rfl⟩
    rw [← hy] at KM KS KC lk hbig ⊢
    rw [← hz] at KM KS KC BL la hbig ⊢
    have hz32 := noughts32
    clear hm hy hz hk ha hT
    have tok1 : Hid True := trivial
    have tok2 : Hid True := trivial
    go_enter Tryd.func7, Tryd.ntmps7
    go_upto_region 10 with (first
      | (go_at_call 13; refine (alive3_any _ HT.out).mono ?_; rintro e w1 ⟨rfl, hb1⟩; have B1 := hid hb1; clear hb1)
      | (go_at_call 16; refine (KM.out w1 B1.out).mono ?_; rintro e w2 ⟨rfl, hb2⟩; have B2 := hid ((BL.out w1 B1.out).trans (hb2.mono (BL.out w1 B1.out).size)); clear hb2)
      | (refine wpList_store_row rfl _ (.tmp 7) (.tmp 21) rfl w2.heap.size (ubs m).toArray rfl rfl 36 (ubs n32).toArray (heap_alloc_new _ _) HS.out ?e3 (ubs_all _) ?e4; rotate_right; have B3 := hid (B2.out.trans ((stored_below w2 m).mono B2.out.size)); have A3 := hid (stored_at w2 m); have C3 := hid B2.out.size; generalize ((w2.alloc (.cells (ubs n32).toArray 36)).setRow w2.heap.size (ubs m).toArray) = w3 at B3 A3 ⊢)
      | (go_at_call 18; refine (KS.out w3 B3.out).mono ?_; rintro e w4 ⟨g, rfl, hA4, hg4, hb4⟩; have L4 := hid (show LtW w m w2.heap.size (m.take 16) g w4 from ⟨(A3.out.alloc (.cells #[.slice A z ca] 34)).new_ hb4, hA4, C3.out, Nat.le_trans (BL.out w3 B3.out).size hg4, (BL.out w3 B3.out).trans (hb4.mono (BL.out w3 B3.out).size)⟩); clear hA4 hg4 hb4)
      | (go_at_call 20; have _t := tok1; clear tok1 _t; refine (KC.out w4 L4.out.below m (some ⟨w2.heap.size, 0, none⟩) 32 32 true (rb_at L4.out.hsh) HML.out (by omega) T1.out).mono ?_; rintro e w5 ⟨rfl, hb5⟩; have L5 := hid (L4.out.next (((Below.refl _ _).alloc (Nat.le_refl _) _).trans (hb5.mono (by simp)))); clear hb5)
      | (go_at_call 20; have _t := tok2; clear tok2 _t; refine (KC.out w5 L5.out.below (m.take 16) (some ⟨g, 0, none⟩) 16 16 true (rb_at L5.out.sh) (by rw [List.length_take, HML.out]; rfl) (by omega) T2.out).mono ?_; rintro e w6 ⟨rfl, hb6⟩; have L6 := hid (L5.out.next (((Below.refl _ _).alloc (Nat.le_refl _) _).trans (hb6.mono (by simp)))); clear hb6)
      | (go_at_call 20; refine (KC.out w6 L6.out.below (m.take 20) (some ⟨w2.heap.size, 0, none⟩) 20 32 false (rb_take (rb_at L6.out.hsh) 20) (by rw [List.length_take, HML.out]; rfl) (by omega) T3.out).mono ?_; rintro e w7 ⟨rfl, hb7⟩; have L7 := hid (L6.out.next (((Below.refl _ _).alloc (Nat.le_refl _) _).trans (hb7.mono (by simp)))); clear hb7))
    case e3 => simp [ubs_length, n32_length, HML.out]
    obtain ⟨i, hi⟩ : ∃ i, i = kk / 8 := ⟨_, rfl⟩
    obtain ⟨j, hj⟩ : ∃ j, j = kk % 8 := ⟨_, rfl⟩
    have hi2 : (kk : Int).tdiv 8 = (i : Int) := by rw [Int.tdiv_eq_ediv_of_nonneg (by omega)]; omega
    have hj2 : (kk : Int).tmod 8 = (j : Int) := by rw [Int.tmod_eq_emod_of_nonneg (by omega)]; omega
    have hi16 : i < 16 := by omega
    have hj8 : j < 8 := by omega
    have hsh := b_shl 5 j hj8
    have T4 := hid (isTag_turned m i (bitN j) HML.out hi16 (bitN_ne j hj8))
    have T5 := hid (isTag_turned16 m i (bitN j) HML.out hi16 (bitN_ne j hj8))
    obtain ⟨x, hx⟩ : ∃ x, x = m.getD i 0 := ⟨_, rfl⟩
    obtain ⟨x2, hx2⟩ : ∃ x, x = (m.take 16).getD i 0 := ⟨_, rfl⟩
    rw [← hx] at T4
    rw [← hx2] at T5
    have hx1 := b_xor 5 x (bitN j)
    have hx3 := b_xor 5 x2 (bitN j)
    obtain ⟨b, hb⟩ : ∃ b, b = bitN j := ⟨_, rfl⟩
    rw [← hb] at hsh hx1 hx3 T4 T5
    obtain ⟨y1, hy1⟩ : ∃ y, y = x ^^^ b := ⟨_, rfl⟩
    obtain ⟨y2, hy2⟩ : ∃ y, y = x2 ^^^ b := ⟨_, rfl⟩
    rw [← hy1] at hx1 T4
    rw [← hy2] at hx3 T5
    have HX := hid hx
    have HX2 := hid hx2
    have HMI := hid (show i < m.length by rw [HML.out]; omega)
    have HMI2 := hid (show i < (m.take 16).length by rw [List.length_take, HML.out]; omega)
    clear hi hj hb hy1 hy2 hx hx2
    have L7d := hid L7.out.drew
    clear L7 L6 L5 L4 A3 B3 B2 B1
    refine wp_region_upto (LtW w m w2.heap.size (m.take 16) g) 9 10 (by kernel_rfl) (by kernel_rfl) ?_
    generalize w7.drew = V0 at L7d ⊢
    refine wpUpto_take (i := 0) (v := .int .i64 (kk : Int)) rfl (by kernel_rfl) (by kernel_rfl) (by kernel_rfl) (by kernel_rfl) (by decide) (fun _ _ _ h => h) (Or.inl ⟨by rfl, ?_⟩) L7d.out ?_
    · (intro W hSW; go_simp)
    refine wpUpto_take (i := 1) (v := .int .i64 (i : Int)) rfl (by kernel_rfl) (by kernel_rfl) (by kernel_rfl) (by kernel_rfl) (by decide) (fun _ _ _ h => h) (Or.inl ⟨by rfl, ?_⟩) L7d.out ?_
    · (intro W hSW; go_simp; rw [IntKind.wrap_i64]; omega)
    refine wpUpto_take (i := 2) (v := .pointer (some ⟨w2.heap.size, i, none⟩)) rfl (by kernel_rfl) (by kernel_rfl) (by kernel_rfl) (by kernel_rfl) (by decide) (fun _ _ _ h => h) (Or.inl ⟨by rfl, ?_⟩) L7d.out ?_
    · (intro W hSW; go_simp; exact fun h => absurd h (by omega))
    refine wpUpto_take (i := 3) (v := .int .u8 (x.toNat : Int)) rfl (by kernel_rfl) (by kernel_rfl) (by kernel_rfl) (by kernel_rfl) (by decide) (fun _ _ _ h => h) (Or.inl ⟨by rfl, ?_⟩) L7d.out ?_
    · (intro W hSW; have c0 := at_ub_cell hSW.hsh HMI.out; rw [← HX.out] at c0; go_simp)
    refine wpUpto_take (i := 4) (v := .int .i64 (kk : Int)) rfl (by kernel_rfl) (by kernel_rfl) (by kernel_rfl) (by kernel_rfl) (by decide) (fun _ _ _ h => h) (Or.inl ⟨by rfl, ?_⟩) L7d.out ?_
    · (intro W hSW; go_simp)
    refine wpUpto_take (i := 5) (v := .int .i64 (j : Int)) rfl (by kernel_rfl) (by kernel_rfl) (by kernel_rfl) (by kernel_rfl) (by decide) (fun _ _ _ h => h) (Or.inl ⟨by rfl, ?_⟩) L7d.out ?_
    · (intro W hSW; go_simp)
    refine wpUpto_take (i := 6) (v := .int .u8 (b.toNat : Int)) rfl (by kernel_rfl) (by kernel_rfl) (by kernel_rfl) (by kernel_rfl) (by decide) (fun _ _ _ h => h) (Or.inl ⟨by rfl, ?_⟩) L7d.out ?_
    · (intro W hSW; go_simp)
    refine wpUpto_take (i := 7) (v := .int .u8 (y1.toNat : Int)) rfl (by kernel_rfl) (by kernel_rfl) (by kernel_rfl) (by kernel_rfl) (by decide) (fun _ _ _ h => h) (Or.inl ⟨by rfl, ?_⟩) L7d.out ?_
    · (intro W hSW; go_simp)
    refine wpUpto_take (i := 8) (v := .pointer (some ⟨w2.heap.size, i, none⟩)) rfl (by kernel_rfl) (by kernel_rfl) (by kernel_rfl) (by kernel_rfl) (by decide) (fun _ _ _ h => h) (Or.inl ⟨by rfl, ?_⟩) L7d.out ?_
    · (intro W hSW; go_simp; exact fun h => absurd h (by omega))
    try simp only [Act.put, List.setIfInBounds_toArray]
    refine wpUpto_one (i := 9) rfl (by kernel_rfl) rfl ?_
    intro Q0 hQ0
    have c0 := at_ub_cell L7d.out.hsh HMI.out
    have f0 := L7d.out.hsh.frozen i
    go_simp
    refine hQ0.out _ _ (fun h => absurd rfl h) ?_
    clear hQ0 Q0 c0 f0
    refine wpUpto_done (by kernel_rfl) ?_ _
    have L8 := hid (L7d.out.put i y1)
    generalize V0.setCell ⟨w2.heap.size, i, none⟩ (.int .u8 (y1.toNat : Int)) = V1 at L8 ⊢
    clear L7d
    go_simp
    go_wp2
    have L8d := hid L8.out.drew
    clear L8
    refine wp_region_upto (LtW w (m.set i y1) w2.heap.size (m.take 16) g) 10 11 (by kernel_rfl) (by kernel_rfl) ?_
    generalize V1.drew = V2 at L8d ⊢
    refine wpUpto_take (i := 0) (v := .slice (some ⟨g, 0, none⟩) 16 16) rfl (by kernel_rfl) (by kernel_rfl) (by kernel_rfl) (by kernel_rfl) (by decide) (fun _ _ _ h => h) (Or.inl ⟨by rfl, ?_⟩) L8d.out ?_
    · (intro W hSW; go_simp)
    refine wpUpto_take (i := 1) (v := .int .i64 (kk : Int)) rfl (by kernel_rfl) (by kernel_rfl) (by kernel_rfl) (by kernel_rfl) (by decide) (fun _ _ _ h => h) (Or.inl ⟨by rfl, ?_⟩) L8d.out ?_
    · (intro W hSW; go_simp)
    refine wpUpto_take (i := 2) (v := .int .i64 (i : Int)) rfl (by kernel_rfl) (by kernel_rfl) (by kernel_rfl) (by kernel_rfl) (by decide) (fun _ _ _ h => h) (Or.inl ⟨by rfl, ?_⟩) L8d.out ?_
    · (intro W hSW; go_simp; rw [IntKind.wrap_i64]; omega)
    refine wpUpto_take (i := 3) (v := .pointer (some ⟨g, i, none⟩)) rfl (by kernel_rfl) (by kernel_rfl) (by kernel_rfl) (by kernel_rfl) (by decide) (fun _ _ _ h => h) (Or.inl ⟨by rfl, ?_⟩) L8d.out ?_
    · (intro W hSW; go_simp; exact fun h => absurd h (by omega))
    refine wpUpto_take (i := 4) (v := .int .u8 (x2.toNat : Int)) rfl (by kernel_rfl) (by kernel_rfl) (by kernel_rfl) (by kernel_rfl) (by decide) (fun _ _ _ h => h) (Or.inl ⟨by rfl, ?_⟩) L8d.out ?_
    · (intro W hSW; have c0 := at_ub_cell hSW.sh HMI2.out; rw [← HX2.out] at c0; go_simp)
    refine wpUpto_take (i := 5) (v := .int .i64 (kk : Int)) rfl (by kernel_rfl) (by kernel_rfl) (by kernel_rfl) (by kernel_rfl) (by decide) (fun _ _ _ h => h) (Or.inl ⟨by rfl, ?_⟩) L8d.out ?_
    · (intro W hSW; go_simp)
    refine wpUpto_take (i := 6) (v := .int .i64 (j : Int)) rfl (by kernel_rfl) (by kernel_rfl) (by kernel_rfl) (by kernel_rfl) (by decide) (fun _ _ _ h => h) (Or.inl ⟨by rfl, ?_⟩) L8d.out ?_
    · (intro W hSW; go_simp)
    refine wpUpto_take (i := 7) (v := .int .u8 (b.toNat : Int)) rfl (by kernel_rfl) (by kernel_rfl) (by kernel_rfl) (by kernel_rfl) (by decide) (fun _ _ _ h => h) (Or.inl ⟨by rfl, ?_⟩) L8d.out ?_
    · (intro W hSW; go_simp)
    refine wpUpto_take (i := 8) (v := .int .u8 (y2.toNat : Int)) rfl (by kernel_rfl) (by kernel_rfl) (by kernel_rfl) (by kernel_rfl) (by decide) (fun _ _ _ h => h) (Or.inl ⟨by rfl, ?_⟩) L8d.out ?_
    · (intro W hSW; go_simp)
    refine wpUpto_take (i := 9) (v := .pointer (some ⟨g, i, none⟩)) rfl (by kernel_rfl) (by kernel_rfl) (by kernel_rfl) (by kernel_rfl) (by decide) (fun _ _ _ h => h) (Or.inl ⟨by rfl, ?_⟩) L8d.out ?_
    · (intro W hSW; go_simp; exact fun h => absurd h (by omega))
    try simp only [Act.put, List.setIfInBounds_toArray]
    refine wpUpto_one (i := 10) rfl (by kernel_rfl) rfl ?_
    intro Q0 hQ0
    have c0 := at_ub_cell L8d.out.sh HMI2.out
    have f0 := L8d.out.sh.frozen i
    go_simp
    refine hQ0.out _ _ (fun h => absurd rfl h) ?_
    clear hQ0 Q0 c0 f0
    refine wpUpto_done (by kernel_rfl) ?_ _
    have L9 := hid (L8d.out.put2 i y2)
    generalize V2.setCell ⟨g, i, none⟩ (.int .u8 (y2.toNat : Int)) = V3 at L9 ⊢
    clear L8d
    have HML2 := hid (show (m.set i y1).length = 32 by rw [List.length_set]; exact HML.out)
    have HML3 := hid (show ((m.take 16).set i y2).length = 16 by rw [List.length_set, List.length_take, HML.out]; rfl)
    have tok3 : Hid True := trivial
    go_simp
    go_wp2_with (first
      | (go_at_call 20; have _t := tok3; clear tok3 _t; refine (KC.out V3 L9.out.below (m.set i y1) (some ⟨w2.heap.size, 0, none⟩) 32 32 false (rb_at L9.out.hsh) HML2.out (by omega) T4.out).mono ?_; rintro e w8 ⟨rfl, hb8⟩; have L10 := hid (L9.out.next (((Below.refl _ _).alloc (Nat.le_refl _) _).trans (hb8.mono (by simp)))); clear hb8)
      | (go_at_call 20; refine (KC.out w8 L10.out.below ((m.take 16).set i y2) (some ⟨g, 0, none⟩) 16 16 false (rb_at L10.out.sh) HML3.out (by omega) T5.out).mono ?_; rintro e w9 ⟨rfl, hb9⟩; have L11 := hid (L10.out.next (((Below.refl _ _).alloc (Nat.le_refl _) _).trans (hb9.mono (by simp)))); clear hb9))
    go_ret
    exact ⟨rfl, L11.out.below⟩
end Go.Proofs.YtobehmjmmnmflaaDoor
