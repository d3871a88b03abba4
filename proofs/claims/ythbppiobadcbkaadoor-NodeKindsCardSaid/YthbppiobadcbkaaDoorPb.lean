/-
  The program's layer 8: hashes of leaves and of nodes; what a text is of.
-/
import Derived.Test.YthbppiobadcbkaaDoorPa
namespace Go.Proofs.YthbppiobadcbkaaDoor
open Go.RowKit

set_option maxRecDepth 100000 in
set_option maxHeartbeats 1000000 in
theorem phashOf_ok (bs : List UInt8) (A : Option Addr) (c : Nat) (w : World) (hr : Rb w w.heap.size A bs) (hl : bs.length ≤ 1000000) (hT : Tabs w) :
    Calls Tryd.prog 25 #[.slice A bs.length c, .nilIface] w fun r w' => r = .returned (.tuple #[.agg (ubs (hashL bs)).toArray, .nilIface]) ∧ Below w.heap.size w w' := by
  have hb0 : Below w.heap.size w (w.alloc (.cells (ubs n32).toArray 29)) := (Below.refl _ _).alloc (Nat.le_refl _) _
  have HS := hid (sum_any bs A c (w.alloc (.cells (ubs n32).toArray 29)) ((hr.below hb0).mono (by simp)) (by omega) (hT.below hb0))
  have H0 := hid (At.new w (ubs n32).toArray 29)
  have HB0 := hid hb0
  have HML := hid (hashL_length bs)
  have HAH := hid (fun (o : Oper) (a : Go.Act) (W : World) (h : o.op = .alloc 29) => run_alloc_of (o := o) (a := a) (W := W) _ h _ zeroH8)
  generalize hashL bs = m at HS HML ⊢
  generalize bs.length = n at HS ⊢
  clear hr hl hT hb0
  go_enter Tryd.func25, Tryd.ntmps25
  go_wp2_with (first
    | (refine Great.wpList_allocTo rfl _ rfl _ _ (HAH.out _ _ _ rfl) ?_)
    | (go_at_call 39; refine HS.out.mono ?_; rintro e1 w1 ⟨rfl, hb1⟩; have H1 := hid (H0.out.new_ hb1); have B1 := hid (HB0.out.trans (hb1.mono HB0.out.size)); clear hb1)
    | (refine wpList_store_row rfl _ (.tmp 4) (.tmp 11) rfl w.heap.size (ubs m).toArray rfl rfl 29 (ubs n32).toArray H1.out (sizeH_of HML.out) ?e5 (ubs_all _) ?e6; rotate_right))
  case e5 => simp [ubs_length, n32_length, HML.out]
  refine bodyPost_ret (results_row_tmp rfl _ _ w.heap.size 29 (ubs m).toArray (0, 0) _ rfl (setRow_heap _ _ _ _ _ _ H1.out) Tryd.underlying29 rfl (sizeH_of HML.out)) rfl ?_
  exact ⟨rfl, below_setRow B1.out (Nat.le_refl _) _⟩
set_option maxRecDepth 100000 in
set_option maxHeartbeats 1000000 in
theorem phashOf_no (v : Value) (w : World) :
    Calls Tryd.prog 25 #[v, errV 1] w fun r w' => r = .returned (.tuple #[.agg (ubs n32).toArray, errV 1]) ∧ Below w.heap.size w w' := by
  have H0 := hid (At.new w (ubs n32).toArray 29)
  have HB0 := hid ((Below.refl w.heap.size w).alloc (Nat.le_refl _) (.cells (ubs n32).toArray 29))
  have HML := hid n32_length
  have HAH := hid (fun (o : Oper) (a : Go.Act) (W : World) (h : o.op = .alloc 29) => run_alloc_of (o := o) (a := a) (W := W) _ h _ zeroH8)
  have e : errV 1 = .iface 38 (.int .i64 1) := rfl
  rw [e]
  clear e
  obtain ⟨m, hm⟩ : ∃ m, m = n32 := ⟨_, rfl⟩
  have HBH := hid (fun (o : Oper) (a : Go.Act) (W : World) (h : o.op = .build 29 #[]) => show (execOp a.eval o).run Tryd.prog W = .ok (.value (.agg (ubs m).toArray)) W by rw [hm]; exact run_build_hash0 h)
  rw [← hm] at HML ⊢
  have HNL := hid n32_length
  clear hm
  go_enter Tryd.func25, Tryd.ntmps25
  go_wp2_with (first
    | (refine Great.wpList_allocTo rfl _ rfl _ _ (HAH.out _ _ _ rfl) ?_)
    | (refine wpList_valW (by rfl) (HBH.out _ _ _ rfl) ?_)
    | (refine wpList_store_row rfl _ (.tmp 4) (.tmp 8) rfl w.heap.size (ubs m).toArray rfl rfl 29 (ubs n32).toArray H0.out (sizeH_of HML.out) ?e5 (ubs_all _) ?e6; rotate_right))
  case e5 => simp [ubs_length, HNL.out, HML.out]
  refine bodyPost_ret (results_row_tmp rfl _ _ w.heap.size 29 (ubs m).toArray (0, 0) _ rfl (setRow_heap _ _ _ _ _ _ H0.out) Tryd.underlying29 rfl (sizeH_of HML.out)) rfl ?_
  exact ⟨rfl, below_setRow HB0.out (Nat.le_refl _) _⟩
/-- A text's hash, or the error for which there is none. -/
theorem phashOf_any (g : Bool) (bs : List UInt8) (A : Option Addr) (c : Nat) (w : World) (hr : Rb w w.heap.size A bs) (hl : bs.length ≤ 1000000) (hT : Tabs w) :
    Calls Tryd.prog 25 #[.slice A bs.length c, errV (if g then 0 else 1)] w fun r w' => r = .returned (.tuple #[.agg (ubs (if g then hashL bs else n32)).toArray, errV (if g then 0 else 1)]) ∧ Below w.heap.size w w' := by
  cases g with
  | true => exact phashOf_ok bs A c w hr hl hT
  | false => exact phashOf_no _ w
set_option maxRecDepth 100000 in
set_option maxHeartbeats 1000000 in
theorem pleaf_any (d t : List UInt8) (i e : Nat) (w : World) (hd : d.length = 32) (ht : t.length = 16) (hi : i < 18446744073709551616) (he : e < 18446744073709551616) (hT : Tabs w) :
    Calls Tryd.prog 8 #[.int .u64 (i : Int), .agg (sv e d t).toArray] w fun r w' => r = .returned (.tuple #[.agg (ubs (lfH i e d t)).toArray, errV (if ixB i then 0 else 1)]) ∧ Below w.heap.size w w' := by
  have H0 := hid ((At.new w (sv e d t).toArray 27).alloc (.cells (ubs n32).toArray 29))
  have H1 := hid (show At ((w.alloc (.cells (sv e d t).toArray 27)).alloc (.cells (ubs n32).toArray 29)) (w.heap.size + 1) (ubs n32).toArray 29 from At.new_at (by simp))
  have HB := hid (((Below.refl w.heap.size w).alloc (Nat.le_refl _) (.cells (sv e d t).toArray 27)).alloc (by simp) (.cells (ubs n32).toArray 29))
  have HX := hid (fun W => pleafText_any d t i e W hd ht hi he)
  have hH : (if ixB i then hashL (lfT i e d t) else n32) = lfH i e d t := by
    rw [lfH, lfT]
    cases ixB i <;> rfl
  have hll : (lfT i e d t).length ≤ 1000000 := by
    rw [lfT]
    cases ixB i
    · simp
    · simp [leafT_length i e d t hd ht]
  have HML := hid (show (lfH i e d t).length = 32 by
    rw [lfH]
    cases ixB i
    · exact n32_length
    · exact hashL_length _)
  obtain ⟨kx, hkx⟩ : ∃ k, k = if ixB i then 0 else 1 := ⟨_, rfl⟩
  have HS := hid (fun (W : World) (A : Option Addr) (c : Nat) (h : Below w.heap.size w W) (hA : Rb W W.heap.size A (lfT i e d t)) => show Calls Tryd.prog 25 #[.slice A (lfT i e d t).length c, errV kx] W (fun r w' => r = .returned (.tuple #[.agg (ubs (lfH i e d t)).toArray, errV kx]) ∧ Below W.heap.size W w') by
    have := phashOf_any (ixB i) (lfT i e d t) A c W hA hll (hT.below h)
    rwa [← hkx, hH] at this)
  rw [← hkx] at HX ⊢
  have LX := hid (sv_length e d t hd ht)
  have HAH := hid (fun (o : Oper) (a : Go.Act) (W : World) (h : o.op = .alloc 29) => run_alloc_of (o := o) (a := a) (W := W) _ h _ zeroH8)
  generalize sv e d t = x at H0 H1 HB HX LX ⊢
  generalize lfH i e d t = m at HS HML ⊢
  generalize lfT i e d t = lt at HX HS
  generalize hln : lt.length = ln at HX HS
  clear hd ht hi he hT hH hll hkx hln
  go_enter Tryd.func8, Tryd.ntmps8
  go_wp2_with (first
    | (refine Great.wpList_allocTo rfl _ rfl _ _ (HAH.out _ _ _ rfl) ?_)
    | (refine wpList_load_row rfl _ (.tmp 3) rfl w.heap.size rfl 27 x.toArray (0, 0) _ H0.out Tryd.underlying27 rfl (sizePs_of LX.out) ?_)
    | (go_at_call 9; refine (HX.out _).mono ?_; rintro e1 w1 ⟨A1, c1, rfl, hA1, hb1⟩; have H2 := hid (H1.out.new_ hb1); have B2 := hid (HB.out.trans (hb1.mono HB.out.size)); have S2 := hid (HS.out w1 A1 c1 B2.out hA1); clear hA1 hb1)
    | (go_at_call 25; refine S2.out.mono ?_; rintro e2 w2 ⟨rfl, hb2⟩; have H3 := hid (H2.out.new_ hb2); have B3 := hid (B2.out.trans (hb2.mono B2.out.size)); clear hb2)
    | (refine wpList_store_row rfl _ (.tmp 4) (.tmp 12) rfl (w.heap.size + 1) (ubs m).toArray rfl rfl 29 (ubs n32).toArray H3.out (sizeH_of HML.out) ?e5 (ubs_all _) ?e6; rotate_right))
  case e5 => simp [ubs_length, n32_length, HML.out]
  refine bodyPost_ret (results_row_tmp rfl _ _ (w.heap.size + 1) 29 (ubs m).toArray (0, 0) _ rfl (setRow_heap _ _ _ _ _ _ H3.out) Tryd.underlying29 rfl (sizeH_of HML.out)) rfl ?_
  exact ⟨rfl, below_setRow B3.out (by omega) _⟩
set_option maxRecDepth 100000 in
set_option maxHeartbeats 1000000 in
theorem pjoin_any (h : Int) (l r : List UInt8) (w : World) (hl : l.length = 32) (hr : r.length = 32) (hT : Tabs w) :
    Calls Tryd.prog 16 #[.int .i64 h, .agg (ubs l).toArray, .agg (ubs r).toArray] w fun e w' => e = .returned (.tuple #[.agg (ubs (jnH h l r)).toArray, errV (if htB h then 0 else 1)]) ∧ Below w.heap.size w w' := by
  obtain ⟨W0, hW0⟩ : ∃ W0, W0 = ((w.alloc (.cells (ubs l).toArray 29)).alloc (.cells (ubs r).toArray 29)).alloc (.cells (ubs n32).toArray 29) := ⟨_, rfl⟩
  have HA := hid (show At W0 w.heap.size (ubs l).toArray 29 by rw [hW0]; exact ((At.new _ _ _).alloc _).alloc _)
  have HC := hid (show At W0 (w.heap.size + 1) (ubs r).toArray 29 by rw [hW0]; exact (At.new_at (by simp)).alloc _)
  have H1 := hid (show At W0 (w.heap.size + 1 + 1) (ubs n32).toArray 29 by rw [hW0]; exact At.new_at (by simp))
  have HB := hid (show Below w.heap.size w W0 by rw [hW0]; exact (((Below.refl _ _).alloc (Nat.le_refl _) _).alloc (by simp) _).alloc (by simp; omega) _)
  have HX := hid (fun W => pjoinText_any h l r W hl hr)
  have hH : (if htB h then hashL (jnT h l r) else n32) = jnH h l r := by
    rw [jnH, jnT]
    cases htB h <;> rfl
  have hll : (jnT h l r).length ≤ 1000000 := by
    rw [jnT]
    cases htB h
    · simp
    · simp [joinT_length h.toNat l r hl hr]
  have HML := hid (show (jnH h l r).length = 32 by
    rw [jnH]
    cases htB h
    · exact n32_length
    · exact hashL_length _)
  obtain ⟨kx, hkx⟩ : ∃ k, k = if htB h then 0 else 1 := ⟨_, rfl⟩
  have HS := hid (fun (W : World) (A : Option Addr) (c : Nat) (hb : Below w.heap.size w W) (hA : Rb W W.heap.size A (jnT h l r)) => show Calls Tryd.prog 25 #[.slice A (jnT h l r).length c, errV kx] W (fun e w' => e = .returned (.tuple #[.agg (ubs (jnH h l r)).toArray, errV kx]) ∧ Below W.heap.size W w') by
    have := phashOf_any (htB h) (jnT h l r) A c W hA hll (hT.below hb)
    rwa [← hkx, hH] at this)
  rw [← hkx] at HX ⊢
  have HLL := hid hl
  have HRL := hid hr
  have HAH := hid (fun (o : Oper) (a : Go.Act) (W : World) (h : o.op = .alloc 29) => run_alloc_of (o := o) (a := a) (W := W) _ h _ zeroH8)
  generalize jnH h l r = m at HS HML ⊢
  generalize jnT h l r = lt at HX HS
  generalize hln : lt.length = ln at HX HS
  clear hl hr hT hH hll hkx hln
  subst hW0
  go_enter Tryd.func16, Tryd.ntmps16
  go_wp2_with (first
    | (refine Great.wpList_allocTo rfl _ rfl _ _ (HAH.out _ _ _ rfl) ?_)
    | (refine wpList_valW (by rfl) (run_loadH (.tmp 4) rfl w.heap.size 0 rfl l (range_whole HA.out) HLL.out) ?_)
    | (refine wpList_valW (by rfl) (run_loadH (.tmp 5) rfl (w.heap.size + 1) 0 rfl r (range_whole HC.out) HRL.out) ?_)
    | (go_at_call 17; refine (HX.out _).mono ?_; rintro e1 w1 ⟨A1, c1, rfl, hA1, hb1⟩; have H2 := hid (H1.out.new_ hb1); have B2 := hid (HB.out.trans (hb1.mono HB.out.size)); have S2 := hid (HS.out w1 A1 c1 B2.out hA1); clear hA1 hb1)
    | (go_at_call 25; refine S2.out.mono ?_; rintro e2 w2 ⟨rfl, hb2⟩; have H3 := hid (H2.out.new_ hb2); have B3 := hid (B2.out.trans (hb2.mono B2.out.size)); clear hb2)
    | (refine wpList_store_row rfl _ (.tmp 6) (.tmp 15) rfl (w.heap.size + 1 + 1) (ubs m).toArray rfl rfl 29 (ubs n32).toArray H3.out (sizeH_of HML.out) ?e5 (ubs_all _) ?e6; rotate_right))
  case e5 => simp [ubs_length, n32_length, HML.out]
  refine bodyPost_ret (results_row_tmp rfl _ _ (w.heap.size + 1 + 1) 29 (ubs m).toArray (0, 0) _ rfl (setRow_heap _ _ _ _ _ _ H3.out) Tryd.underlying29 rfl (sizeH_of HML.out)) rfl ?_
  exact ⟨rfl, below_setRow B3.out (by omega) _⟩
theorem leaf_c (w : World) (hT : Tabs w) : LeafC w := fun W i e d t hb hi he hd ht => pleaf_any d t i e W hd ht hi he (hT.below hb)
theorem join_c (w : World) (hT : Tabs w) : JoinC w := fun W h l r hb _ _ hl hr => pjoin_any h l r W hl hr (hT.below hb)
set_option maxRecDepth 100000 in
set_option maxHeartbeats 2000000 in
theorem pkind_any (b : List UInt8) (A : Option Addr) (c : Nat) (w : World) (hr : Rb w w.heap.size A b) :
    Calls Tryd.prog 15 #[.slice A b.length c] w fun e w' => e = .returned (.int .i64 (kindN b : Int)) ∧ w' = w := by
  obtain ⟨n, hn⟩ : ∃ n, n = b.length := ⟨_, rfl⟩
  by_cases h0 : n = 0
  · have hk : kindN b = 0 := by
      unfold kindN
      rw [← hn]
      simp [h0]
    rw [hk, ← hn]
    have c0 : ((n : Int) == 0) = true := by simp; omega
    clear hr hn hk h0
    go_enter Tryd.func15, Tryd.ntmps15
    go_wp2
    go_ret
    exact ⟨rfl, rfl⟩
  have c0 : ((n : Int) == 0) = false := by simp; omega
  have i0 : (0 : Int) < (n : Int) := by omega
  obtain ⟨B, o, rfl, q0⟩ := rb_cell hr (i := 0) (by omega)
  rw [Nat.add_zero] at q0
  generalize hx : b.getD 0 0 = x at q0
  obtain ⟨m, hm⟩ : ∃ m, m = x.toNat + 1 := ⟨_, rfl⟩
  have hlx := x.toNat_lt
  have ex : Go.RowKit.wrap64 (Go.RowKit.wrap64 (x.toNat : Int) + 1) = (m : Int) := by unfold Go.RowKit.wrap64; omega
  have hx0 : ∀ v : UInt8, x = v ↔ m = v.toNat + 1 := fun v => by
    rw [← UInt8.toNat_inj]
    omega
  by_cases m1 : m = 1
  · have k1 : ((m : Int) == 1) = true := by simp; omega
    have k2 : ((m : Int) == 2) = false := by simp; omega
    have k3 : ((m : Int) == 3) = false := by simp; omega
    have hx1 : x = 0 := (hx0 0).2 m1
    by_cases n1 : n = 1
    · have hk : kindN b = m := by
        unfold kindN
        rw [← hn, hx]
        simp [m1, n1, hx1]
      rw [hk, ← hn]
      have c1 : ((n : Int) == 1) = true := by simp; omega
      clear hr hn hk h0 hx hm hlx hx0 m1 n1 hx1
      go_enter Tryd.func15, Tryd.ntmps15
      go_wp2
      go_ret
      exact ⟨congrArg (fun z => Ending.returned (.int .i64 z)) ex, rfl⟩
    · have hk : kindN b = 0 := by
        unfold kindN
        rw [← hn, hx]
        simp [n1, hx1]
      rw [hk, ← hn]
      have c1 : ((n : Int) == 1) = false := by simp; omega
      clear hr hn hk h0 hx hm hlx hx0 m1 n1 hx1
      go_enter Tryd.func15, Tryd.ntmps15
      go_wp2
      go_ret
      exact ⟨rfl, rfl⟩
  by_cases m2 : m = 2
  · have k1 : ((m : Int) == 1) = false := by simp; omega
    have k2 : ((m : Int) == 2) = true := by simp; omega
    have k3 : ((m : Int) == 3) = false := by simp; omega
    have hx1 : x = 1 := (hx0 1).2 m2
    by_cases n1 : n = 61
    · have hk : kindN b = m := by
        unfold kindN
        rw [← hn, hx]
        simp [m2, n1, hx1]
      rw [hk, ← hn]
      have c61 : ((n : Int) == 61) = true := by simp; omega
      clear hr hn hk h0 hx hm hlx hx0 m1 m2 n1 hx1
      go_enter Tryd.func15, Tryd.ntmps15
      go_wp2
      go_ret
      exact ⟨congrArg (fun z => Ending.returned (.int .i64 z)) ex, rfl⟩
    · have hk : kindN b = 0 := by
        unfold kindN
        rw [← hn, hx]
        simp [n1, hx1]
      rw [hk, ← hn]
      have c61 : ((n : Int) == 61) = false := by simp; omega
      clear hr hn hk h0 hx hm hlx hx0 m1 m2 n1 hx1
      go_enter Tryd.func15, Tryd.ntmps15
      go_wp2
      go_ret
      exact ⟨rfl, rfl⟩
  by_cases m3 : m = 3
  · have k1 : ((m : Int) == 1) = false := by simp; omega
    have k2 : ((m : Int) == 2) = false := by simp; omega
    have k3 : ((m : Int) == 3) = true := by simp; omega
    have hx1 : x = 2 := (hx0 2).2 m3
    by_cases n1 : n = 66
    · obtain ⟨B', o', eB, q1⟩ := rb_cell hr (i := 1) (by omega)
      cases eB
      generalize hy : b.getD 1 0 = y at q1
      have i1 : (1 : Int) < (n : Int) := by omega
      have HJ := hid (fun W => pjoined_any (y.toNat : Int) W)
      have ey : Go.RowKit.wrap64 (y.toNat : Int) = (y.toNat : Int) := by have := y.toNat_lt; unfold Go.RowKit.wrap64; omega
      by_cases h3 : 0 < y.toNat ∧ y.toNat < 33
      · have hk : kindN b = m := by
          unfold kindN
          rw [← hn, hx]
          rw [hy]
          simp [m3, n1, hx1, h3]
        rw [hk, ← hn]
        have c66 : ((n : Int) == 66) = true := by simp; omega
        have hj : htB (y.toNat : Int) = true := by rw [htB, decide_eq_true (by omega), decide_eq_true (by omega)]; rfl
        rw [hj] at HJ
        clear hr hn hk h0 hx hm hlx hx0 m1 m2 m3 n1 hx1 hy h3 hj
        go_enter Tryd.func15, Tryd.ntmps15
        go_wp2_with (go_at_call 34; refine (HJ.out _).mono ?_; rintro e1 w1 ⟨rfl, rfl⟩)
        go_ret
        exact ⟨rfl, rfl⟩
      · have hk : kindN b = 0 := by
          unfold kindN
          rw [← hn, hx]
          rw [hy]
          simp [n1, hx1]
          omega
        rw [hk, ← hn]
        have c66 : ((n : Int) == 66) = true := by simp; omega
        have hj : htB (y.toNat : Int) = false := by 
            rw [htB, ← Bool.decide_and]
            exact decide_eq_false (by omega)
        rw [hj] at HJ
        clear hr hn hk h0 hx hm hlx hx0 m1 m2 m3 n1 hx1 hy h3 hj
        go_enter Tryd.func15, Tryd.ntmps15
        go_wp2_with (go_at_call 34; refine (HJ.out _).mono ?_; rintro e1 w1 ⟨rfl, rfl⟩)
        go_ret
        exact ⟨rfl, rfl⟩
    · have hk : kindN b = 0 := by
        unfold kindN
        rw [← hn, hx]
        simp [n1, hx1]
      rw [hk, ← hn]
      have c66 : ((n : Int) == 66) = false := by simp; omega
      clear hr hn hk h0 hx hm hlx hx0 m1 m2 m3 n1 hx1
      go_enter Tryd.func15, Tryd.ntmps15
      go_wp2
      go_ret
      exact ⟨rfl, rfl⟩
  have k1 : ((m : Int) == 1) = false := by simp; omega
  have k2 : ((m : Int) == 2) = false := by simp; omega
  have k3 : ((m : Int) == 3) = false := by simp; omega
  have x0 : ¬ x = 0 := fun h => m1 ((hx0 0).1 h)
  have x1 : ¬ x = 1 := fun h => m2 ((hx0 1).1 h)
  have x2 : ¬ x = 2 := fun h => m3 ((hx0 2).1 h)
  have hk : kindN b = 0 := by
    unfold kindN
    rw [← hn, hx]
    simp [x0, x1, x2]
  rw [hk, ← hn]
  clear hr hn hk h0 hx hm hlx hx0 m1 m2 m3 x0 x1 x2
  go_enter Tryd.func15, Tryd.ntmps15
  go_wp2
  go_ret
  exact ⟨rfl, rfl⟩
theorem kind_c (w : World) : KindC w := fun W b A c _ hr _ => (pkind_any b A c W hr).mono fun _ _ ⟨h1, h2⟩ => ⟨h1, by rw [h2]; exact Below.refl _ _⟩
end Go.Proofs.YthbppiobadcbkaaDoor
