/-
  The program's layer 8: hashes of leaves and of nodes; what a text is of.
  The program's layer 8: the empty hashes.
-/
import Derived.Test.YtfmbpdjcoopaeaaDoorPa
import Derived.Deep.Cut
namespace Go.Proofs.YtfmbpdjcoopaeaaDoor
open Go.RowKit

set_option maxRecDepth 100000 in
set_option maxHeartbeats 1000000 in
theorem phashOf_ok (bs : List UInt8) (A : Option Addr) (c : Nat) (w : World) (hr : Rb w w.heap.size A bs) (hl : bs.length ≤ 1000000) (hT : Tabs w) :
    Calls Tryd.prog 92 #[.slice A bs.length c, .nilIface] w fun r w' => r = .returned (.tuple #[.agg (ubs (hashL bs)).toArray, .nilIface]) ∧ Below w.heap.size w w' := by
  have hb0 : Below w.heap.size w (w.alloc (.cells (ubs n32).toArray 25)) := (Below.refl _ _).alloc (Nat.le_refl _) _
  have HS := hid (sum_any bs A c (w.alloc (.cells (ubs n32).toArray 25)) ((hr.below hb0).mono (by simp)) (by omega) (hT.below hb0))
  have H0 := hid (At.new w (ubs n32).toArray 25)
  have HB0 := hid hb0
  have HML := hid (hashL_length bs)
  have HAH := hid (fun (o : Oper) (a : Go.Act) (W : World) (h : o.op = .alloc 25) => run_alloc_of (o := o) (a := a) (W := W) _ h _ zeroH8)
  generalize hashL bs = m at HS HML ⊢
  generalize bs.length = n at HS ⊢
  clear hr hl hT hb0
  go_enter Tryd.func92, Tryd.ntmps92
  go_wp2_with (first
    | (refine Great.wpList_allocTo rfl _ rfl _ _ (HAH.out _ _ _ rfl) ?_)
    | (go_at_call 152; refine HS.out.mono ?_; rintro e1 w1 ⟨rfl, hb1⟩; have H1 := hid (H0.out.new_ hb1); have B1 := hid (HB0.out.trans (hb1.mono HB0.out.size)); clear hb1)
    | (refine wpList_store_row rfl _ (.tmp 4) (.tmp 11) rfl w.heap.size (ubs m).toArray rfl rfl 25 (ubs n32).toArray H1.out (sizeH_of HML.out) ?e5 (ubs_all _) ?e6; rotate_right))
  case e5 => simp [ubs_length, n32_length, HML.out]
  refine bodyPost_ret (results_row_tmp rfl _ _ w.heap.size 25 (ubs m).toArray (0, 0) _ rfl (setRow_heap _ _ _ _ _ _ H1.out) Tryd.underlying25 rfl (sizeH_of HML.out)) rfl ?_
  exact ⟨rfl, below_setRow B1.out (Nat.le_refl _) _⟩
set_option maxRecDepth 100000 in
set_option maxHeartbeats 1000000 in
theorem phashOf_no (v : Value) (w : World) :
    Calls Tryd.prog 92 #[v, errV 1] w fun r w' => r = .returned (.tuple #[.agg (ubs n32).toArray, errV 1]) ∧ Below w.heap.size w w' := by
  have H0 := hid (At.new w (ubs n32).toArray 25)
  have HB0 := hid ((Below.refl w.heap.size w).alloc (Nat.le_refl _) (.cells (ubs n32).toArray 25))
  have HML := hid n32_length
  have HAH := hid (fun (o : Oper) (a : Go.Act) (W : World) (h : o.op = .alloc 25) => run_alloc_of (o := o) (a := a) (W := W) _ h _ zeroH8)
  have e : errV 1 = .iface 49 (.int .i64 1) := rfl
  rw [e]
  clear e
  obtain ⟨m, hm⟩ : ∃ m, m = n32 := ⟨_, rfl⟩
  have HBH := hid (fun (o : Oper) (a : Go.Act) (W : World) (h : o.op = .build 25 #[]) => show (execOp a.eval o).run Tryd.prog W = .ok (.value (.agg (ubs m).toArray)) W by rw [hm]; exact run_build_hash0 h)
  rw [← hm] at HML ⊢
  have HNL := hid n32_length
  clear hm
  go_enter Tryd.func92, Tryd.ntmps92
  go_wp2_with (first
    | (refine Great.wpList_allocTo rfl _ rfl _ _ (HAH.out _ _ _ rfl) ?_)
    | (refine wpList_valW (by rfl) (HBH.out _ _ _ rfl) ?_)
    | (refine wpList_store_row rfl _ (.tmp 4) (.tmp 8) rfl w.heap.size (ubs m).toArray rfl rfl 25 (ubs n32).toArray H0.out (sizeH_of HML.out) ?e5 (ubs_all _) ?e6; rotate_right))
  case e5 => simp [ubs_length, HNL.out, HML.out]
  refine bodyPost_ret (results_row_tmp rfl _ _ w.heap.size 25 (ubs m).toArray (0, 0) _ rfl (setRow_heap _ _ _ _ _ _ H0.out) Tryd.underlying25 rfl (sizeH_of HML.out)) rfl ?_
  exact ⟨rfl, below_setRow HB0.out (Nat.le_refl _) _⟩
/-- A text's hash, or the error for which there is none. -/
theorem phashOf_any (g : Bool) (bs : List UInt8) (A : Option Addr) (c : Nat) (w : World) (hr : Rb w w.heap.size A bs) (hl : bs.length ≤ 1000000) (hT : Tabs w) :
    Calls Tryd.prog 92 #[.slice A bs.length c, errV (if g then 0 else 1)] w fun r w' => r = .returned (.tuple #[.agg (ubs (if g then hashL bs else n32)).toArray, errV (if g then 0 else 1)]) ∧ Below w.heap.size w w' := by
  cases g with
  | true => exact phashOf_ok bs A c w hr hl hT
  | false => exact phashOf_no _ w
set_option maxRecDepth 100000 in
set_option maxHeartbeats 1000000 in
theorem pleaf_any (d t : List UInt8) (i e : Nat) (w : World) (hd : d.length = 32) (ht : t.length = 16) (hi : i < 18446744073709551616) (he : e < 18446744073709551616) (hT : Tabs w) :
    Calls Tryd.prog 32 #[.int .u64 (i : Int), .agg (sv e d t).toArray] w fun r w' => r = .returned (.tuple #[.agg (ubs (lfH i e d t)).toArray, errV (if ixB i then 0 else 1)]) ∧ Below w.heap.size w w' := by
  have H0 := hid ((At.new w (sv e d t).toArray 37).alloc (.cells (ubs n32).toArray 25))
  have H1 := hid (show At ((w.alloc (.cells (sv e d t).toArray 37)).alloc (.cells (ubs n32).toArray 25)) (w.heap.size + 1) (ubs n32).toArray 25 from At.new_at (by simp))
  have HB := hid (((Below.refl w.heap.size w).alloc (Nat.le_refl _) (.cells (sv e d t).toArray 37)).alloc (by simp) (.cells (ubs n32).toArray 25))
  have HX := hid (fun W => pleafText_any d t i e W hd ht hi he)
  have hH : (if ixB i then hashL (lfT i e d t) else n32) = lfH i e d t := by
    rw [lfH, lfT]
    cases ixB i <;> rfl
  have hll : (lfT i e d t).length ≤ 1000000 := by
    rw [lfT]
    cases ixB i
    · simp
    · simp [leafT_length i e d t hd ht]
  have HML := hid (show (lfH i e d t).length = 32 by
    rw [lfH]
    cases ixB i
    · exact n32_length
    · exact hashL_length _)
  obtain ⟨kx, hkx⟩ : ∃ k, k = if ixB i then 0 else 1 := ⟨_, rfl⟩
  have HS := hid (fun (W : World) (A : Option Addr) (c : Nat) (h : Below w.heap.size w W) (hA : Rb W W.heap.size A (lfT i e d t)) => show Calls Tryd.prog 92 #[.slice A (lfT i e d t).length c, errV kx] W (fun r w' => r = .returned (.tuple #[.agg (ubs (lfH i e d t)).toArray, errV kx]) ∧ Below W.heap.size W w') by
    have := phashOf_any (ixB i) (lfT i e d t) A c W hA hll (hT.below h)
    rwa [← hkx, hH] at this)
  rw [← hkx] at HX ⊢
  have LX := hid (sv_length e d t hd ht)
  have HAH := hid (fun (o : Oper) (a : Go.Act) (W : World) (h : o.op = .alloc 25) => run_alloc_of (o := o) (a := a) (W := W) _ h _ zeroH8)
  generalize sv e d t = x at H0 H1 HB HX LX ⊢
  generalize lfH i e d t = m at HS HML ⊢
  generalize lfT i e d t = lt at HX HS
  generalize hln : lt.length = ln at HX HS
  clear hd ht hi he hT hH hll hkx hln
  go_enter Tryd.func32, Tryd.ntmps32
  go_wp2_with (first
    | (refine Great.wpList_allocTo rfl _ rfl _ _ (HAH.out _ _ _ rfl) ?_)
    | (refine wpList_load_row rfl _ (.tmp 3) rfl w.heap.size rfl 37 x.toArray (0, 0) _ H0.out Tryd.underlying37 rfl (sizePs_of LX.out) ?_)
    | (go_at_call 33; refine (HX.out _).mono ?_; rintro e1 w1 ⟨A1, c1, rfl, hA1, hb1⟩; have H2 := hid (H1.out.new_ hb1); have B2 := hid (HB.out.trans (hb1.mono HB.out.size)); have S2 := hid (HS.out w1 A1 c1 B2.out hA1); clear hA1 hb1)
    | (go_at_call 92; refine S2.out.mono ?_; rintro e2 w2 ⟨rfl, hb2⟩; have H3 := hid (H2.out.new_ hb2); have B3 := hid (B2.out.trans (hb2.mono B2.out.size)); clear hb2)
    | (refine wpList_store_row rfl _ (.tmp 4) (.tmp 12) rfl (w.heap.size + 1) (ubs m).toArray rfl rfl 25 (ubs n32).toArray H3.out (sizeH_of HML.out) ?e5 (ubs_all _) ?e6; rotate_right))
  case e5 => simp [ubs_length, n32_length, HML.out]
  refine bodyPost_ret (results_row_tmp rfl _ _ (w.heap.size + 1) 25 (ubs m).toArray (0, 0) _ rfl (setRow_heap _ _ _ _ _ _ H3.out) Tryd.underlying25 rfl (sizeH_of HML.out)) rfl ?_
  exact ⟨rfl, below_setRow B3.out (by omega) _⟩
set_option maxRecDepth 100000 in
set_option maxHeartbeats 1000000 in
theorem pjoin_any (h : Int) (l r : List UInt8) (w : World) (hl : l.length = 32) (hr : r.length = 32) (hT : Tabs w) :
    Calls Tryd.prog 181 #[.int .i64 h, .agg (ubs l).toArray, .agg (ubs r).toArray] w fun e w' => e = .returned (.tuple #[.agg (ubs (jnH h l r)).toArray, errV (if htB h then 0 else 1)]) ∧ Below w.heap.size w w' := by
  obtain ⟨W0, hW0⟩ : ∃ W0, W0 = ((w.alloc (.cells (ubs l).toArray 25)).alloc (.cells (ubs r).toArray 25)).alloc (.cells (ubs n32).toArray 25) := ⟨_, rfl⟩
  have HA := hid (show At W0 w.heap.size (ubs l).toArray 25 by rw [hW0]; exact ((At.new _ _ _).alloc _).alloc _)
  have HC := hid (show At W0 (w.heap.size + 1) (ubs r).toArray 25 by rw [hW0]; exact (At.new_at (by simp)).alloc _)
  have H1 := hid (show At W0 (w.heap.size + 1 + 1) (ubs n32).toArray 25 by rw [hW0]; exact At.new_at (by simp))
  have HB := hid (show Below w.heap.size w W0 by rw [hW0]; exact (((Below.refl _ _).alloc (Nat.le_refl _) _).alloc (by simp) _).alloc (by simp; omega) _)
  have HX := hid (fun W => pjoinText_any h l r W hl hr)
  have hH : (if htB h then hashL (jnT h l r) else n32) = jnH h l r := by
    rw [jnH, jnT]
    cases htB h <;> rfl
  have hll : (jnT h l r).length ≤ 1000000 := by
    rw [jnT]
    cases htB h
    · simp
    · simp [joinT_length h.toNat l r hl hr]
  have HML := hid (show (jnH h l r).length = 32 by
    rw [jnH]
    cases htB h
    · exact n32_length
    · exact hashL_length _)
  obtain ⟨kx, hkx⟩ : ∃ k, k = if htB h then 0 else 1 := ⟨_, rfl⟩
  have HS := hid (fun (W : World) (A : Option Addr) (c : Nat) (hb : Below w.heap.size w W) (hA : Rb W W.heap.size A (jnT h l r)) => show Calls Tryd.prog 92 #[.slice A (jnT h l r).length c, errV kx] W (fun e w' => e = .returned (.tuple #[.agg (ubs (jnH h l r)).toArray, errV kx]) ∧ Below W.heap.size W w') by
    have := phashOf_any (htB h) (jnT h l r) A c W hA hll (hT.below hb)
    rwa [← hkx, hH] at this)
  rw [← hkx] at HX ⊢
  have HLL := hid hl
  have HRL := hid hr
  have HAH := hid (fun (o : Oper) (a : Go.Act) (W : World) (h : o.op = .alloc 25) => run_alloc_of (o := o) (a := a) (W := W) _ h _ zeroH8)
  generalize jnH h l r = m at HS HML ⊢
  generalize jnT h l r = lt at HX HS
  generalize hln : lt.length = ln at HX HS
  clear hl hr hT hH hll hkx hln
  subst hW0
  go_enter Tryd.func181, Tryd.ntmps181
  go_wp2_with (first
    | (refine Great.wpList_allocTo rfl _ rfl _ _ (HAH.out _ _ _ rfl) ?_)
    | (refine wpList_valW (by rfl) (run_loadH (.tmp 4) rfl w.heap.size 0 rfl l (range_whole HA.out) HLL.out) ?_)
    | (refine wpList_valW (by rfl) (run_loadH (.tmp 5) rfl (w.heap.size + 1) 0 rfl r (range_whole HC.out) HRL.out) ?_)
    | (go_at_call 199; refine (HX.out _).mono ?_; rintro e1 w1 ⟨A1, c1, rfl, hA1, hb1⟩; have H2 := hid (H1.out.new_ hb1); have B2 := hid (HB.out.trans (hb1.mono HB.out.size)); have S2 := hid (HS.out w1 A1 c1 B2.out hA1); clear hA1 hb1)
    | (go_at_call 92; refine S2.out.mono ?_; rintro e2 w2 ⟨rfl, hb2⟩; have H3 := hid (H2.out.new_ hb2); have B3 := hid (B2.out.trans (hb2.mono B2.out.size)); clear hb2)
    | (refine wpList_store_row rfl _ (.tmp 6) (.tmp 15) rfl (w.heap.size + 1 + 1) (ubs m).toArray rfl rfl 25 (ubs n32).toArray H3.out (sizeH_of HML.out) ?e5 (ubs_all _) ?e6; rotate_right))
  case e5 => simp [ubs_length, n32_length, HML.out]
  refine bodyPost_ret (results_row_tmp rfl _ _ (w.heap.size + 1 + 1) 25 (ubs m).toArray (0, 0) _ rfl (setRow_heap _ _ _ _ _ _ H3.out) Tryd.underlying25 rfl (sizeH_of HML.out)) rfl ?_
  exact ⟨rfl, below_setRow B3.out (by omega) _⟩
end Go.Proofs.YtfmbpdjcoopaeaaDoor

namespace Go.Proofs.YtfmbpdjcoopaeaaDoor
open Go.RowKit

/-- The first m empty hashes, and noughts behind them. -/
def eTo (m : Nat) : List UInt8 := eRow m ++ List.replicate (32 * (33 - m)) 0
def z1056 : List UInt8 := List.replicate 1056 0
theorem z1056_length : z1056.length = 1056 := List.length_replicate
theorem eTo_zero : eTo 0 = z1056 := by
  have h : eRow 0 = [] := by with_unfolding_all rfl
  unfold eTo z1056
  rw [h]
  rfl
theorem eTo_length (m : Nat) (h : m ≤ 33) : (eTo m).length = 1056 := by
  rw [eTo, List.length_append, eRow_length, List.length_replicate]
  omega
theorem eTo_next (m : Nat) (h : m ≤ 32) : spl (eTo m) (32 * m) (emptyL m) = eTo (m + 1) := by
  have h1 : List.replicate (32 * (33 - m)) (0 : UInt8) = List.replicate 32 0 ++ List.replicate (32 * (33 - (m + 1))) 0 := by
    rw [List.replicate_append_replicate]
    congr 1
    omega
  have := spl_at (eRow m) (List.replicate 32 0) (List.replicate (32 * (33 - (m + 1))) 0) (emptyL m) (by rw [emptyL_length, List.length_replicate])
  rw [eRow_length] at this
  rw [eTo, h1, this, eTo, eRow_succ, List.append_assoc]
theorem eTo_part (m n : Nat) (hn : n < m) : ∃ z, eTo m = eRow n ++ (emptyL n ++ z) := by
  obtain ⟨z, hz⟩ := eRow_at m n hn
  exact ⟨z ++ List.replicate (32 * (33 - m)) 0, by rw [eTo, hz]; simp⟩
theorem zeroAH : (Tryd.prog.info? 231).bind (·.zero) = some (.agg (ubs z1056).toArray) := by kernel_rfl
theorem sizeAH : (Tryd.prog.info? 231).map (·.size) = some 1056 := by kernel_rfl
theorem sizeAH_of {l : List UInt8} (h : l.length = 1056) : (Tryd.prog.info? 231).map (·.size) = some (ubs l).toArray.size := by rw [sizeAH]; simp [ubs_length, h]
theorem elemAH : Tryd.prog.underlying 231 = some (.array 33 25) := Tryd.underlying231
/-- A hash of an array of hashes that is a value. -/
theorem run_index_hash {o : Oper} {a : Go.Act} {W : World} (x c : Operand) (ho : o.op = .index 231 x c) (l p m z : List UInt8) (hx : a.eval x = .agg (ubs l).toArray)
    (k : Nat) (hc : a.eval c = .int .i64 (k : Int)) (hk : k < 33) (e : l = p ++ (m ++ z)) (hp : p.length = 32 * k) (hm : m.length = 32) : (execOp a.eval o).run Tryd.prog W = .ok (.value (.agg (ubs m).toArray)) W := by
  unfold execOp
  simp only [ho, hx, hc]
  have hq : ∃ inf, Tryd.prog.info? 25 = some inf ∧ inf.size = 32 := by
    have := infoH
    cases h : Tryd.prog.info? 25 with
    | none => rw [h] at this; cases this
    | some ie =>
      rw [h] at this
      simp only [Option.map_some, Option.some.injEq, Prod.mk.injEq] at this
      exact ⟨ie, rfl, this.2.1⟩
  obtain ⟨inf, hi, hs⟩ := hq
  have hx2 : List.take 32 (List.drop (k * 32) (ubs l)) = ubs m := by
    rw [e, ubs_append, ubs_append, List.drop_append_of_le_length (by rw [ubs_length, hp]; omega), List.drop_of_length_le (by rw [ubs_length, hp]; omega), List.nil_append, List.take_append_of_le_length (by rw [ubs_length, hm]; omega), List.take_of_length_le (by rw [ubs_length, hm]; omega)]
  simp [Instr.index, asIntOf, run_underlying elemAH, run_underlying Tryd.underlying25, hk, part, isAgg, sizeOf, typeInfo, hi, hs, hx2]
/-- The array in the making. -/
structure EtW (w : World) (m : Nat) (W : World) : Prop where
  r : At W w.heap.size (ubs z1056).toArray 231
  c : At W (w.heap.size + 1) (ubs (eTo m)).toArray 231
  size : w.heap.size + 2 ≤ W.heap.size
  below : Below w.heap.size w W
theorem EtW.start (w : World) : EtW w 0 ((w.alloc (.cells (ubs z1056).toArray 231)).alloc (.cells (ubs z1056).toArray 231)) :=
  ⟨(At.new _ _ _).alloc _, by rw [eTo_zero]; exact At.new_at (by simp), by simp, ((Below.refl _ _).alloc (Nat.le_refl _) _).alloc (by simp) _⟩
theorem EtW.new {w W W' : World} {m : Nat} (h : EtW w m W) (hb : Below W.heap.size W W') : EtW w m W' :=
  ⟨h.r.new_ hb, h.c.new_ hb, Nat.le_trans h.size hb.size, h.below.trans (hb.mono h.below.size)⟩
theorem EtW.drew {w W : World} {m : Nat} (h : EtW w m W) : EtW w m W.drew := h.new (Below.refl _ _).drew
theorem EtW.store {w W : World} {m : Nat} (hm : m ≤ 32) (h : EtW w m W) : EtW w (m + 1) (W.setCells (w.heap.size + 1) (32 * m) (ubs (emptyL m))) := by
  have hz : ∀ (vs : List Value) (g o : Nat) (W : World), (W.setCells g o vs).heap.size = W.heap.size := by
    intro vs g
    induction vs with
    | nil => exact fun _ _ => rfl
    | cons v r ih => exact fun o W => (ih (o + 1) _).trans (by simp)
  refine ⟨far_setCells h.r (by omega) _ _, ?_, by rw [hz]; exact h.size, below_setCells h.below (by omega) _ _⟩
  have := at_setCells h.c (32 * m) (emptyL m)
  rwa [eTo_next m hm] at this
theorem EtW.range {w W : World} {m : Nat} (h : EtW w m W) (n : Nat) (hn : n < m) : W.rangeAt (w.heap.size + 1) (32 * n) (ubs (emptyL n)) := by
  obtain ⟨z, hz⟩ := eTo_part m n hn
  have := range_at h.c hz
  rwa [eRow_length] at this
theorem EtW.there {w W : World} {m : Nat} (h : EtW w m W) (hm : m ≤ 32) : W.there (w.heap.size + 1) (32 * m) 32 :=
  there_at h.c _ _ (by rw [eTo_length m (by omega)]; omega)
set_option maxRecDepth 100000 in
set_option maxHeartbeats 2000000 in
theorem pemptiesTo_any (k : Nat) (w : World) (hk : k ≤ 32) (hT : Tabs w) :
    Calls Tryd.prog 151 #[.int .i64 (k : Int)] w fun r w' => r = .returned (.agg (ubs (eTo (k + 1))).toArray) ∧ Below w.heap.size w w' := by
  have H0 := hid (EtW.start w)
  have HBG := hid (fun (W : World) => show Calls Tryd.prog 93 #[.int .u64 1] W (fun r w' => r = .returned (.pointer (some ⟨W.heap.size, 0, none⟩)) ∧ WN W [0] w') from pbegin_any 0 W (by omega))
  have HDN := hid (fun (V W : World) (h : WN V [0] W) => show Calls Tryd.prog 89 #[.pointer (some ⟨V.heap.size, 0, none⟩)] W (fun e w' => ∃ A c, e = .returned (.tuple #[.slice A 1 c, .nilIface]) ∧ Rb w' w'.heap.size A [0] ∧ Below V.heap.size V w') from (wn_done h (by simp)).mono fun r w' ⟨A, c, h1, h2, h3, h4⟩ => ⟨A, c, h1, h3, h4⟩)
  have HSH := hid (fun (W : World) (A : Option Addr) (c : Nat) (h : EtW w 0 W) (hA : Rb W W.heap.size A [0]) => show Calls Tryd.prog 92 #[.slice A 1 c, .nilIface] W (fun r w' => r = .returned (.tuple #[.agg (ubs (emptyL 0)).toArray, .nilIface]) ∧ Below W.heap.size W w') from by
    have := phashOf_ok [0] A c W hA (by simp) (hT.below h.below)
    rwa [← emptyL_zero] at this)
  have HJ := hid (fun (W : World) (j : Nat) (hj : j < 32) (h : Below w.heap.size w W) => show Calls Tryd.prog 181 #[.int .i64 ((j + 1 : Nat) : Int), .agg (ubs (emptyL j)).toArray, .agg (ubs (emptyL j)).toArray] W (fun e w' => e = .returned (.tuple #[.agg (ubs (emptyL (j + 1))).toArray, .nilIface]) ∧ Below W.heap.size W w') by
    have hB : htB ((j + 1 : Nat) : Int) = true := by rw [htB, decide_eq_true (by omega), decide_eq_true (by omega)]; rfl
    have := pjoin_any ((j + 1 : Nat) : Int) (emptyL j) (emptyL j) W (emptyL_length j) (emptyL_length j) (hT.below h)
    rw [jnH, hB, if_pos rfl, Int.toNat_natCast, ← emptyL_succ] at this
    exact this)
  have HAH := hid (fun (o : Oper) (a : Go.Act) (W : World) (h : o.op = .alloc 231) => run_alloc_of (o := o) (a := a) (W := W) _ h _ zeroAH)
  have HE0 := hid (emptyL_length 0)
  have hk' := hid hk
  clear hT hk
  go_enter Tryd.func151, Tryd.ntmps151
  go_upto_region 2 with (refine Great.wpList_allocTo rfl _ rfl _ _ (HAH.out _ _ _ rfl) ?_; try simp only [World.size_alloc])
  generalize ((w.alloc (.cells (ubs z1056).toArray 231)).alloc (.cells (ubs z1056).toArray 231)) = W0 at H0 ⊢
  go_wp2_with (first
    | (go_at_call 93; refine (HBG.out _).mono ?_; rintro e1 w1 ⟨rfl, h1⟩; have N1 := hid h1; have W1 := hid (H0.out.new h1.2); clear h1)
    | (go_at_call 89; refine (HDN.out _ _ N1.out).mono ?_; rintro e2 w2 ⟨A2, c2, rfl, hA2, hb2⟩; have W2 := hid (H0.out.new hb2); have S2 := hid (HSH.out w2 A2 c2 W2.out hA2); clear hA2 hb2)
    | (go_at_call 92; refine S2.out.mono ?_; rintro e3 w3 ⟨rfl, hb3⟩; have W3 := hid (W2.out.new hb3); clear hb3)
    | (refine wpList_store_mid rfl 25 (.tmp 13) (.tmp 11) rfl (w.heap.size + 1) 0 (ubs (emptyL 0)).toArray rfl rfl ?t1 (sizeH_of HE0.out) (ubs_all _) ?_; rotate_right; have W4 := hid (W3.out.store (by omega)); rw [List.toList_toArray]; rw [Nat.mul_zero] at W4; generalize (w3.setCells (w.heap.size + 1) 0 (ubs (emptyL 0))) = w4 at W4 ⊢))
  case t1 => have := W3.out.there (by omega); simpa [ubs_length, HE0.out] using this
  clear H0 HBG HDN HSH HE0
  go_loopw [15] (fun v wr => ∃ j : Nat, j ≤ k ∧ v = .int .i64 (j : Int) ∧ EtW w (j + 1) wr) (fun v _ => k - (intOf v).toNat)
  case atStart => exact ⟨0, by omega, rfl, W4.out⟩
  case round =>
    clear W4 W3 W2 W1 S2 N1
    obtain ⟨j, hj, rfl, hA⟩ := hrel
    have HA := hid hA
    clear hA
    by_cases hlt : j < k
    · have hd : decide ((j : Int) < (k : Int)) = true := by simp; omega
      obtain ⟨j1, hj1⟩ : ∃ m, m = j + 1 := ⟨_, rfl⟩
      obtain ⟨o, ho⟩ : ∃ m, m = 32 * j := ⟨_, rfl⟩
      obtain ⟨o1, ho1⟩ : ∃ m, m = 32 * j1 := ⟨_, rfl⟩
      have HJ1 := hid hj1
      have HO := hid ho
      have HO1 := hid ho1
      have HRG := hid (fun (W : World) (h : EtW w j1 W) => show W.rangeAt (w.heap.size + 1) o (ubs (emptyL j)) by rw [ho]; exact h.range j (by omega))
      have HEL := hid (emptyL_length j)
      have HEM := hid (emptyL_length j1)
      have HN := hid (fun (W : World) (h : EtW w j1 W) => HJ.out W j (by have := hk'.out; omega) h.below)
      rw [← hj1] at HN HA
      have e1 : IntKind.i64.wrap ((j : Int) + 1) = (j1 : Int) := by rw [IntKind.wrap_i64] <;> have := hk'.out <;> omega
      have e2 : (j : Int) + 1 = (j1 : Int) := by omega
      have ew : IntKind.i64.wrap (j1 : Int) = (j1 : Int) := by rw [IntKind.wrap_i64] <;> have := hk'.out <;> omega
      have i0 : (j : Int) < 33 := by have := hk'.out; omega
      have i1 : (j1 : Int) < 33 := by have := hk'.out; omega
      have HI1 := hid (show j1 ≤ 32 by have := hk'.out; omega)
      have e3 : j * 32 = o := by omega
      have e4 : j1 * 32 = o1 := by omega
      clear hj1 ho ho1
      go_upto_region 6 with (fail)
      have AT := hid (show EtW w j1 wr.drew from HA.out.drew)
      clear HA
      refine wp_region_upto (fun W => W.rangeAt (w.heap.size + 1) o (ubs (emptyL j))) 16 16 (by kernel_rfl) (by kernel_rfl) ?_
      generalize wr.drew = V0 at AT ⊢
      refine wpUpto_takeL (i := 0) (v := .int .i64 (j : Int)) rfl rfl (by decide +kernel) (by decide +kernel) (by decide +kernel) (by decide +kernel) (by decide) (fun _ _ _ h => h) (Or.inl ⟨by rfl, ?_⟩) (HRG.out _ AT.out) ?_
      · (intro W hSW; go_simp)
      simp only [List.set_cons_succ, List.set_cons_zero]
      refine wpUpto_takeL (i := 1) (v := .int .i64 (j1 : Int)) rfl rfl (by decide +kernel) (by decide +kernel) (by decide +kernel) (by decide +kernel) (by decide) (fun _ _ _ h => h) (Or.inl ⟨by rfl, ?_⟩) (HRG.out _ AT.out) ?_
      · (intro W hSW; go_simp)
      simp only [List.set_cons_succ, List.set_cons_zero]
      refine wpUpto_takeL (i := 2) (v := .int .i64 (j : Int)) rfl rfl (by decide +kernel) (by decide +kernel) (by decide +kernel) (by decide +kernel) (by decide) (fun _ _ _ h => h) (Or.inl ⟨by rfl, ?_⟩) (HRG.out _ AT.out) ?_
      · (intro W hSW; go_simp)
      simp only [List.set_cons_succ, List.set_cons_zero]
      refine wpUpto_takeL (i := 3) (v := .int .i64 (j1 : Int)) rfl rfl (by decide +kernel) (by decide +kernel) (by decide +kernel) (by decide +kernel) (by decide) (fun _ _ _ h => h) (Or.inl ⟨by rfl, ?_⟩) (HRG.out _ AT.out) ?_
      · (intro W hSW; go_simp)
      simp only [List.set_cons_succ, List.set_cons_zero]
      refine wpUpto_takeL (i := 4) (v := .int .i64 (j : Int)) rfl rfl (by decide +kernel) (by decide +kernel) (by decide +kernel) (by decide +kernel) (by decide) (fun _ _ _ h => h) (Or.inl ⟨by rfl, ?_⟩) (HRG.out _ AT.out) ?_
      · (intro W hSW; go_simp)
      simp only [List.set_cons_succ, List.set_cons_zero]
      refine wpUpto_takeL (i := 5) (v := .pointer (some ⟨w.heap.size + 1, o, none⟩)) rfl rfl (by decide +kernel) (by decide +kernel) (by decide +kernel) (by decide +kernel) (by decide) (fun _ _ _ h => h) (Or.inl ⟨by rfl, ?_⟩) (HRG.out _ AT.out) ?_
      · (intro W hSW; go_simp)
      simp only [List.set_cons_succ, List.set_cons_zero]
      refine wpUpto_takeL (i := 6) (v := .agg (ubs (emptyL j)).toArray) rfl rfl (by decide +kernel) (by decide +kernel) (by decide +kernel) (by decide +kernel) (by decide) (fun _ _ _ h => h) (Or.inl ⟨by rfl, ?_⟩) (HRG.out _ AT.out) ?_
      · (intro W hSW; exact run_loadH (.tmp 24) rfl (w.heap.size + 1) o rfl (emptyL j) hSW HEL.out)
      simp only [List.set_cons_succ, List.set_cons_zero]
      refine wpUpto_takeL (i := 7) (v := .int .i64 (j : Int)) rfl rfl (by decide +kernel) (by decide +kernel) (by decide +kernel) (by decide +kernel) (by decide) (fun _ _ _ h => h) (Or.inl ⟨by rfl, ?_⟩) (HRG.out _ AT.out) ?_
      · (intro W hSW; go_simp)
      simp only [List.set_cons_succ, List.set_cons_zero]
      refine wpUpto_takeL (i := 8) (v := .pointer (some ⟨w.heap.size + 1, o, none⟩)) rfl rfl (by decide +kernel) (by decide +kernel) (by decide +kernel) (by decide +kernel) (by decide) (fun _ _ _ h => h) (Or.inl ⟨by rfl, ?_⟩) (HRG.out _ AT.out) ?_
      · (intro W hSW; go_simp)
      simp only [List.set_cons_succ, List.set_cons_zero]
      refine wpUpto_takeL (i := 9) (v := .agg (ubs (emptyL j)).toArray) rfl rfl (by decide +kernel) (by decide +kernel) (by decide +kernel) (by decide +kernel) (by decide) (fun _ _ _ h => h) (Or.inl ⟨by rfl, ?_⟩) (HRG.out _ AT.out) ?_
      · (intro W hSW; exact run_loadH (.tmp 27) rfl (w.heap.size + 1) o rfl (emptyL j) hSW HEL.out)
      simp only [List.set_cons_succ, List.set_cons_zero]
      refine wpUpto_one (i := 10) rfl (by decide +kernel) rfl ?_
      intro Q0 hQ0
      go_simp
      go_at_call 181
      refine (HN.out V0 AT.out).mono ?_
      rintro e1 v1 ⟨rfl, h1⟩
      have BT := hid (AT.out.new h1)
      clear h1 AT
      refine hQ0.out _ _ (fun _ => HRG.out _ BT.out) ?_
      clear hQ0 Q0
      try simp only [Act.put, List.setIfInBounds_toArray, List.set_cons_succ, List.set_cons_zero]
      refine wpUpto_takeL (i := 11) (v := .tuple #[.agg (ubs (emptyL j1)).toArray, .nilIface]) rfl rfl (by decide +kernel) (by decide +kernel) (by decide +kernel) (by decide +kernel) (by decide) (fun _ _ _ h => h) (Or.inl ⟨by rfl, ?_⟩) (HRG.out _ BT.out) ?_
      · (intro W hSW; go_simp)
      simp only [List.set_cons_succ, List.set_cons_zero]
      refine wpUpto_takeL (i := 12) (v := .agg (ubs (emptyL j1)).toArray) rfl rfl (by decide +kernel) (by decide +kernel) (by decide +kernel) (by decide +kernel) (by decide) (fun _ _ _ h => h) (Or.inl ⟨by rfl, ?_⟩) (HRG.out _ BT.out) ?_
      · (intro W hSW; go_simp)
      simp only [List.set_cons_succ, List.set_cons_zero]
      refine wpUpto_takeL (i := 13) (v := .nilIface) rfl rfl (by decide +kernel) (by decide +kernel) (by decide +kernel) (by decide +kernel) (by decide) (fun _ _ _ h => h) (Or.inl ⟨by rfl, ?_⟩) (HRG.out _ BT.out) ?_
      · (intro W hSW; go_simp)
      simp only [List.set_cons_succ, List.set_cons_zero]
      refine wpUpto_takeL (i := 14) (v := .pointer (some ⟨w.heap.size + 1, o1, none⟩)) rfl rfl (by decide +kernel) (by decide +kernel) (by decide +kernel) (by decide +kernel) (by decide) (fun _ _ _ h => h) (Or.inl ⟨by rfl, ?_⟩) (HRG.out _ BT.out) ?_
      · (intro W hSW; go_simp)
      simp only [List.set_cons_succ, List.set_cons_zero]
      refine wpUpto_one (i := 15) rfl (by decide +kernel) rfl ?_
      intro Q0 hQ0
      refine wp_store_mid 25 (.tmp 32) (.tmp 30) rfl (w.heap.size + 1) o1 (ubs (emptyL j1)).toArray rfl rfl ?t2 (sizeH_of HEM.out) (ubs_all _) ?_
      case t2 => have := BT.out.there HI1.out; rw [← HO1.out] at this; simpa [ubs_length, HEM.out] using this
      have HE := hid (BT.out.store HI1.out)
      rw [← HO1.out] at HE
      rw [List.toList_toArray]
      generalize (v1.setCells (w.heap.size + 1) o1 (ubs (emptyL j1))) = W5 at HE ⊢
      refine hQ0.out _ _ (fun _ => by rw [HO.out]; exact HE.out.range j (by have := HJ1.out; omega)) ?_
      clear hQ0 Q0 BT
      refine wpUpto_done (by decide +kernel) ?_ _
      go_simp
      go_wp2
      go_roundw
      case rel => exact ⟨j1, by have := HJ1.out; omega, rfl, HE.out⟩
      case measure => have := HJ1.out; simp [intOf]; omega
    · obtain rfl : j = k := by omega
      have hd : decide ((j : Int) < (j : Int)) = false := by simp
      have HTL := hid (eTo_length (j + 1) (by have := hk'.out; omega))
      have HNL := hid z1056_length
      have HR := hid HA.out.r
      have HC := hid HA.out.c
      have HB := hid HA.out.below
      clear HA
      obtain ⟨t, ht⟩ : ∃ t, t = eTo (j + 1) := ⟨_, rfl⟩
      rw [← ht] at HTL HC
      have HTE := hid ht
      clear ht
      go_wp2_with (first
        | (refine wpList_load_row rfl _ (.tmp 3) rfl (w.heap.size + 1) rfl 231 (ubs t).toArray (0, 0) _ HC.out Tryd.underlying231 rfl (sizeAH_of HTL.out) ?_)
        | (refine wpList_store_row rfl _ (.tmp 2) (.tmp 34) rfl w.heap.size (ubs t).toArray rfl rfl 231 (ubs z1056).toArray HR.out (sizeAH_of HTL.out) ?e5 (ubs_all _) ?e6; rotate_right))
      case e5 => simp [ubs_length, HTL.out, HNL.out]
      refine bodyPost_ret (results_cell_row rfl _ _ w.heap.size 231 (ubs t).toArray (0, 0) _ rfl (setRow_heap _ _ _ _ _ _ HR.out) Tryd.underlying231 rfl (sizeAH_of HTL.out)) rfl ?_
      exact ⟨by rw [HTE.out], below_setRow HB.out (Nat.le_refl _) _⟩
set_option maxRecDepth 100000 in
set_option maxHeartbeats 1000000 in
theorem pempty_ok (k : Nat) (w : World) (hk : k ≤ 32) (hT : Tabs w) :
    Calls Tryd.prog 91 #[.int .i64 (k : Int)] w fun e w' => e = .returned (.tuple #[.agg (ubs (emptyL k)).toArray, .nilIface]) ∧ Below w.heap.size w w' := by
  have H0 := hid (At.new w (ubs n32).toArray 25)
  have HB0 := hid ((Below.refl w.heap.size w).alloc (Nat.le_refl _) (.cells (ubs n32).toArray 25))
  have HE := hid (pemptiesTo_any k (w.alloc (.cells (ubs n32).toArray 25)) hk (hT.below HB0.out))
  have HI := hid (fun (o : Oper) (a : Go.Act) (W : World) (h1 : o.op = .index 231 (.tmp 14) (.tmp 15)) (h2 : a.eval (.tmp 14) = .agg (ubs (eTo (k + 1))).toArray) (h3 : a.eval (.tmp 15) = .int .i64 (k : Int)) => show (execOp a.eval o).run Tryd.prog W = .ok (.value (.agg (ubs (emptyL k)).toArray)) W from by
    obtain ⟨z, hz⟩ := eTo_part (k + 1) k (by omega)
    exact run_index_hash _ _ h1 _ _ _ _ h2 k h3 (by omega) hz (eRow_length k) (emptyL_length k))
  have HML := hid (emptyL_length k)
  have HNL := hid n32_length
  have HAH := hid (fun (o : Oper) (a : Go.Act) (W : World) (h : o.op = .alloc 25) => run_alloc_of (o := o) (a := a) (W := W) _ h _ zeroH8)
  generalize emptyL k = m at HI HML ⊢
  generalize eTo (k + 1) = t at HE HI
  clear hT
  by_cases h0 : k = 0
  · have c0 : ((k : Int) != 0) = false := by simp; omega
    clear h0 hk
    have HJ : Hid True := hid trivial
    go_enter Tryd.func91, Tryd.ntmps91
    go_wp2_with (first
      | (refine Great.wpList_allocTo rfl _ rfl _ _ (HAH.out _ _ _ rfl) ?_)
      | (go_at_call 96; refine (HJ.out _).mono ?_; rintro e1 w1 ⟨rfl, rfl⟩)
      | (go_at_call 151; refine HE.out.mono ?_; rintro e1 w1 ⟨rfl, hb1⟩; have H1 := hid (H0.out.new_ hb1); have B1 := hid (HB0.out.trans (hb1.mono HB0.out.size)); clear hb1)
      | (refine wpList_val _ rfl (HI.out _ _ _ rfl rfl rfl) ?_)
      | (refine wpList_store_row rfl _ (.tmp 2) (.tmp 16) rfl w.heap.size (ubs m).toArray rfl rfl 25 (ubs n32).toArray H1.out (sizeH_of HML.out) ?e5 (ubs_all _) ?e6; rotate_right))
    case e5 => simp [ubs_length, HML.out, HNL.out]
    refine bodyPost_ret (results_row_tmp rfl _ _ w.heap.size 25 (ubs m).toArray (0, 0) _ rfl (setRow_heap _ _ _ _ _ _ H1.out) Tryd.underlying25 rfl (sizeH_of HML.out)) rfl ?_
    exact ⟨rfl, below_setRow B1.out (Nat.le_refl _) _⟩
  · have c0 : ((k : Int) != 0) = true := by simp; omega
    have c1 : ((k : Int) == 0) = false := by simp; omega
    have c2 : ¬ (k : Int) = 0 := by omega
    have HJ := hid (fun W => show Calls Tryd.prog 96 #[.int .i64 (k : Int)] W (fun r w' => r = .returned (.bool true) ∧ w' = W) from by
      have := pjoined_any (k : Int) W
      rwa [show htB (k : Int) = true by rw [htB, decide_eq_true (by omega), decide_eq_true (by omega)]; rfl] at this)
    clear h0 hk
    go_enter Tryd.func91, Tryd.ntmps91
    go_wp2_with (first
      | (refine Great.wpList_allocTo rfl _ rfl _ _ (HAH.out _ _ _ rfl) ?_)
      | (go_at_call 96; refine (HJ.out _).mono ?_; rintro e1 w1 ⟨rfl, rfl⟩)
      | (go_at_call 151; refine HE.out.mono ?_; rintro e1 w1 ⟨rfl, hb1⟩; have H1 := hid (H0.out.new_ hb1); have B1 := hid (HB0.out.trans (hb1.mono HB0.out.size)); clear hb1)
      | (refine wpList_val _ rfl (HI.out _ _ _ rfl rfl rfl) ?_)
      | (refine wpList_store_row rfl _ (.tmp 2) (.tmp 16) rfl w.heap.size (ubs m).toArray rfl rfl 25 (ubs n32).toArray H1.out (sizeH_of HML.out) ?e7 (ubs_all _) ?e8; rotate_right))
    case e7 => simp [ubs_length, HML.out, HNL.out]
    refine bodyPost_ret (results_row_tmp rfl _ _ w.heap.size 25 (ubs m).toArray (0, 0) _ rfl (setRow_heap _ _ _ _ _ _ H1.out) Tryd.underlying25 rfl (sizeH_of HML.out)) rfl ?_
    exact ⟨rfl, below_setRow B1.out (Nat.le_refl _) _⟩
end Go.Proofs.YtfmbpdjcoopaeaaDoor
