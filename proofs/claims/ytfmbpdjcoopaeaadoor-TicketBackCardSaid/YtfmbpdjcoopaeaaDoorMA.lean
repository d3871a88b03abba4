/-
  Layer 13: an order and a ticket of the program as the document's.
  Layer 13: a ticket of the program as the document's.
-/
import Derived.Test.YtfmbpdjcoopaeaaDoorM9
import Derived.Test.YtfmbpdjcoopaeaaDoorK6
import Derived.Test.YtfmbpdjcoopaeaaDoorDc
namespace Go.Proofs.YtfmbpdjcoopaeaaDoor
open Go.RowKit

/-- An operation whose run and whose slot are known. -/
theorem wp_valD {P : Program} {o : Oper} {K : Go.Act → World → Prop} {Q : Exit → Go.Act → World → Prop} {a : Go.Act} {w w' : World} {v : Value} (d : Tmp) (hd : o.dst = some d) (hrun : (execOp a.eval o).run P w = .ok (.value v) w') (h : K (a.put (some d) v) w') : o.wp P a w K Q := by
  rw [← hd] at h
  exact wp_val hrun h
theorem wp_append_sv13 {o : Oper} {a : Go.Act} {W : World} {K : Go.Act → World → Prop} {Q : Exit → Go.Act → World → Prop} (d : Tmp) (hd : o.dst = some d) (s x : Operand)
    (ho : o.op = .call { callee := .builtin .append, args := #[s, x], argTypes := #[95, 95] })
    (base : Nat) (v : Value) (l : List Sl13) (hs : a.eval s = v) (hown : As W base v l) (q : Nat) (p : Sl13) (hx : a.eval x = .slice (some ⟨q, 0, none⟩) 1 1) (hq : At W q (slV p).toArray 44) (hp : okS p) (hl : l.length ≤ 100000) (hbase : base ≤ W.heap.size)
    (h : ∀ A c w', As w' base (.slice A (l ++ [p]).length c) (l ++ [p]) → W.grownBy w' v.ownBlock → ((Value.slice A (l ++ [p]).length c).ownBlock = v.ownBlock ∨ (Value.slice A (l ++ [p]).length c).ownBlock = some W.heap.size) → K (a.put (some d) (.slice A (l ++ [p]).length c)) w') :
    o.wp Tryd.prog a W K Q := by
  rw [← hd] at h
  obtain ⟨i, hi, hz, hsz, hby⟩ := infoSv13_parts
  obtain ⟨v', w', hr, h2, h3, -, h5⟩ := run_append_own_at (P := Tryd.prog) W base 95 o.type 44 i _ 49 56 Tryd.underlying95 hi hz hsz hby (by show (sv 0 n32 n16).toArray.size = 49; rw [List.size_toArray]; exact sv_length 0 n32 n16 n32_length n16_length) (by omega) v l.length (slR l) hown ⟨q, 0, none⟩ 1 1 (slV p) (by rw [slV_length hp])
    (fun j u hu => by rw [add_plain, Nat.zero_add, hq.cell j, List.getElem?_toArray]; exact hu) (slV_one p) (by unfold maxLen; omega) (by omega) hbase
  have h6 : As w' base v' (l ++ [p]) := by
    unfold As
    rw [slR_append, slR_one, List.length_append]
    exact h2
  obtain ⟨A, c, rfl⟩ := h6.form
  unfold Oper.wp execOp
  simp only [ho, resolve, invoke, builtin, Sem.run_bind, Sem.run_pure, Result.andThen_ok, List.map_toArray, List.map_cons, List.map_nil, hs, hx, hr]
  exact h A c w' h6 h3 h5
/-- An order's cells with the slice of its sealed blocks as it grows. -/
def ordC (kd : Int) (AI : Option Addr) (n cI : Nat) (v : Value) (b : Nat) : List Value := [.int .i64 kd, .slice AI n cI, v, .int .u64 (b : Int)]
theorem ordC_one (kd : Int) (AI : Option Addr) (n cI : Nat) (A : Option Addr) (m c : Nat) (b : Nat) : (ordC kd AI n cI (.slice A m c) b).toArray.all (·.oneCell') = true := by simp [ordC, Value.oneCell']
theorem built_ordR (kd : Int) (AI : Option Addr) (n cI b : Nat) : Tryd.prog.built 97 [(0, .int .i64 kd), (1, .slice AI n cI), (3, .int .u64 (b : Int))] = some (ordC kd AI n cI (.slice none 0 0) b).toArray := by kernel_rfl
theorem run_build_ordR {o : Oper} {a : Go.Act} {W : World} (x y z : Operand) (ho : o.op = .build 97 #[(0, x), (1, y), (3, z)]) (kd : Int) (AI : Option Addr) (n cI b : Nat) (hx : a.eval x = .int .i64 kd) (hy : a.eval y = .slice AI n cI) (hz : a.eval z = .int .u64 (b : Int)) : (execOp a.eval o).run Tryd.prog W = .ok (.value (.agg (ordC kd AI n cI (.slice none 0 0) b).toArray)) W :=
  run_build_of _ _ ho _ (by
    rw [← built_ordR kd AI n cI b]
    simp [hx, hy, hz])
theorem sizeO13_of {l : List Value} (h : l.length = 4) : (Tryd.prog.info? 97).map (·.size) = some l.toArray.size := by rw [sizeO13]; simp [h]
/-- What Order has in memory. -/
structure OdW (w : World) (C Z : List Value) (kd : Int) (AI : Option Addr) (n cI b : Nat) (v : Value) (l : List Sl13) (V : World) : Prop where
  bl : Below w.heap.size w V
  c : At V w.heap.size C.toArray 93
  r : At V (w.heap.size + 1) Z.toArray 97
  y : At V (w.heap.size + 2) (ordC kd AI n cI v b).toArray 97
  g : As V (w.heap.size + 3) v l
  z : w.heap.size + 3 ≤ V.heap.size
section
variable {w V V' : World} {C Z : List Value} {kd : Int} {AI : Option Addr} {n cI b : Nat} {v v' : Value} {l l' : List Sl13}
theorem OdW.new (k : OdW w C Z kd AI n cI b v l V) (hb : Below V.heap.size V V') : OdW w C Z kd AI n cI b v l V' := ⟨k.bl.trans (hb.mono k.bl.size), k.c.new_ hb, k.r.new_ hb, k.y.new_ hb, k.g.kept hb, Nat.le_trans k.z hb.size⟩
theorem OdW.drew (k : OdW w C Z kd AI n cI b v l V) : OdW w C Z kd AI n cI b v l V.drew := ⟨k.bl.drew, k.c, k.r, k.y, k.g, k.z⟩
/-- Behind an append: the old slice's header stands still. -/
structure OdM (w : World) (C Z : List Value) (kd : Int) (AI : Option Addr) (n cI b : Nat) (v v' : Value) (l' : List Sl13) (V : World) : Prop where
  bl : Below w.heap.size w V
  c : At V w.heap.size C.toArray 93
  r : At V (w.heap.size + 1) Z.toArray 97
  y : At V (w.heap.size + 2) (ordC kd AI n cI v b).toArray 97
  g : As V (w.heap.size + 3) v' l'
  z : w.heap.size + 3 ≤ V.heap.size
theorem OdW.grow (k : OdW w C Z kd AI n cI b v l V) (hg : V.grownBy V' v.ownBlock) (ha : As V' (w.heap.size + 3) v' l') : OdM w C Z kd AI n cI b v v' l' V' :=
  ⟨k.bl.grown hg k.bl.size (fun r e => by have := (k.g.lt r e).1; omega), at_free k.c (B := w.heap.size + 3) (by omega) hg (fun r e => (k.g.lt r e).1), at_free k.r (B := w.heap.size + 3) (by omega) hg (fun r e => (k.g.lt r e).1), at_free k.y (B := w.heap.size + 3) (by omega) hg (fun r e => (k.g.lt r e).1), ha, Nat.le_trans k.z hg.size⟩
theorem As.row {base g : Nat} (h : As V base v l) (hg : g < base) (cs : Array Value) : As (V.setRow g cs) base v l := by
  refine ⟨h.1, ?_⟩
  rcases h.2 with h2 | ⟨k, cap, cur, rfl, hb1, hh, r⟩
  · exact .inl h2
  · exact .inr ⟨k, cap, cur, rfl, hb1, (setRow_other V g k _ (by omega)).trans hh, r⟩
theorem As.low {base B : Nat} (h : As V base v l) (hB : B ≤ base) : As V B v l := by
  refine ⟨h.1, ?_⟩
  rcases h.2 with h2 | ⟨k, cap, cur, rfl, hb1, hh, r⟩
  · exact .inl h2
  · exact .inr ⟨k, cap, cur, rfl, Nat.le_trans hB hb1, hh, r⟩
theorem OrI.of_as {o : Ord13} {AI AS : Option Addr} {cI cS base : Nat} (hi : Nu V V.heap.size AI o.idx) (hc : o.idx.length ≤ cI) (h : As V base (.slice AS o.sl.length cS) o.sl) : OrI V V.heap.size o AI AS cI cS := ⟨hi, h.ss, hc, h.room⟩
theorem As.cell (h : As V (w.heap.size + 3) v l) (u : Value) : As (V.setCell ⟨w.heap.size + 2, 2, none⟩ u) (w.heap.size + 3) v l := by
  refine ⟨h.1, ?_⟩
  rcases h.2 with h2 | ⟨g, cap, cur, rfl, hb1, hh, r⟩
  · exact .inl h2
  · exact .inr ⟨g, cap, cur, rfl, hb1, (Below.heap_setCell V ⟨w.heap.size + 2, 2, none⟩ u g (by show g ≠ w.heap.size + 2; omega)).trans hh, r⟩
theorem OdM.put (k : OdM w C Z kd AI n cI b v v' l' V) : OdW w C Z kd AI n cI b v' l' (V.setCell ⟨w.heap.size + 2, 2, none⟩ v') :=
  ⟨below_setVals k.bl (by omega) 2 [v'], far_setVals k.c (by omega) 2 [v'], far_setVals k.r (by omega) 2 [v'], at_setVals k.y 2 [v'], k.g.cell v', by show _ ≤ (V.setCell _ _).heap.size; rw [show (V.setCell ⟨w.heap.size + 2, 2, none⟩ v').heap.size = V.heap.size by simp [World.setCell]]; exact k.z⟩
end
set_option maxRecDepth 100000 in
set_option maxHeartbeats 4000000 in
/-- Order. -/
theorem order13_any (o : Ord13) (AI AS : Option Addr) (cI cS : Nat) (w : World) (hk : okO o) (hm : OrI w w.heap.size o AI AS cI cS) (hlen : o.sl.length ≤ 100000) :
    Calls Tryd.prog 50 #[.agg (ordV o AI AS cI cS).toArray] w fun r w' => ∃ A' c', r = .returned (.agg (ordV o AI A' cI c').toArray) ∧ As w' w.heap.size (.slice A' o.sl.length c') o.sl ∧ Below w.heap.size w w' := by
  obtain ⟨kd, l, s, b⟩ := o
  obtain ⟨C, hC⟩ : ∃ C, C = ordV ⟨kd, l, s, b⟩ AI AS cI cS := ⟨_, rfl⟩
  obtain ⟨Z, hZ⟩ : ∃ Z, Z = ordV ord0 none none 0 0 := ⟨_, rfl⟩
  obtain ⟨n, hnn⟩ : ∃ n, n = l.length := ⟨_, rfl⟩
  obtain ⟨m, hmm⟩ : ∃ n, n = s.length := ⟨_, rfl⟩
  have HZO := hid (show (Tryd.prog.info? 97).bind (·.zero) = some (.agg Z.toArray) by rw [hZ]; exact zeroO13)
  have HZL := hid (show Z.length = 4 by rw [hZ]; rfl)
  have HAO := hid (fun (o : Oper) (a : Go.Act) (W : World) (h : o.op = .alloc 97) => run_alloc_of (o := o) (a := a) (W := W) _ h _ HZO.out)
  have HAS := hid (fun (o : Oper) (a : Go.Act) (W : World) (h : o.op = .alloc 37) => run_alloc_of (o := o) (a := a) (W := W) _ h _ zeroPs)
  have HPC := hid (fun (V : World) (x : At V w.heap.size C.toArray 93) => show V.cell? ⟨w.heap.size, 0, none⟩ = some (.int .i64 kd) ∧ V.cell? ⟨w.heap.size, 1, none⟩ = some (.slice AI n cI) ∧ V.cell? ⟨w.heap.size, 2, none⟩ = some (.slice AS m cS) ∧ V.cell? ⟨w.heap.size, 3, none⟩ = some (.int .u64 (b : Int)) from by
    rw [hC] at x
    rw [hnn, hmm]
    exact ordV_cells x)
  have HM := hid (show m = s.length ∧ m ≤ 100000 from ⟨hmm, by rw [hmm]; exact hlen⟩)
  have HN := hid hnn
  have HS := hid (fun (V : World) (x : Below w.heap.size w V) => hm.s.later x)
  have HK := hid hk.2.1
  rw [← hC]
  clear hC hZ hk hm hlen hnn hmm
  have wc : At ((w.alloc (.cells C.toArray 93)).alloc (.cells Z.toArray 97)) w.heap.size C.toArray 93 := (At.new _ _ _).alloc _
  have KA := hid (show At ((w.alloc (.cells C.toArray 93)).alloc (.cells Z.toArray 97)) w.heap.size C.toArray 93 from wc)
  have KB := hid (show At (((w.alloc (.cells C.toArray 93)).alloc (.cells Z.toArray 97)).alloc (.cells Z.toArray 97)) (w.heap.size + 2) Z.toArray 97 from At.new_at (by simp))
  have KC := hid (show OdW w C Z kd AI n cI b (.slice none 0 0) [] ((((w.alloc (.cells C.toArray 93)).alloc (.cells Z.toArray 97)).alloc (.cells Z.toArray 97)).setRow (w.heap.size + 2) (ordC kd AI n cI (.slice none 0 0) b).toArray) from
    ⟨below_setRow ((((Below.refl _ _).alloc (Nat.le_refl _) _).alloc (by simp) _).alloc (by simp; omega) _) (by omega) _, At.setRow_far (wc.alloc _) (by omega), At.setRow_far ((At.new_at (by simp)).alloc _) (by omega), setRow_heap _ _ _ _ _ _ KB.out, As.nil _ _, by simp⟩)
  clear wc
  obtain ⟨c0, c1, c2, c3⟩ := HPC.out _ KA.out
  go_enter Tryd.func50, Tryd.ntmps50
  go_upto_region 2 with (first
    | (refine Great.wpList_allocTo rfl _ rfl _ _ (HAO.out _ _ _ rfl) ?_; simp only [World.size_alloc])
    | (refine wpList_valW (by rfl) (run_build_ordR (.tmp 7) (.tmp 9) (.tmp 11) rfl kd AI n cI b rfl rfl rfl) ?_)
    | (refine wpList_store_row rfl _ (.tmp 3) (.tmp 12) rfl (w.heap.size + 2) (ordC kd AI n cI (.slice none 0 0) b).toArray rfl rfl 97 Z.toArray KB.out (sizeO13_of rfl) ?e1 (ordC_one _ _ _ _ _ _ _ _) ?e2; rotate_right))
  case e1 => simp [HZL.out, ordC]
  generalize ((((w.alloc (.cells C.toArray 93)).alloc (.cells Z.toArray 97)).alloc (.cells Z.toArray 97)).setRow (w.heap.size + 2) (ordC kd AI n cI (.slice none 0 0) b).toArray) = w3 at KC ⊢
  clear c0 c1 c2 c3 KA KB
  obtain ⟨c0, c1, c2, c3⟩ := HPC.out _ KC.out.c
  go_upto_region 3 with fail
  clear c0 c1 c2 c3
  go_loopw [5, 16] (fun _ x wr => ∃ (j : Nat) (v : Value), j ≤ m ∧ x = .int .i64 (j : Int) ∧ Hid (OdW w C Z kd AI n cI b v (s.take j) wr)) (fun _ x _ => m - (intOf x).toNat)
  case atStart => exact ⟨0, .slice none 0 0, by omega, rfl, KC⟩
  case round =>
    clear KC
    obtain ⟨j, v, hj, rfl, HW⟩ := hrel
    by_cases hlt : j < m
    · have hd : decide ((j : Int) < (m : Int)) = true := by simp; omega
      have hdn : decide (j < m) = true := by simp; omega
      have ik : (j : Int) < (m : Int) := by omega
      have hjl : j < s.length := by rw [← HM.out.1]; exact hlt
      obtain ⟨g, q, eA, -, q1⟩ := (HS.out wr HW.out.bl).at HK.out hjl
      have HTK := hid (List.take_succ_eq_append_getElem hjl)
      obtain ⟨x, hx⟩ : ∃ x, x = s[j] := ⟨_, rfl⟩
      rw [← hx] at q1 HTK
      have HXK := hid (show okS x from by rw [hx]; exact HK.out _ (List.getElem_mem hjl))
      obtain ⟨P1, hP1⟩ : ∃ x, x = q + j * 49 := ⟨_, rfl⟩
      rw [show q + 49 * j = P1 by omega] at q1
      have eP1 : q + j * 49 = P1 := hP1.symm
      have Q1 := hid q1
      obtain ⟨j1, hj1⟩ : ∃ q, q = j + 1 := ⟨_, rfl⟩
      rw [← hj1] at HTK
      have e2 : (j : Int) + 1 = (j1 : Int) := by omega
      have ew : IntKind.i64.wrap (j1 : Int) = (j1 : Int) := by rw [IntKind.wrap_i64] <;> have := HM.out <;> omega
      have HMS := hid (show j1 ≤ m ∧ m - j1 < m - j by omega)
      have HTL := hid (show (s.take j).length ≤ 100000 by rw [List.length_take]; have := HM.out; omega)
      clear hlt hj hjl hx hj1 hP1 q1
      generalize s.take j = tk at HTK HW HTL
      subst eA
      obtain ⟨C49, hC49⟩ : ∃ C, C = slV x := ⟨_, rfl⟩
      have HCL := hid (show C49.length = 49 by rw [hC49]; exact slV_length HXK.out)
      have HCO := hid (show C49.toArray.all (·.oneCell') = true by rw [hC49]; exact sv_all _ _ _)
      have HDO := hid (fun (V : World) => doc_any C49 V HCL.out HCO.out)
      rw [← hC49] at Q1
      have HSX := hid (ps_stored wr C49)
      have K4 := hid (HW.out.new (ps_stored_below wr C49))
      have HC49 := hid hC49
      have HVX := hid (fun k e => (HW.out.g.lt k e).2)
      clear hC49 HW
      go_upto_region 5 with (first
        | (refine wpList_valW (by rfl) (run_loadPsAt (.tmp 18) rfl g P1 rfl C49 Q1.out HCL.out) ?_)
        | (refine Great.wpList_allocTo rfl _ rfl _ _ (HAS.out _ _ _ rfl) ?_)
        | (refine wpList_store_row rfl _ (.tmp 5) (.tmp 19) rfl wr.heap.size C49.toArray rfl rfl 37 (sv 0 n32 n16).toArray (heap_alloc_new _ _) (sizePs_of HCL.out) ?e5 HCO.out ?e6; rotate_right))
      case e5 => simp [HCL.out, sv_length 0 n32 n16 n32_length n16_length]
      generalize (wr.alloc (.cells (sv 0 n32 n16).toArray 37)).setRow wr.heap.size C49.toArray = w4 at HSX K4 ⊢
      generalize wr.heap.size = X at HSX HVX ⊢
      have K5 := hid K4.out.drew
      have X5 := hid (show At w4.drew X C49.toArray 37 from HSX.out)
      clear K4 HSX
      refine wp_region_upto (fun W => At W (w.heap.size + 2) (ordC kd AI n cI v b).toArray 97 ∧ At W X C49.toArray 37) 7 8 (by kernel_rfl) (by kernel_rfl) ?_
      try simp only [Act.put, List.setIfInBounds_toArray, List.set_cons_succ, List.set_cons_zero]
      refine wpUpto_takeL (i := 0) (v := .pointer (some ⟨w.heap.size + 2, 2, none⟩)) rfl rfl (by decide +kernel) (by decide +kernel) (by decide +kernel) (by decide +kernel) (by decide) (fun _ _ _ h => h) (Or.inl ⟨by rfl, ?_⟩) ⟨K5.out.y, X5.out⟩ ?_
      · (intro W hSW; go_simp)
      simp only [List.set_cons_succ, List.set_cons_zero]
      refine wpUpto_takeL (i := 1) (v := v) rfl rfl (by decide +kernel) (by decide +kernel) (by decide +kernel) (by decide +kernel) (by decide) (fun _ _ _ h => h) (Or.inl ⟨by rfl, ?_⟩) ⟨K5.out.y, X5.out⟩ ?_
      · (intro W hSW; have q := hSW.1.cell 2; simp only [ordC, List.getElem?_toArray, List.getElem?_cons_succ, List.getElem?_cons_zero] at q; go_simp)
      simp only [List.set_cons_succ, List.set_cons_zero]
      refine wpUpto_takeL (i := 2) (v := .agg C49.toArray) rfl rfl (by decide +kernel) (by decide +kernel) (by decide +kernel) (by decide +kernel) (by decide) (fun _ _ _ h => h) (Or.inl ⟨by rfl, ?_⟩) ⟨K5.out.y, X5.out⟩ ?_
      · (intro W hSW; exact run_loadPsAt (.tmp 5) rfl X 0 rfl C49 (range_all hSW.2) HCL.out)
      simp only [List.set_cons_succ, List.set_cons_zero]
      generalize w4.drew = w5 at K5 X5 ⊢
      refine wpUpto_one (i := 3) rfl (by decide +kernel) rfl ?_
      intro Q0 hQ0
      go_simp
      go_at_call 23
      refine (HDO.out w5).mono ?_
      rintro r6 w6 ⟨rfl, hb6⟩
      have K6 := hid (K5.out.new hb6)
      have X6 := hid (X5.out.new_ hb6)
      refine hQ0.out _ _ (fun _ => ⟨K6.out.y, X6.out⟩) ?_
      clear hQ0 Q0 hb6 K5 X5
      try simp only [Act.put, List.setIfInBounds_toArray, List.set_cons_succ, List.set_cons_zero]
      refine wpUpto_one (i := 4) rfl (by decide +kernel) rfl ?_
      intro Q0 hQ0
      refine wp_valD 24 rfl (run_buildSv13 (.tmp 23) rfl C49 HCL.out rfl) ?_
      have K7 := hid (K6.out.new ((Below.refl w6.heap.size w6).alloc (Nat.le_refl _) (.cells C49.toArray 44)))
      have X7 := hid (X6.out.new_ ((Below.refl w6.heap.size w6).alloc (Nat.le_refl _) (.cells C49.toArray 44)))
      have N7 := hid (At.new w6 C49.toArray 44)
      generalize w6.alloc (.cells C49.toArray 44) = w7 at K7 X7 N7 ⊢
      refine hQ0.out _ _ (fun _ => ⟨K7.out.y, X7.out⟩) ?_
      clear hQ0 Q0 K6 X6
      try simp only [Act.put, List.setIfInBounds_toArray, List.set_cons_succ, List.set_cons_zero]
      refine wpUpto_one (i := 5) rfl (by decide +kernel) rfl ?_
      intro Q0 hQ0
      refine wp_append_sv13 25 rfl (.tmp 21) (.tmp 24) rfl (w.heap.size + 3) v tk rfl K7.out.g w6.heap.size x rfl (by rw [← HC49.out]; exact N7.out) HXK.out HTL.out K7.out.z ?_
      intro A8 c8 w8 h8 g8 _
      have K8 := hid (K7.out.grow g8 h8)
      have X8 := hid (show At w8 X C49.toArray 37 from (g8.block X X7.out.lt (fun e => absurd (HVX.out _ e.symm) (Nat.lt_irrefl _))).trans X7.out)
      refine hQ0.out _ _ (fun _ => ⟨K8.out.y, X8.out⟩) ?_
      clear hQ0 Q0 K7 X7 N7 h8 g8
      try simp only [Act.put, List.setIfInBounds_toArray, List.set_cons_succ, List.set_cons_zero]
      refine wpUpto_takeL (i := 6) (v := .pointer (some ⟨w.heap.size + 2, 2, none⟩)) rfl rfl (by decide +kernel) (by decide +kernel) (by decide +kernel) (by decide +kernel) (by decide) (fun _ _ _ h => h) (Or.inl ⟨by rfl, ?_⟩) ⟨K8.out.y, X8.out⟩ ?_
      · (intro W hSW; go_simp)
      simp only [List.set_cons_succ, List.set_cons_zero]
      refine wpUpto_one (i := 7) rfl (by decide +kernel) rfl ?_
      intro Q0 hQ0
      have q8 := K8.out.y.cell 2
      simp only [ordC, List.getElem?_toArray, List.getElem?_cons_succ, List.getElem?_cons_zero] at q8
      have f8 := K8.out.y.frozen 2
      go_simp
      have K9 := hid K8.out.put
      rw [show (tk ++ [x]).length = tk.length + 1 by simp] at K9
      generalize w8.setCell ⟨w.heap.size + 2, 2, none⟩ (.slice A8 (tk.length + 1) c8) = w9 at K9 ⊢
      refine hQ0.out _ _ (fun h => absurd rfl h) ?_
      clear hQ0 Q0 K8 X8 q8 f8
      try simp only [Act.put, List.setIfInBounds_toArray, List.set_cons_succ, List.set_cons_zero]
      refine wpUpto_done (by decide +kernel) ?_ _
      go_simp
      go_wp2
      exact ⟨⟨j1, _, HMS.out.1, rfl, by rw [HTK.out]; exact K9⟩, by
        show m - ((j1 : Int)).toNat < m - ((j : Int)).toNat
        rw [Int.toNat_natCast, Int.toNat_natCast]
        exact HMS.out.2⟩
    · obtain rfl : j = m := by omega
      have hd : decide ((j : Int) < (j : Int)) = false := by simp
      have HTA := hid (show s.take j = s by rw [HM.out.1]; exact List.take_length)
      rw [HTA.out] at HW
      obtain ⟨A', c', rfl⟩ := HW.out.g.form
      clear hlt hj HTA
      have HYL := hid (show (ordC kd AI n cI (.slice A' s.length c') b).length = 4 from rfl)
      have HY := hid HW.out.y
      have HO := hid (show As (wr.setRow (w.heap.size + 1) (ordC kd AI n cI (.slice A' s.length c') b).toArray) w.heap.size (.slice A' s.length c') s from (HW.out.g.row (by omega) _).low (by omega))
      have HRR := hid (setRow_heap wr (w.heap.size + 1) Z.toArray (ordC kd AI n cI (.slice A' s.length c') b).toArray 97 _ HW.out.r)
      have HBB := hid (show Below w.heap.size w (wr.setRow (w.heap.size + 1) (ordC kd AI n cI (.slice A' s.length c') b).toArray) from below_setRow HW.out.bl (by omega) _)
      have HR := hid HW.out.r
      generalize hOO : ordC kd AI n cI (.slice A' s.length c') b = OO at HYL HY HO HRR HBB
      have HOO := hid hOO
      have HOA := hid (show OO.toArray.all (·.oneCell') = true by rw [← hOO]; exact ordC_one _ _ _ _ _ _ _ _)
      clear hOO HW
      go_wp2_with (first
        | (refine wpList_valW (by rfl) (run_loadO13 (.tmp 3) rfl (w.heap.size + 2) 0 rfl OO (range_all HY.out) HYL.out) ?_)
        | (refine wpList_store_row rfl _ (.tmp 2) (.tmp 28) rfl (w.heap.size + 1) OO.toArray rfl rfl 97 Z.toArray HR.out (sizeO13_of HYL.out) ?e7 HOA.out ?e8; rotate_right))
      case e7 => simp [HZL.out, HYL.out]
      refine bodyPost_ret (results_cell_row rfl _ _ (w.heap.size + 1) 97 OO.toArray (0, 0) _ rfl HRR.out Tryd.underlying97 rfl (sizeO13_of HYL.out)) rfl ?_
      exact ⟨A', c', by rw [← HOO.out, HN.out]; rfl, HO.out, HBB.out⟩
end Go.Proofs.YtfmbpdjcoopaeaaDoor

namespace Go.Proofs.YtfmbpdjcoopaeaaDoor
open Go.RowKit

theorem built_tk (T : TypeId) (zero : (Tryd.prog.info? T).bind (·.zero) = some (.agg (tkV tk0 none none 0 0).toArray)) (und : ∃ fs, Tryd.prog.underlying T = some (.struct fs) ∧ fs.toList.mapM (fun f => (Tryd.prog.info? f.type).map fun i => (f.offset, i.size)) = some [(0, 1), (1, 1), (2, 4), (6, 16)])
    (t : Tk13) (AI AS : Option Addr) (cI cS : Nat) (ht : t.tag.length = 16) : Tryd.prog.built T [(0, .int .u64 (t.prev : Int)), (1, .int .u64 (t.epoch : Int)), (2, .agg (ordV t.o AI AS cI cS).toArray), (3, .agg (ubs t.tag).toArray)] = some (tkV t AI AS cI cS).toArray := by
  obtain ⟨it, hit, hzero⟩ : ∃ it, Tryd.prog.info? T = some it ∧ it.zero = some (.agg (tkV tk0 none none 0 0).toArray) := by
    cases h : Tryd.prog.info? T with
    | none => rw [h] at zero; cases zero
    | some it => rw [h] at zero; exact ⟨it, rfl, zero⟩
  obtain ⟨fs, hu, hp⟩ := und
  unfold Program.built
  simp only [hit, hu, hzero, hp]
  have s1 : spv (tkV tk0 none none 0 0) 0 [.int .u64 (t.prev : Int)] = .int .u64 (t.prev : Int) :: .int .u64 0 :: (ordV ord0 none none 0 0 ++ ubs n16) := rfl
  have s2 : spv (.int .u64 (t.prev : Int) :: .int .u64 0 :: (ordV ord0 none none 0 0 ++ ubs n16)) 1 [.int .u64 (t.epoch : Int)] = .int .u64 (t.prev : Int) :: .int .u64 (t.epoch : Int) :: (ordV ord0 none none 0 0 ++ ubs n16) := rfl
  have s3 : spv (.int .u64 (t.prev : Int) :: .int .u64 (t.epoch : Int) :: (ordV ord0 none none 0 0 ++ ubs n16)) 2 (ordV t.o AI AS cI cS) = .int .u64 (t.prev : Int) :: .int .u64 (t.epoch : Int) :: (ordV t.o AI AS cI cS ++ ubs n16) := rfl
  have s4 : spv (.int .u64 (t.prev : Int) :: .int .u64 (t.epoch : Int) :: (ordV t.o AI AS cI cS ++ ubs n16)) 6 (ubs t.tag) = tkV t AI AS cI cS := by
    have := spv_at (.int .u64 (t.prev : Int) :: .int .u64 (t.epoch : Int) :: ordV t.o AI AS cI cS) (ubs n16) [] (ubs t.tag) (by rw [ubs_length, ubs_length, n16_length, ht])
    rw [List.append_nil, List.append_nil] at this
    exact this
  show Instr.fill _ (tkV tk0 none none 0 0).toArray _ = _
  rw [fill_step _ 0 0 1 (tkV tk0 none none 0 0) [.int .u64 (t.prev : Int)] _ _ rfl rfl rfl (by decide), s1,
    fill_step _ 1 1 1 _ [.int .u64 (t.epoch : Int)] _ _ rfl rfl rfl (by simp), s2,
    fill_step _ 2 2 4 _ (ordV t.o AI AS cI cS) _ _ rfl rfl rfl (by simp [ordV]), s3,
    fill_step _ 3 6 16 _ (ubs t.tag) _ _ rfl rfl (by rw [ubs_length, ht]) (by simp [ordV, ubs_length, n16_length]), s4]
  rfl
theorem run_build_tkR {o : Oper} {a : Go.Act} {W : World} (x y z u : Operand) (ho : o.op = .build 107 #[(0, x), (1, y), (2, z), (3, u)]) (t : Tk13) (AI AS : Option Addr) (cI cS : Nat) (ht : t.tag.length = 16) (hx : a.eval x = .int .u64 (t.prev : Int)) (hy : a.eval y = .int .u64 (t.epoch : Int)) (hz : a.eval z = .agg (ordV t.o AI AS cI cS).toArray) (hu : a.eval u = .agg (ubs t.tag).toArray) : (execOp a.eval o).run Tryd.prog W = .ok (.value (.agg (tkV t AI AS cI cS).toArray)) W :=
  run_build_of _ _ ho _ (by
    rw [← built_tk 107 zeroT13 ⟨_, Tryd.underlying107, by kernel_rfl⟩ t AI AS cI cS ht]
    simp [hx, hy, hz, hu])
/-- What Document has in memory. -/
structure DcW (w : World) (C Z : List Value) (V : World) : Prop where
  bl : Below w.heap.size w V
  c : At V w.heap.size C.toArray 105
  r : At V (w.heap.size + 1) Z.toArray 107
theorem DcW.new {w V V' : World} {C Z : List Value} (k : DcW w C Z V) (hb : Below V.heap.size V V') : DcW w C Z V' := ⟨k.bl.trans (hb.mono k.bl.size), k.c.new_ hb, k.r.new_ hb⟩
set_option maxRecDepth 100000 in
set_option maxHeartbeats 2000000 in
/-- Document. -/
theorem document13_any (t : Tk13) (AI AS : Option Addr) (cI cS : Nat) (w : World) (hk : okT t) (hm : OrI w w.heap.size t.o AI AS cI cS) (hlen : t.o.sl.length ≤ 100000) :
    Calls Tryd.prog 57 #[.agg (tkV t AI AS cI cS).toArray] w fun r w' => ∃ A' c', r = .returned (.agg (tkV t AI A' cI c').toArray) ∧ (OrI w' w'.heap.size t.o AI A' cI c' ∧ As w' w.heap.size (.slice A' t.o.sl.length c') t.o.sl) ∧ Below w.heap.size w w' := by
  obtain ⟨C, hC⟩ : ∃ C, C = tkV t AI AS cI cS := ⟨_, rfl⟩
  obtain ⟨Z, hZ⟩ : ∃ Z, Z = tkV tk0 none none 0 0 := ⟨_, rfl⟩
  obtain ⟨O, hO⟩ : ∃ O, O = ordV t.o AI AS cI cS := ⟨_, rfl⟩
  have HZO := hid (show (Tryd.prog.info? 107).bind (·.zero) = some (.agg Z.toArray) by rw [hZ]; exact zeroT13)
  have HZL := hid (show Z.length = 22 by rw [hZ]; rfl)
  have HOL := hid (show O.length = 4 by rw [hO]; rfl)
  have HAT := hid (fun (o : Oper) (a : Go.Act) (W : World) (h : o.op = .alloc 107) => run_alloc_of (o := o) (a := a) (W := W) _ h _ HZO.out)
  have HPC := hid (fun (V : World) (x : At V w.heap.size C.toArray 105) => show V.cell? ⟨w.heap.size, 0, none⟩ = some (.int .u64 (t.prev : Int)) ∧ V.cell? ⟨w.heap.size, 1, none⟩ = some (.int .u64 (t.epoch : Int)) from by
    rw [hC] at x
    exact (tkV_cells x).1)
  have HPO := hid (fun (V : World) (x : At V w.heap.size C.toArray 105) => show V.rangeAt w.heap.size 2 O from by
    rw [hC] at x
    rw [hO]
    exact tkV_ord x)
  have HPT := hid (fun (V : World) (x : At V w.heap.size C.toArray 105) => show V.rangeAt w.heap.size 6 (ubs t.tag) from by
    rw [hC] at x
    exact tkV_tag x)
  have HTG := hid (show t.tag.length = 16 from hk.2.2.2)
  have HOR := hid (fun (V : World) (x : Below w.heap.size w V) => show Calls Tryd.prog 50 #[.agg O.toArray] V (fun r w' => ∃ A' c', r = .returned (.agg (ordV t.o AI A' cI c').toArray) ∧ As w' V.heap.size (.slice A' t.o.sl.length c') t.o.sl ∧ Below V.heap.size V w') from by
    rw [hO]
    exact order13_any t.o AI AS cI cS V hk.2.2.1 (hm.later x) hlen)
  have HIL := hid (fun (V : World) (x : Below w.heap.size w V) => (hm.later x).i)
  have HCI := hid hm.ci
  rw [← hC]
  clear hC hZ hO hk hm hlen
  have K0 := hid (show DcW w C Z ((w.alloc (.cells C.toArray 105)).alloc (.cells Z.toArray 107)) from ⟨((Below.refl _ _).alloc (Nat.le_refl _) _).alloc (by simp) _, (At.new _ _ _).alloc _, At.new_at (by simp)⟩)
  go_enter Tryd.func57, Tryd.ntmps57
  go_upto_region 1 with (first
    | (refine Great.wpList_allocTo rfl _ rfl _ _ (HAT.out _ _ _ rfl) ?_; simp only [World.size_alloc]))
  generalize (w.alloc (.cells C.toArray 105)).alloc (.cells Z.toArray 107) = w0 at K0 ⊢
  have K1 := hid (K0.out.new ((Below.refl _ _).drew))
  clear K0
  refine wp_region_upto (fun W => At W w.heap.size C.toArray 105) 10 11 (by kernel_rfl) (by kernel_rfl) ?_
  try simp only [Act.put, List.setIfInBounds_toArray, List.set_cons_succ, List.set_cons_zero]
  generalize w0.drew = w1 at K1 ⊢
  refine wpUpto_takeL (i := 0) (v := .pointer (some ⟨w.heap.size, 0, none⟩)) rfl rfl (by decide +kernel) (by decide +kernel) (by decide +kernel) (by decide +kernel) (by decide) (fun _ _ _ h => h) (Or.inl ⟨by rfl, ?_⟩) K1.out.c ?_
  · (intro W hSW; go_simp)
  simp only [List.set_cons_succ, List.set_cons_zero]
  refine wpUpto_takeL (i := 2) (v := .pointer (some ⟨w.heap.size, 1, none⟩)) rfl rfl (by decide +kernel) (by decide +kernel) (by decide +kernel) (by decide +kernel) (by decide) (fun _ _ _ h => h) (Or.inl ⟨by rfl, ?_⟩) K1.out.c ?_
  · (intro W hSW; go_simp)
  simp only [List.set_cons_succ, List.set_cons_zero]
  refine wpUpto_takeL (i := 4) (v := .pointer (some ⟨w.heap.size, 2, none⟩)) rfl rfl (by decide +kernel) (by decide +kernel) (by decide +kernel) (by decide +kernel) (by decide) (fun _ _ _ h => h) (Or.inl ⟨by rfl, ?_⟩) K1.out.c ?_
  · (intro W hSW; go_simp)
  simp only [List.set_cons_succ, List.set_cons_zero]
  refine wpUpto_takeL (i := 7) (v := .pointer (some ⟨w.heap.size, 6, none⟩)) rfl rfl (by decide +kernel) (by decide +kernel) (by decide +kernel) (by decide +kernel) (by decide) (fun _ _ _ h => h) (Or.inl ⟨by rfl, ?_⟩) K1.out.c ?_
  · (intro W hSW; go_simp)
  simp only [List.set_cons_succ, List.set_cons_zero]
  refine wpUpto_takeL (i := 1) (v := .int .u64 (t.prev : Int)) rfl rfl (by decide +kernel) (by decide +kernel) (by decide +kernel) (by decide +kernel) (by decide) (fun _ _ _ h => h) (Or.inl ⟨by rfl, ?_⟩) K1.out.c ?_
  · (intro W hSW; have q := (HPC.out W hSW).1; go_simp)
  simp only [List.set_cons_succ, List.set_cons_zero]
  refine wpUpto_takeL (i := 3) (v := .int .u64 (t.epoch : Int)) rfl rfl (by decide +kernel) (by decide +kernel) (by decide +kernel) (by decide +kernel) (by decide) (fun _ _ _ h => h) (Or.inl ⟨by rfl, ?_⟩) K1.out.c ?_
  · (intro W hSW; have q := (HPC.out W hSW).2; go_simp)
  simp only [List.set_cons_succ, List.set_cons_zero]
  refine wpUpto_takeL (i := 5) (v := .agg O.toArray) rfl rfl (by decide +kernel) (by decide +kernel) (by decide +kernel) (by decide +kernel) (by decide) (fun _ _ _ h => h) (Or.inl ⟨by rfl, ?_⟩) K1.out.c ?_
  · (intro W hSW; exact run_loadPO (.tmp 7) rfl w.heap.size 2 rfl O (HPO.out W hSW) HOL.out)
  simp only [List.set_cons_succ, List.set_cons_zero]
  refine wpUpto_takeL (i := 8) (v := .agg (ubs t.tag).toArray) rfl rfl (by decide +kernel) (by decide +kernel) (by decide +kernel) (by decide +kernel) (by decide) (fun _ _ _ h => h) (Or.inl ⟨by rfl, ?_⟩) K1.out.c ?_
  · (intro W hSW; exact run_load16 (.tmp 10) rfl w.heap.size 6 rfl t.tag (HPT.out W hSW) HTG.out)
  simp only [List.set_cons_succ, List.set_cons_zero]
  refine wpUpto_one (i := 6) rfl (by decide +kernel) rfl ?_
  intro Q0 hQ0
  go_simp
  go_at_call 50
  refine (HOR.out w1 K1.out.bl).mono ?_
  rintro r3 w3 ⟨A3, c3, rfl, ho3, hb3⟩
  have K3 := hid (K1.out.new hb3)
  have O3 := hid ho3
  refine hQ0.out _ _ (fun _ => K3.out.c) ?_
  clear hQ0 Q0 hb3 ho3
  try simp only [Act.put, List.setIfInBounds_toArray, List.set_cons_succ, List.set_cons_zero]
  refine wpUpto_one (i := 9) rfl (by decide +kernel) rfl ?_
  intro Q0 hQ0
  refine wp_valD 12 rfl (run_build_tkR (.tmp 4) (.tmp 6) (.tmp 9) (.tmp 11) rfl t AI A3 cI c3 HTG.out rfl rfl rfl rfl) ?_
  refine hQ0.out _ _ (fun _ => K3.out.c) ?_
  clear hQ0 Q0
  try simp only [Act.put, List.setIfInBounds_toArray, List.set_cons_succ, List.set_cons_zero]
  obtain ⟨D2, hD2⟩ : ∃ D, D = tkV t AI A3 cI c3 := ⟨_, rfl⟩
  have HD2 := hid hD2
  have HDL := hid (show D2.length = 22 by rw [hD2]; exact tkV_length HTG.out _ _ _ _)
  have HDA := hid (show D2.toArray.all (·.oneCell') = true by rw [hD2]; exact tkV_all _ _ _ _ _)
  rw [← hD2]
  clear hD2
  have HDS := hid (sizeT13_of HDL.out)
  refine wpUpto_one (i := 10) rfl (by decide +kernel) rfl ?_
  intro Q0 hQ0
  refine wp_store_row _ (.tmp 2) (.tmp 12) rfl (w.heap.size + 1) D2.toArray rfl rfl 107 Z.toArray K3.out.r HDS.out (by rw [List.size_toArray, List.size_toArray, HDL.out, HZL.out]) HDA.out ?_
  have K4 := K3
  have O4 := hid (show As (w3.setRow (w.heap.size + 1) D2.toArray) w.heap.size (.slice A3 t.o.sl.length c3) t.o.sl from (O3.out.row (by have := K1.out.r.lt; omega) _).low (by have := K1.out.r.lt; omega))
  have HBB := hid (show Below w.heap.size w (w3.setRow (w.heap.size + 1) D2.toArray) from below_setRow K3.out.bl (by omega) _)
  refine hQ0.out _ _ (fun h => absurd rfl h) ?_
  clear hQ0 Q0
  refine wpUpto_done (by kernel_rfl) ?_ _
  go_wp2
  refine bodyPost_ret (results_cell_row rfl _ _ (w.heap.size + 1) 107 D2.toArray (0, 0) _ rfl (setRow_heap _ _ _ _ _ _ K4.out.r) Tryd.underlying107 rfl HDS.out) rfl ?_
  exact ⟨A3, c3, by rw [HD2.out], ⟨OrI.of_as (HIL.out _ HBB.out) HCI.out O4.out, O4.out⟩, HBB.out⟩
end Go.Proofs.YtfmbpdjcoopaeaaDoor
