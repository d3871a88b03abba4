/-
  The program's layer 7: a sealer in memory; New, and none's sealer.
-/
import Derived.Test.YtnaihcoafgigcaaDoorSd
import Derived.Test.YtnaihcoafgigcaaDoorPo
import Derived.Test.YtnaihcoafgigcaaDoorZ3
namespace Go.Proofs.YtnaihcoafgigcaaDoor
open Go.RowKit

/-- A sealer's cells; a sealer for a key. -/
def slv (C : Nat) (t : List UInt8) : List Value := .pointer (some ⟨C, 0, none⟩) :: ubs t
theorem slv_length (C : Nat) (t : List UInt8) (ht : t.length = 32) : (slv C t).length = 33 := by simp [slv, ubs_length, ht]
def SlB (w : World) (r t : List UInt8) (S : Nat) : Prop := ∃ C, At w C (ubs r).toArray 94 ∧ At w S (slv C t).toArray 68
theorem SlB.new {w w' : World} {r t : List UInt8} {S : Nat} (h : SlB w r t S) (hb : Below w.heap.size w w') : SlB w' r t S := by
  obtain ⟨C, h1, h2⟩ := h
  exact ⟨C, h1.new_ hb, h2.new_ hb⟩
def SlA (w : World) (key : List UInt8) (S : Nat) : Prop := SlB w (rks (keyEnc key) 11) (keyTag key) S
theorem SlA.new {w w' : World} {key : List UInt8} {S : Nat} (h : SlA w key S) (hb : Below w.heap.size w w') : SlA w' key S := SlB.new h hb
theorem SlA.drew {w : World} {key : List UInt8} {S : Nat} (h : SlA w key S) : SlA w.drew key S := h
/-- A sealer or none. -/
def Slp (w : World) (key : List UInt8) (p : Option Addr) : Prop := (p = none ∧ key = n16) ∨ ∃ S, p = some ⟨S, 0, none⟩ ∧ SlA w key S
theorem Slp.new {w w' : World} {key : List UInt8} {p : Option Addr} (h : Slp w key p) (hb : Below w.heap.size w w') : Slp w' key p := h.imp id (fun ⟨S, e, h⟩ => ⟨S, e, h.new hb⟩)
theorem zeroSl : (Tryd.prog.info? 68).bind (·.zero) = some (.agg (.pointer none :: ubs n32).toArray) := by kernel_rfl
theorem sizeSl : (Tryd.prog.info? 68).map (·.size) = some 33 := by kernel_rfl
theorem built_sl (C : Nat) (t : List UInt8) (ht : t.length = 32) : Tryd.prog.built 68 [(0, .pointer (some ⟨C, 0, none⟩)), (1, .agg (ubs t).toArray)] = some (slv C t).toArray := by
  obtain ⟨it, hit, hzero⟩ : ∃ it, Tryd.prog.info? 68 = some it ∧ it.zero = some (.agg (.pointer none :: ubs n32).toArray) := by
    have hz := zeroSl
    cases h : Tryd.prog.info? 68 with
    | none => rw [h] at hz; cases hz
    | some it => rw [h] at hz; exact ⟨it, rfl, hz⟩
  obtain ⟨fs, hu, hp⟩ : ∃ fs, Tryd.prog.underlying 68 = some (.struct fs) ∧ fs.toList.mapM (fun f => (Tryd.prog.info? f.type).map fun i => (f.offset, i.size)) = some [(0, 1), (1, 32)] := ⟨_, Tryd.underlying68, by kernel_rfl⟩
  unfold Program.built
  simp only [hit, hu, hzero, hp]
  have s1 : spv (.pointer none :: ubs n32) 0 [.pointer (some ⟨C, 0, none⟩)] = slv C n32 := rfl
  have s2 : spv (slv C n32) 1 (ubs t) = slv C t := by
    have := spv_at [.pointer (some ⟨C, 0, none⟩)] (ubs n32) [] (ubs t) (by simp [ubs_length, n32_length, ht])
    rw [List.append_nil, List.append_nil] at this
    exact this
  show Instr.fill _ (Value.pointer none :: ubs n32).toArray _ = _
  rw [fill_step _ 0 0 1 (.pointer none :: ubs n32) [.pointer (some ⟨C, 0, none⟩)] _ _ rfl rfl rfl (by simp [ubs_length, n32_length]), s1,
    fill_step _ 1 1 32 _ (ubs t) _ _ rfl rfl (by rw [ubs_length, ht]) (by rw [slv_length C n32 n32_length]; omega), s2]
  rfl
theorem run_build_sl {o : Oper} {a : Go.Act} {W : World} (x y : Operand) (ho : o.op = .build 68 #[(0, x), (1, y)]) (C : Nat) (t : List UInt8) (ht : t.length = 32)
    (hx : a.eval x = .pointer (some ⟨C, 0, none⟩)) (hy : a.eval y = .agg (ubs t).toArray) : (execOp a.eval o).run Tryd.prog W = .ok (.value (.agg (slv C t).toArray)) W :=
  run_build_of _ _ ho _ (by
    have := built_sl C t ht
    rw [← this]
    simp [hx, hy])
theorem run_box_of {o : Oper} {a : Go.Act} {W : World} (t : TypeId) (x : Operand) (ho : o.op = .box t x) (cs : Array Value) (hx : a.eval x = .agg cs) :
    (execOp a.eval o).run Tryd.prog W = .ok (.value (.pointer (some ⟨W.heap.size, 0, none⟩))) (W.alloc (.cells cs t)) := by
  unfold execOp
  simp only [ho, Sem.run_bind, Instr.box, newVar, newRow, run_newObj_alloc, Sem.run_pure, Result.andThen_ok, hx, Value.cells]
theorem set7_stored_at (w : World) (s : List UInt8) : At ((w.alloc (.cells (ubs n112).toArray 63)).setRow w.heap.size (ubs s).toArray) w.heap.size (ubs s).toArray 63 := setRow_heap _ _ (ubs n112).toArray _ _ _ (At.new _ _ _)
theorem set7_stored_below (w : World) (s : List UInt8) : Below w.heap.size w ((w.alloc (.cells (ubs n112).toArray 63)).setRow w.heap.size (ubs s).toArray) := below_setRow ((Below.refl _ _).alloc (Nat.le_refl _) _) (Nat.le_refl _) _
/-- What New's last region yields. -/
def nwF (e t r : List UInt8) (E : Nat) (i : Nat) (v : Value) (W : World) : Prop :=
  match i with
  | 0 => v = .pointer (some ⟨E, 0, none⟩)
  | 1 => v = .agg (ubs e).toArray
  | 2 => ∃ C, v = .pointer (some ⟨C, 0, none⟩) ∧ At W C (ubs r).toArray 94
  | 3 => v = .pointer (some ⟨E, 16, none⟩)
  | 4 => v = .agg (ubs t).toArray
  | 5 => ∃ C, v = .agg (slv C t).toArray ∧ At W C (ubs r).toArray 94
  | _ => ∃ S, v = .pointer (some ⟨S, 0, none⟩) ∧ SlB W r t S
theorem nwF_new {e t r : List UInt8} {E i : Nat} {v : Value} {W W' : World} (h : nwF e t r E i v W) (hb : Below W.heap.size W W') : nwF e t r E i v W' := by
  rcases i with _ | _ | _ | _ | _ | _ | i
  · exact h
  · exact h
  · obtain ⟨C, h1, h2⟩ := h; exact ⟨C, h1, h2.new_ hb⟩
  · exact h
  · exact h
  · obtain ⟨C, h1, h2⟩ := h; exact ⟨C, h1, h2.new_ hb⟩
  · obtain ⟨S, h1, h2⟩ := h; exact ⟨S, h1, h2.new hb⟩
set_option maxRecDepth 100000 in
set_option maxHeartbeats 1000000 in
theorem pnew_any (key : List UInt8) (w : World) (hk : key.length = 16) (hT : Tabs w) :
    Calls Tryd.prog 8 #[.agg (ubs key).toArray] w fun e w' => ∃ S, e = .returned (.pointer (some ⟨S, 0, none⟩)) ∧ SlA w' key S ∧ Below w.heap.size w w' := by
  have HA0 := hid (At.new w (ubs key).toArray 23)
  have HB0 := hid ((Below.refl w.heap.size w).alloc (Nat.le_refl _) (.cells (ubs key).toArray 23))
  have HO := hid (kof_any key (w.alloc (.cells (ubs key).toArray 23)) hk (hT.below HB0.out))
  have HAC := hid (fun (o : Oper) (a : Go.Act) (W : World) (h : o.op = .alloc 63) => run_alloc_of (o := o) (a := a) (W := W) _ h _ zero112)
  have HN := hid (fun W => new_any (keyEnc key) W (keyEnc_length key))
  have HS := hid (fun (W : World) (g : Nat) (h : At W g (ubs (setL key)).toArray 63) => And.intro (set_enc h) (set_tag h))
  have HSL := hid (setL_length key)
  have HEL := hid (keyEnc_length key)
  have HTL := hid (keyTag_length key)
  have HZK := hid (show (Tryd.prog.info? 23).map (·.size) = some (ubs key).toArray.size from sizeKey_of hk)
  unfold SlA
  generalize setL key = s0 at HO HS HSL
  generalize rks (keyEnc key) 11 = r0 at HN ⊢
  generalize keyEnc key = e0 at HN HS HEL
  generalize keyTag key = t0 at HS HTL ⊢
  clear hk hT
  go_enter Tryd.func8, Tryd.ntmps8
  go_upto_region 2 with (first
    | (refine wpList_load_row rfl _ (.tmp 1) rfl w.heap.size rfl 23 (ubs key).toArray (0, 0) _ HA0.out Tryd.underlying23 rfl HZK.out ?_)
    | (go_at_call 21; refine HO.out.mono ?_; rintro e w1 ⟨rfl, hb1⟩; have B1 := hid (HB0.out.trans (hb1.mono HB0.out.size)); clear hb1)
    | (refine Great.wpList_allocTo rfl _ rfl _ _ (HAC.out _ _ _ rfl) ?_)
    | (refine wpList_store_row rfl _ (.tmp 3) (.tmp 5) rfl w1.heap.size (ubs s0).toArray rfl rfl 63 (ubs n112).toArray (heap_alloc_new _ _) (sizeSet_of HSL.out) ?e5 (ubs_all _) ?e6; rotate_right; have A2 := hid (set7_stored_at w1 s0); have B2 := hid (B1.out.trans ((set7_stored_below w1 s0).mono B1.out.size)); generalize ((w1.alloc (.cells (ubs n112).toArray 63)).setRow w1.heap.size (ubs s0).toArray) = w2 at A2 B2 ⊢; generalize w1.heap.size = E at A2 ⊢))
  case e5 => simp [ubs_length, n112_length, HSL.out]
  clear HA0 HB0 HO B1 HAC
  refine wp_region_facts 8 8 [6, 7, 8, 9, 10, 11, 12, 2] (nwF e0 t0 r0 E) (fun W => At W E (ubs s0).toArray 63 ∧ Below w.heap.size w W) (by kernel_rfl) (by kernel_rfl)
    (fun W W' h hb => ⟨h.1.new_ hb, h.2.trans (hb.mono h.2.size)⟩) (fun _ _ _ _ h hb => nwF_new h hb) (⟨A2.out, B2.out.drew⟩) ?_ ?_
  · intro i hi vals W K hB hn hK
    simp only [frm_cons, frm_nil, List.set_cons_succ, List.set_cons_zero, Nat.reduceAdd] at hK ⊢
    rcases (by omega : i = 0 ∨ i = 1 ∨ i = 2 ∨ i = 3 ∨ i = 4 ∨ i = 5 ∨ i = 6 ∨ i = 7) with rfl | rfl | rfl | rfl | rfl | rfl | rfl | rfl
    · refine wpOp_plain rfl rfl (wp_val (w' := W) (v := .pointer (some ⟨E, 0, none⟩)) (by go_simp) ?_)
      exact hK _ _ rfl (Below.refl _ _)
    · have h0 := hn 0 (by decide +kernel)
      simp only [nwF] at h0
      simp only [h0] at hK ⊢
      refine wpOp_plain rfl rfl (wp_val (run_loadK (.tmp 6) rfl E 0 rfl e0 (HS.out _ _ hB.1).1 HEL.out) ?_)
      exact hK _ _ rfl (Below.refl _ _)
    · have h1 := hn 1 (by decide +kernel)
      simp only [nwF] at h1
      simp only [h1] at hK ⊢
      refine wpOp_plain rfl rfl ?_
      go_simp
      go_at_call 22
      refine (HN.out W).mono ?_
      rintro e W' ⟨C, rfl, -, hA, hb⟩
      exact hK _ _ ⟨C, rfl, hA⟩ hb
    · refine wpOp_plain rfl rfl (wp_val (w' := W) (v := .pointer (some ⟨E, 16, none⟩)) (by go_simp) ?_)
      exact hK _ _ rfl (Below.refl _ _)
    · have h3 := hn 3 (by decide +kernel)
      simp only [nwF] at h3
      simp only [h3] at hK ⊢
      refine wpOp_plain rfl rfl (wp_val (run_loadH (.tmp 9) rfl E 16 rfl t0 (HS.out _ _ hB.1).2 HTL.out) ?_)
      exact hK _ _ rfl (Below.refl _ _)
    · have h2 := hn 2 (by decide +kernel)
      have h4 := hn 4 (by decide +kernel)
      simp only [nwF] at h4
      obtain ⟨C2, e2, A2⟩ := h2
      simp only [e2, h4] at hK ⊢
      refine wpOp_plain rfl rfl (wp_val (run_build_sl (.tmp 8) (.tmp 10) rfl C2 t0 HTL.out rfl rfl) ?_)
      exact hK _ _ ⟨C2, rfl, A2⟩ (Below.refl _ _)
    · have h5 := hn 5 (by decide +kernel)
      obtain ⟨C5, e5, A5⟩ := h5
      simp only [e5] at hK ⊢
      refine wpOp_plain rfl rfl (wp_val (run_box_of _ (.tmp 11) rfl _ rfl) ?_)
      exact hK _ _ ⟨W.heap.size, rfl, C5, A5.alloc _, At.new _ _ _⟩ ((Below.refl _ _).alloc (Nat.le_refl _) _)
    · have h6 := hn 6 (by decide +kernel)
      obtain ⟨S6, e6, A6⟩ := h6
      simp only [e6] at hK ⊢
      refine wpOp_plain rfl rfl (wp_val (w' := W) (v := .pointer (some ⟨S6, 0, none⟩)) (by go_simp) ?_)
      exact hK _ _ ⟨S6, rfl, A6⟩ (Below.refl _ _)
  · intro vals W hB hF
    have h0 := hF 0 (by omega)
    have h1 := hF 1 (by omega)
    have h2 := hF 2 (by omega)
    have h3 := hF 3 (by omega)
    have h4 := hF 4 (by omega)
    have h5 := hF 5 (by omega)
    have h6 := hF 6 (by omega)
    have h7 := hF 7 (by omega)
    simp only [nwF] at h0 h1 h3 h4
    obtain ⟨C2, e2, A2⟩ := h2
    obtain ⟨C5, e5, A5⟩ := h5
    obtain ⟨S6, e6, A6⟩ := h6
    obtain ⟨S7, e7, A7⟩ := h7
    simp only [frm_cons, frm_nil, List.set_cons_succ, List.set_cons_zero, Nat.reduceAdd, h0, h1, e2, h3, h4, e5, e6, e7]
    refine wpUpto_done (by decide +kernel) ?_ _
    have HE := hid hB.2
    have HF := hid A7
    clear hB hF A2 h0 h1 h3 h4
    go_simp
    go_wp2
    go_ret
    exact ⟨_, rfl, HF.out, HE.out⟩
theorem run_build_key7 {o : Oper} {a : Go.Act} {W : World} (ho : o.op = .build 23 #[]) : (execOp a.eval o).run Tryd.prog W = .ok (.value (.agg (ubs n16).toArray)) W :=
  run_build_of _ _ ho _ (by kernel_rfl)
set_option maxRecDepth 100000 in
set_option maxHeartbeats 1000000 in
theorem porZ_any (key : List UInt8) (p : Option Addr) (w : World) (hs : Slp w key p) (hT : Tabs w) :
    Calls Tryd.prog 23 #[.pointer p] w fun e w' => ∃ S, e = .returned (.pointer (some ⟨S, 0, none⟩)) ∧ SlA w' key S ∧ Below w.heap.size w w' := by
  rcases hs with ⟨rfl, rfl⟩ | ⟨S, rfl, hS⟩
  · have HN := hid (pnew_any n16 w n16_length hT)
    clear hT
    go_enter Tryd.func23, Tryd.ntmps23
    go_wp2_with (first
      | (refine wpList_valW (by rfl) (run_build_key7 rfl) ?_)
      | (go_at_call 8; refine HN.out.mono ?_; rintro e w1 ⟨S, rfl, h1⟩; have H1 := hid h1; clear h1))
    go_ret
    exact ⟨_, rfl, H1.out.1, H1.out.2⟩
  · have H1 := hid hS
    clear hS hT
    go_enter Tryd.func23, Tryd.ntmps23
    go_wp2
    go_ret
    exact ⟨_, rfl, H1.out, Below.refl _ _⟩
end Go.Proofs.YtnaihcoafgigcaaDoor
