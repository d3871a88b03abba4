/-
  The program's Of; a set's Session.
-/
import Derived.Test.YtnaihcoafgigcaaDoorPs
import Derived.Test.YtnaihcoafgigcaaDoorY1
namespace Go.Proofs.YtnaihcoafgigcaaDoor
open Go.RowKit

theorem run_arrayAt16 (D : Nat) (W : World) : (Instr.arrayAt 23 (.slice (some ⟨D, 0, none⟩) 16 32)).run Tryd.prog W = .ok (.pointer (some ⟨D, 0, none⟩)) W := by
  simp [Instr.arrayAt, run_underlying Tryd.underlying23]
theorem set_link {W : World} {g : Nat} {key : List UInt8} {t : TypeId} (h : At W g (ubs (setL key)).toArray t) : W.rangeAt g 80 (ubs (keyLink key)) := by
  have := range_at (a := keyEnc key ++ (keyTag key ++ keyTicket key)) (m := keyLink key) (z := []) h (by simp [setL, List.append_assoc])
  rw [List.length_append, List.length_append, keyEnc_length, keyTag_length, keyTicket_length] at this
  exact this
theorem set_enc {W : World} {g : Nat} {key : List UInt8} {t : TypeId} (h : At W g (ubs (setL key)).toArray t) : W.rangeAt g 0 (ubs (keyEnc key)) := by
  have := range_at (a := []) (m := keyEnc key) (z := keyTag key ++ (keyTicket key ++ keyLink key)) h (by rw [List.nil_append, setL])
  rw [List.length_nil] at this
  exact this
theorem set_tag {W : World} {g : Nat} {key : List UInt8} {t : TypeId} (h : At W g (ubs (setL key)).toArray t) : W.rangeAt g 16 (ubs (keyTag key)) := by
  have := range_at (a := keyEnc key) (m := keyTag key) (z := keyTicket key ++ keyLink key) h (by rw [setL])
  rw [keyEnc_length] at this
  exact this
theorem set_ticket {W : World} {g : Nat} {key : List UInt8} {t : TypeId} (h : At W g (ubs (setL key)).toArray t) : W.rangeAt g 48 (ubs (keyTicket key)) := by
  have := range_at (a := keyEnc key ++ keyTag key) (m := keyTicket key) (z := keyLink key) h (by simp [setL, List.append_assoc])
  rw [List.length_append, keyEnc_length, keyTag_length] at this
  exact this
theorem run_build_set {o : Oper} {a : Go.Act} {W : World} (x y z u : Operand) (ho : o.op = .build 63 #[(0, x), (1, y), (2, z), (3, u)]) (k e b c : List UInt8) (he : k.length = 16) (ha : e.length = 32) (hb : b.length = 32) (hc : c.length = 32)
    (hx : a.eval x = .agg (ubs k).toArray) (hy : a.eval y = .agg (ubs e).toArray) (hz : a.eval z = .agg (ubs b).toArray) (hu : a.eval u = .agg (ubs c).toArray) : (execOp a.eval o).run Tryd.prog W = .ok (.value (.agg (ubs (k ++ (e ++ (b ++ c)))).toArray)) W := by
  unfold execOp
  simp only [ho, Sem.run_bind]
  rw [run_build W _ _ (ubs (k ++ (e ++ (b ++ c)))).toArray (by
    have := built_set k e b c he ha hb hc
    rw [← this]
    simp [hx, hy, hz, hu])]
  rfl
/-- What holds in Of: the key, the result, the label's tag. -/
structure OfW (w : World) (key h : List UInt8) (D : Nat) (W : World) : Prop where
  a0 : At W w.heap.size (ubs key).toArray 23
  a1 : At W (w.heap.size + 1) (ubs n112).toArray 63
  d : At W D (ubs h).toArray 61
  below : Below w.heap.size w W
theorem OfW.new {w W W' : World} {key h : List UInt8} {D : Nat} (x : OfW w key h D W) (hb : Below W.heap.size W W') : OfW w key h D W' := ⟨x.a0.new_ hb, x.a1.new_ hb, x.d.new_ hb, x.below.trans (hb.mono x.below.size)⟩
theorem OfW.drew {w W : World} {key h : List UInt8} {D : Nat} (x : OfW w key h D W) : OfW w key h D W.drew := ⟨x.a0, x.a1, x.d, x.below.drew⟩
theorem zero112 : (Tryd.prog.info? 63).bind (·.zero) = some (.agg (ubs n112).toArray) := by kernel_rfl
/-- What Of's last region yields. -/
def ofF (key t u l e s : List UInt8) (D : Nat) : Nat → Value
  | 0 => .slice (some ⟨D, 0, none⟩) 16 32
  | 1 => .pointer (some ⟨D, 0, none⟩)
  | 2 => .agg (ubs e).toArray
  | 3 => .agg (ubs key).toArray
  | 4 => .agg (ubs t).toArray
  | 5 => .agg (ubs key).toArray
  | 6 => .agg (ubs u).toArray
  | 7 => .agg (ubs key).toArray
  | 8 => .agg (ubs l).toArray
  | _ => .agg (ubs s).toArray
theorem key_length_of {l : List UInt8} (h : l.length = 16) : (Tryd.prog.info? 23).map (·.size) = some (ubs l).length := by rw [sizeKey, ubs_length, h]
set_option maxRecDepth 100000 in
set_option maxHeartbeats 1000000 in
theorem kof_any (key : List UInt8) (w : World) (hk : key.length = 16) (hT : Tabs w) :
    Calls Tryd.prog 21 #[.agg (ubs key).toArray] w fun e w' => e = .returned (.agg (ubs (setL key)).toArray) ∧ Below w.heap.size w w' := by
  have H0 := hid ((At.new w (ubs key).toArray 23).alloc (.cells (ubs n112).toArray 63))
  have H1 := hid (show At ((w.alloc (.cells (ubs key).toArray 23)).alloc (.cells (ubs n112).toArray 63)) (w.heap.size + 1) (ubs n112).toArray 63 from At.new_at (by simp))
  have HB := hid (((Below.refl w.heap.size w).alloc (Nat.le_refl _) (.cells (ubs key).toArray 23)).alloc (by simp) (.cells (ubs n112).toArray 63))
  have HL0 := hid (show Calls Tryd.prog 38 #[.agg (ubs key).toArray, .string { data := #[101, 110, 116, 114, 117, 115, 116, 32, 115, 101, 97, 108] }] _ (fun e w' => e = .returned (.agg (ubs (macL key labSeal)).toArray) ∧ Below _ _ w') from klabel_any key labSeal ((w.alloc (.cells (ubs key).toArray 23)).alloc (.cells (ubs n112).toArray 63)) hk (by simp [labSeal]) (hT.below HB.out))
  have HL1 := hid (fun (W : World) (h : Below w.heap.size w W) => show Calls Tryd.prog 38 #[.agg (ubs key).toArray, .string { data := #[101, 110, 116, 114, 117, 115, 116, 32, 116, 97, 103] }] W (fun e w' => e = .returned (.agg (ubs (keyTag key)).toArray) ∧ Below W.heap.size W w') from klabel_any key labTag W hk (by simp [labTag]) (hT.below h))
  have HL2 := hid (fun (W : World) (h : Below w.heap.size w W) => show Calls Tryd.prog 38 #[.agg (ubs key).toArray, .string { data := #[101, 110, 116, 114, 117, 115, 116, 32, 116, 105, 99, 107, 101, 116] }] W (fun e w' => e = .returned (.agg (ubs (keyTicket key)).toArray) ∧ Below W.heap.size W w') from klabel_any key labTicket W hk (by simp [labTicket]) (hT.below h))
  have HL3 := hid (fun (W : World) (h : Below w.heap.size w W) => show Calls Tryd.prog 38 #[.agg (ubs key).toArray, .string { data := #[101, 110, 116, 114, 117, 115, 116, 32, 108, 105, 110, 107] }] W (fun e w' => e = .returned (.agg (ubs (keyLink key)).toArray) ∧ Below W.heap.size W w') from klabel_any key labLink W hk (by simp [labLink]) (hT.below h))
  have HML := hid (macL_length key labSeal)
  have HZ := hid (key_length_of hk)
  have HZK := hid (show (Tryd.prog.info? 23).map (·.size) = some (ubs key).toArray.size from sizeKey_of hk)
  obtain ⟨h, hh⟩ : ∃ h, h = macL key labSeal := ⟨_, rfl⟩
  obtain ⟨e0, he0⟩ : ∃ h, h = keyEnc key := ⟨_, rfl⟩
  obtain ⟨t0, ht0⟩ : ∃ h, h = keyTag key := ⟨_, rfl⟩
  obtain ⟨u0, hu0⟩ : ∃ h, h = keyTicket key := ⟨_, rfl⟩
  obtain ⟨l0, hl0⟩ : ∃ h, h = keyLink key := ⟨_, rfl⟩
  obtain ⟨s0, hs0⟩ : ∃ h, h = setL key := ⟨_, rfl⟩
  have HSE := hid (show e0 ++ (t0 ++ (u0 ++ l0)) = s0 by rw [he0, ht0, hu0, hl0, hs0]; rfl)
  have HEL := hid (show e0.length = 16 by rw [he0]; exact keyEnc_length _)
  have HTL := hid (show t0.length = 32 by rw [ht0]; exact keyTag_length _)
  have HUL := hid (show u0.length = 32 by rw [hu0]; exact keyTicket_length _)
  have HLL := hid (show l0.length = 32 by rw [hl0]; exact keyLink_length _)
  have HSL := hid (show s0.length = 112 by rw [hs0]; exact setL_length _)
  have HEH := hid (show h = e0 ++ h.drop 16 by rw [he0, keyEnc, ← hh, List.take_append_drop])
  rw [← hh] at HML HL0
  rw [← ht0] at HL1
  rw [← hu0] at HL2
  rw [← hl0] at HL3
  rw [← hs0]
  have HAC := hid (fun (o : Oper) (a : Go.Act) (W : World) (h : o.op = .alloc 63) => run_alloc_of (o := o) (a := a) (W := W) _ h _ zero112)
  have hz := noughts32
  clear hk hT hh he0 ht0 hu0 hl0 hs0
  go_enter Tryd.func21, Tryd.ntmps21
  go_upto_region 2 with (first
    | (refine Great.wpList_allocTo rfl _ rfl _ _ (HAC.out _ _ _ rfl) ?_)
    | (refine wpList_load_row rfl _ (.tmp 1) rfl w.heap.size rfl 23 (ubs key).toArray (0, 0) _ H0.out Tryd.underlying23 rfl HZK.out ?_)
    | (go_at_call 38; refine HL0.out.mono ?_; rintro e w2 ⟨rfl, hb2⟩; have W2 := hid (show OfW w key h w2.heap.size ((w2.alloc (.cells (ubs n32).toArray 61)).setRow w2.heap.size (ubs h).toArray) from ⟨(H0.out.new_ hb2).new_ (stored_below w2 h), (H1.out.new_ hb2).new_ (stored_below w2 h), stored_at w2 h, (HB.out.trans (hb2.mono HB.out.size)).trans ((stored_below w2 h).mono (HB.out.trans (hb2.mono HB.out.size)).size)⟩); clear hb2)
    | (refine wpList_store_row rfl _ (.tmp 3) (.tmp 5) rfl w2.heap.size (ubs h).toArray rfl rfl 61 (ubs n32).toArray (heap_alloc_new _ _) (sizeH_of HML.out) ?e5 (ubs_all _) ?e6; rotate_right))
  case e5 => simp [ubs_length, n32_length, HML.out]
  generalize ((w2.alloc (.cells (ubs n32).toArray 61)).setRow w2.heap.size (ubs h).toArray) = W0 at W2 ⊢
  generalize w2.heap.size = D at W2 ⊢
  clear H0 H1 HB HL0 HAC
  refine wp_region_facts 10 11 [6, 7, 8, 9, 10, 11, 12, 13, 14, 15] (fun i v _ => v = ofF key t0 u0 l0 e0 s0 D i) (OfW w key h D) (by kernel_rfl) (by kernel_rfl)
    (fun W W' h hb => h.new hb) (fun _ _ _ _ h _ => h) (W2.out.drew) ?_ ?_
  · intro i hi vals W K hB hn hK
    simp only [frm_cons, frm_nil, List.set_cons_succ, List.set_cons_zero, Nat.reduceAdd] at hK ⊢
    rcases (by omega : i = 0 ∨ i = 1 ∨ i = 2 ∨ i = 3 ∨ i = 4 ∨ i = 5 ∨ i = 6 ∨ i = 7 ∨ i = 8 ∨ i = 9) with rfl | rfl | rfl | rfl | rfl | rfl | rfl | rfl | rfl | rfl
    · refine wpOp_plain rfl rfl (wp_val (w' := W) (v := .slice (some ⟨D, 0, none⟩) 16 32) (by go_simp) ?_)
      exact hK _ _ rfl (Below.refl _ _)
    · have h0 := hn 0 (by decide +kernel)
      simp only [ofF] at h0
      simp only [h0] at hK ⊢
      have hu := run_arrayAt16 D W
      refine wpOp_plain rfl rfl (wp_val (w' := W) (v := .pointer (some ⟨D, 0, none⟩)) (by go_simp) ?_)
      exact hK _ _ rfl (Below.refl _ _)
    · have h1 := hn 1 (by decide +kernel)
      simp only [ofF] at h1
      simp only [h1] at hK ⊢
      refine wpOp_plain rfl rfl (wp_val (run_load_part _ (.tmp 7) rfl D 0 rfl (ubs e0) _ (range_at (a := []) (m := e0) (z := h.drop 16) hB.d HEH.out) Tryd.underlying23 rfl (key_length_of HEL.out)) ?_)
      exact hK _ _ rfl (Below.refl _ _)
    · refine wpOp_plain rfl rfl (wp_val (run_load_part _ (.tmp 1) rfl w.heap.size 0 rfl (ubs key) _ (range_at (a := []) (m := key) (z := []) hB.a0 (by simp)) Tryd.underlying23 rfl HZ.out) ?_)
      exact hK _ _ rfl (Below.refl _ _)
    · have h3 := hn 3 (by decide +kernel)
      simp only [ofF] at h3
      simp only [h3] at hK ⊢
      refine wpOp_plain rfl rfl ?_
      go_simp
      go_at_call 38
      refine (HL1.out W hB.below).mono ?_
      rintro e W' ⟨rfl, hb⟩
      exact hK _ _ rfl hb
    · refine wpOp_plain rfl rfl (wp_val (run_load_part _ (.tmp 1) rfl w.heap.size 0 rfl (ubs key) _ (range_at (a := []) (m := key) (z := []) hB.a0 (by simp)) Tryd.underlying23 rfl HZ.out) ?_)
      exact hK _ _ rfl (Below.refl _ _)
    · have h5 := hn 5 (by decide +kernel)
      simp only [ofF] at h5
      simp only [h5] at hK ⊢
      refine wpOp_plain rfl rfl ?_
      go_simp
      go_at_call 38
      refine (HL2.out W hB.below).mono ?_
      rintro e W' ⟨rfl, hb⟩
      exact hK _ _ rfl hb
    · refine wpOp_plain rfl rfl (wp_val (run_load_part _ (.tmp 1) rfl w.heap.size 0 rfl (ubs key) _ (range_at (a := []) (m := key) (z := []) hB.a0 (by simp)) Tryd.underlying23 rfl HZ.out) ?_)
      exact hK _ _ rfl (Below.refl _ _)
    · have h7 := hn 7 (by decide +kernel)
      simp only [ofF] at h7
      simp only [h7] at hK ⊢
      refine wpOp_plain rfl rfl ?_
      go_simp
      go_at_call 38
      refine (HL3.out W hB.below).mono ?_
      rintro e W' ⟨rfl, hb⟩
      exact hK _ _ rfl hb
    · have h2 := hn 2 (by decide +kernel)
      have h4 := hn 4 (by decide +kernel)
      have h6 := hn 6 (by decide +kernel)
      have h8 := hn 8 (by decide +kernel)
      simp only [ofF] at h2 h4 h6 h8
      simp only [h2, h4, h6, h8] at hK ⊢
      refine wpOp_plain rfl rfl (wp_val (run_build_set (.tmp 8) (.tmp 10) (.tmp 12) (.tmp 14) rfl e0 t0 u0 l0 HEL.out HTL.out HUL.out HLL.out rfl rfl rfl rfl) ?_)
      rw [HSE.out]
      exact hK _ _ rfl (Below.refl _ _)
  · intro vals W hB hF
    have h0 := hF 0 (by omega)
    have h1 := hF 1 (by omega)
    have h2 := hF 2 (by omega)
    have h3 := hF 3 (by omega)
    have h4 := hF 4 (by omega)
    have h5 := hF 5 (by omega)
    have h6 := hF 6 (by omega)
    have h7 := hF 7 (by omega)
    have h8 := hF 8 (by omega)
    have h9 := hF 9 (by omega)
    simp only [ofF] at h0 h1 h2 h3 h4 h5 h6 h7 h8 h9
    simp only [frm_cons, frm_nil, List.set_cons_succ, List.set_cons_zero, Nat.reduceAdd, h0, h1, h2, h3, h4, h5, h6, h7, h8, h9]
    refine wpUpto_one (i := 10) rfl (by decide +kernel) rfl ?_
    intro Q0 hQ0
    refine wp_store_row 63 (.tmp 2) (.tmp 15) rfl (w.heap.size + 1) (ubs s0).toArray rfl rfl 63 (ubs n112).toArray hB.a1 (sizeSet_of HSL.out) ?e7 (ubs_all _) ?_
    case e7 => simp [ubs_length, n112_length, HSL.out]
    refine hQ0.out _ _ (fun _ => trivial) ?_
    refine wpUpto_done (by decide +kernel) ?_ _
    have HE := hid hB
    clear hB hF hQ0 Q0
    go_simp
    go_wp2
    refine bodyPost_ret (results_cell_row rfl _ _ (w.heap.size + 1) 63 (ubs s0).toArray (0, 0) _ rfl (setRow_heap _ _ _ _ _ _ HE.out.a1) Tryd.underlying63 rfl (sizeSet_of HSL.out)) rfl ?_
    exact ⟨rfl, below_setRow HE.out.below (by omega) _⟩
end Go.Proofs.YtnaihcoafgigcaaDoor
