/-
  AesKeys, walked.
-/
import Derived.Test.YtmndenikfencpaaFi
import Derived.Test.YtmndenikfencpaaEp
import Derived.BigQuiet
import Derived.Deep.Cut
namespace Go.Proofs.Ytmndenikfencpaa
open Go.RowKit

section
variable {P : Program} {ops : Array Oper} {Q : Exit → Act → World → Prop} {md : Region.Mode} {S : World → Prop} {z : Nat}
/-- One alone can come up, behind a guard that lets it. -/
theorem wpUpto_oneG {i : Nat} {o : Oper} {fuel : Nat} {listed : Array Bool} {a : Act} {w : World} (ho : ops[i]? = some o) (hr : Region.ready md ops listed = [i]) (hg : Region.wanted o (yielded ops a.tmps) = true)
    (h : ∀ K : Act → World → Prop, RowKit.Hid (∀ a' w', (i ≠ z → S w') → wpUpto P md ops Q S z fuel (listed.setIfInBounds i true) a' w' → K a' w') → o.wp P a w K Q) : wpUpto P md ops Q S z (fuel + 1) listed a w := by
  refine ⟨fun h0 => (by rw [hr] at h0; cases h0), fun j hj => ?_⟩
  rw [hr] at hj
  obtain rfl : j = i := by simpa using hj
  unfold wpOp
  rw [ho]
  simp only [hg, if_true]
  exact .inl (h _ (fun _ _ h1 h2 => ⟨h1, h2⟩))
end
theorem stored16_at (w : World) (h : List UInt8) : At ((w.alloc (.cells (ubs n16).toArray 26)).setRow w.heap.size (ubs h).toArray) w.heap.size (ubs h).toArray 26 := setRow_heap _ _ (ubs n16).toArray _ _ _ (At.new _ _ _)
theorem stored16_below (w : World) (h : List UInt8) : Below w.heap.size w ((w.alloc (.cells (ubs n16).toArray 26)).setRow w.heap.size (ubs h).toArray) := below_setRow ((Below.refl _ _).alloc (Nat.le_refl _) _) (Nat.le_refl _) _
/-- An operation behind a guard that lets it, which yields a value. -/
theorem wpList_valW {P : Program} {ops : Array Oper} {rest : List Oper} {o : Oper} {a : Go.Act} {w w' : World} {Q : Exit → Go.Act → World → Prop} {v : Value} (hw : Region.wanted o (yielded ops a.tmps) = true) (hrun : (execOp a.eval o).run P w = .ok (.value v) w')
    (h : wpList P ops Q rest (a.put o.dst v) w') : wpList P ops Q (o :: rest) a w :=
  BigFrame.wpList_want hw fun K hK => by
    unfold Oper.wp
    rw [hrun]
    exact hK _ _ h
theorem run_load_16 {o : Oper} {a : Go.Act} {W : World} (x : Operand) (ho : o.op = .load 26 x) (g : Nat) (hx : a.eval x = .pointer (some ⟨g, 0, none⟩)) (l : List UInt8) (hl : l.length = 16) (h : At W g (ubs l).toArray 26) : (execOp a.eval o).run Try.prog W = .ok (.value (.agg (ubs l).toArray)) W :=
  run_load_part _ x ho g 0 hx (ubs l) _ (range_at (a := []) (m := l) (z := []) h (by simp)) Try.underlying26 rfl (by rw [size16, ubs_length, hl])
/-- What holds while the law goes on. -/
structure KeW (w : World) (key x y : List UInt8) (D E : Nat) (W : World) : Prop where
  arg : At W w.heap.size (ubs key).toArray 27
  k : At W D (ubs x).toArray 26
  n : At W E (ubs y).toArray 26
  below : Below w.heap.size w W
theorem KeW.new {w W W' : World} {key x y : List UInt8} {D E : Nat} (h : KeW w key x y D E W) (hb : Below W.heap.size W W') : KeW w key x y D E W' := ⟨h.arg.new_ hb, h.k.new_ hb, h.n.new_ hb, h.below.trans (hb.mono h.below.size)⟩
theorem KeW.drew {w W : World} {key x y : List UInt8} {D E : Nat} (h : KeW w key x y D E W) : KeW w key x y D E W.drew := ⟨h.arg, h.k, h.n, below_drewN h.below 1⟩
set_option maxRecDepth 100000 in
set_option maxHeartbeats 4000000 in
theorem keys_law_out (key : List UInt8) (i : Int) (w : World) (hk : key.length = 16) (hi : i < 0 ∨ 10 < i) :
    Calls Try.prog 4 #[.agg (ubs key).toArray, .int .i64 i] w fun e w' => e = .returned (.bool true) ∧ Below w.heap.size w w' := by
  have HA := hid (fun W => alive_any W)
  have HN := hid (fun W => new_any key W hk)
  have HR := hid (fun W p => roundKey_out p i W hi)
  have HI := hid is_any
  have HZ := hid (size16_of n16_length)
  have HZK := hid (sizeKey_of hk)
  have hz := noughts16
  have HAT := hid (At.new w (ubs key).toArray 27)
  have HB0 := hid ((Below.refl w.heap.size w).alloc (Nat.le_refl _) (.cells (ubs key).toArray 27))
  by_cases h0 : i < 0
  · have c0 : decide (i < 0) = true := by simp; omega
    clear hi hk
    go_enter Try.func4, Try.ntmps4
    go_wp2_with (first
      | (go_at_call 7; refine (HA.out _).mono ?_; rintro e w1 ⟨rfl, hw⟩; rw [hw]; clear hw)
      | (refine wpList_load_row rfl _ (.tmp 2) rfl w.heap.size rfl 27 (ubs key).toArray (0, 0) _ HAT.out Try.underlying27 rfl HZK.out ?_)
      | (go_at_call 14; refine (HN.out _).mono ?_; rintro e w1 ⟨C, rfl, -, -, hb1⟩; have B1 := hid (HB0.out.trans (hb1.mono HB0.out.size)); clear hb1)
      | (go_at_call 15; refine (HR.out w1 _).mono ?_; rintro e w2 ⟨rfl, hb2⟩; have B2 := hid (B1.out.trans (hb2.mono B1.out.size)); clear hb2)
      | (refine wpList_store_row rfl _ (.tmp 5) (.tmp 17) rfl w2.heap.size (ubs n16).toArray rfl rfl 26 (ubs n16).toArray (heap_alloc_new _ _) HZ.out rfl (ubs_all _) ?_; have A3 := hid (stored16_at w2 n16); have B3 := hid (B2.out.trans ((stored16_below w2 n16).mono B2.out.size)); generalize ((w2.alloc (.cells (ubs n16).toArray 26)).setRow w2.heap.size (ubs n16).toArray) = w3 at A3 B3 ⊢)
      | (go_at_call 15; refine (HR.out w3 _).mono ?_; rintro e w4 ⟨rfl, hb4⟩; have B4 := hid (B3.out.trans (hb4.mono B3.out.size)); have A4 := hid (A3.out.new_ hb4); clear hb4)
      | (refine wpList_store_row rfl _ (.tmp 8) (.tmp 23) rfl w4.heap.size (ubs n16).toArray rfl rfl 26 (ubs n16).toArray (heap_alloc_new _ _) HZ.out rfl (ubs_all _) ?_; have A5 := hid (A4.out.new_ (stored16_below w4 n16)); have E5 := hid (stored16_at w4 n16); have B5 := hid (B4.out.trans ((stored16_below w4 n16).mono B4.out.size)); generalize ((w4.alloc (.cells (ubs n16).toArray 26)).setRow w4.heap.size (ubs n16).toArray) = w5 at A5 B5 E5 ⊢)
      | (refine wpList_valW (by rfl) (run_load_16 (.tmp 5) rfl w2.heap.size rfl n16 n16_length A5.out) ?_)
      | (refine wpList_valW (by rfl) (run_load_16 (.tmp 8) rfl w4.heap.size rfl n16 n16_length E5.out) ?_)
      | (refine wpList_valW (by rfl) (run_eql_blocks _ (.tmp 38) (.tmp 39) rfl n16 n16_length rfl rfl _) ?_)
      | (refine wpList_valW (by rfl) (run_eql_blocks _ (.tmp 43) (.tmp 44) rfl n16 n16_length rfl rfl _) ?_)
      | (go_at_call 16; refine (HI.out _).mono ?_; rintro e w6 ⟨rfl, hw⟩; rw [hw]; clear hw))
    go_ret
    exact ⟨rfl, B5.out⟩
  · have c0 : decide (i < 0) = false := by simpa using h0
    have c1 : decide (10 < i) = true := by simp; omega
    clear hi hk
    go_enter Try.func4, Try.ntmps4
    go_wp2_with (first
      | (go_at_call 7; refine (HA.out _).mono ?_; rintro e w1 ⟨rfl, hw⟩; rw [hw]; clear hw)
      | (refine wpList_load_row rfl _ (.tmp 2) rfl w.heap.size rfl 27 (ubs key).toArray (0, 0) _ HAT.out Try.underlying27 rfl HZK.out ?_)
      | (go_at_call 14; refine (HN.out _).mono ?_; rintro e w1 ⟨C, rfl, -, -, hb1⟩; have B1 := hid (HB0.out.trans (hb1.mono HB0.out.size)); clear hb1)
      | (go_at_call 15; refine (HR.out w1 _).mono ?_; rintro e w2 ⟨rfl, hb2⟩; have B2 := hid (B1.out.trans (hb2.mono B1.out.size)); clear hb2)
      | (refine wpList_store_row rfl _ (.tmp 5) (.tmp 17) rfl w2.heap.size (ubs n16).toArray rfl rfl 26 (ubs n16).toArray (heap_alloc_new _ _) HZ.out rfl (ubs_all _) ?_; have A3 := hid (stored16_at w2 n16); have B3 := hid (B2.out.trans ((stored16_below w2 n16).mono B2.out.size)); generalize ((w2.alloc (.cells (ubs n16).toArray 26)).setRow w2.heap.size (ubs n16).toArray) = w3 at A3 B3 ⊢)
      | (go_at_call 15; refine (HR.out w3 _).mono ?_; rintro e w4 ⟨rfl, hb4⟩; have B4 := hid (B3.out.trans (hb4.mono B3.out.size)); have A4 := hid (A3.out.new_ hb4); clear hb4)
      | (refine wpList_store_row rfl _ (.tmp 8) (.tmp 23) rfl w4.heap.size (ubs n16).toArray rfl rfl 26 (ubs n16).toArray (heap_alloc_new _ _) HZ.out rfl (ubs_all _) ?_; have A5 := hid (A4.out.new_ (stored16_below w4 n16)); have E5 := hid (stored16_at w4 n16); have B5 := hid (B4.out.trans ((stored16_below w4 n16).mono B4.out.size)); generalize ((w4.alloc (.cells (ubs n16).toArray 26)).setRow w4.heap.size (ubs n16).toArray) = w5 at A5 B5 E5 ⊢)
      | (refine wpList_valW (by rfl) (run_load_16 (.tmp 5) rfl w2.heap.size rfl n16 n16_length A5.out) ?_)
      | (refine wpList_valW (by rfl) (run_load_16 (.tmp 8) rfl w4.heap.size rfl n16 n16_length E5.out) ?_)
      | (refine wpList_valW (by rfl) (run_eql_blocks _ (.tmp 38) (.tmp 39) rfl n16 n16_length rfl rfl _) ?_)
      | (refine wpList_valW (by rfl) (run_eql_blocks _ (.tmp 43) (.tmp 44) rfl n16 n16_length rfl rfl _) ?_)
      | (go_at_call 16; refine (HI.out _).mono ?_; rintro e w6 ⟨rfl, hw⟩; rw [hw]; clear hw))
    go_ret
    exact ⟨rfl, B5.out⟩
/-- The document's round keys as a row. -/
theorem keysR_row (key : List UInt8) (w : World) (hk : key.length = 16) :
    Calls Try.prog 18 #[.agg (ubs key).toArray] w fun e w' => ∃ g cap, e = .returned (.slice (some ⟨g, 0, none⟩) 176 cap) ∧ 176 ≤ cap ∧ Rb w' w'.heap.size (some ⟨g, 0, none⟩) (rks key 11) ∧ Below w.heap.size w w' := by
  refine (keysR_any key w hk).mono ?_
  rintro e w' ⟨v, rfl, ho, _, hb⟩
  rw [keys_rks key hk] at ho
  obtain ⟨A, c, rfl, h1, _, h3, _, h5⟩ := own_form ho
  rcases A with _ | ad
  · have := (h3 rfl).1
    omega
  · obtain ⟨e1, e2, _, _⟩ := h5 ad rfl
    obtain ⟨b, off, spot⟩ := ad
    simp only at e1 e2
    subst e1 e2
    exact ⟨b, c, rfl, h1, Rd.of_own ho, hb⟩
theorem rb_part {W : World} {B g : Nat} {key : List UInt8} (hk : key.length = 16) (h : Rb W B (some ⟨g, 0, none⟩) (rks key 11)) (n : Nat) (hn : n ≤ 10) : Rb W B (some ⟨g, 16 * n, none⟩) (rk key n) := by
  obtain ⟨z, hz⟩ := rks_part key 11 n (by omega)
  have hl := rks_length key hk n
  have hr := rk_length key hk n
  intro hne
  obtain ⟨b, o, e, hb, hc⟩ := h (by rw [hz]; intro e; have := congrArg List.length e; simp [ubs_length, hr] at this)
  cases e
  refine ⟨g, 16 * n, rfl, hb, fun j u hu => ?_⟩
  have := hc (16 * n + j) u (by
    rw [hz, ubs_append, ubs_append, List.getElem?_append_right (by rw [ubs_length]; omega), ubs_length, hl, Nat.add_sub_cancel_left, List.getElem?_append_left (by
      have := (List.getElem?_eq_some_iff.1 hu).1
      exact this)]
    exact hu)
  rwa [Nat.zero_add] at this
theorem rb_at16 {W : World} {g : Nat} {l : List UInt8} {t : TypeId} (h : At W g (ubs l).toArray t) : Rb W W.heap.size (some ⟨g, 0, none⟩) l :=
  Rd.of_at h 0 (fun j u hj => by rw [Nat.zero_add, List.getElem?_toArray]; exact hj) h.lt
theorem elemB : Try.prog.elem 37 = 5 := by kernel_rfl
theorem run_slice_part (g cap o o2 : Nat) (h2 : o2 = o + 16) (hc : o2 ≤ cap ∧ o < cap) (W : World) : (Instr.slice 37 (.slice (some ⟨g, 0, none⟩) 176 cap) (some (.int .i64 (o : Int))) (some (.int .i64 (o2 : Int))) none).run Try.prog W = .ok (.slice (some ⟨g, o, none⟩) 16 (cap - o)) W := by
  have h := run_slice_lh (P := Try.prog) (w := W) (t := 37) (a := some ⟨g, 0, none⟩) (len := 176) (cap := cap) (by kernel_rfl) .i64 .i64 (o : Int) (o2 : Int) (by omega) (by omega) (by omega)
  rw [h, elemB, run_size8]
  simp only [Result.andThen_ok, Int.toNat_natCast, sliced]
  rw [if_neg (by omega), show o2 - o = 16 by omega]
  simp only [Option.map_some, Addr.add_mid]
  rw [show 0 + o * 1 = o by omega]
set_option maxRecDepth 100000 in
set_option maxHeartbeats 4000000 in
theorem keys_law_in (key : List UInt8) (i : Nat) (w : World) (hk : key.length = 16) (hi : i ≤ 10) :
    Calls Try.prog 4 #[.agg (ubs key).toArray, .int .i64 (i : Int)] w fun e w' => e = .returned (.bool true) ∧ Below w.heap.size w w' := by
  have HAL := hid (fun W => alive_any W)
  have HN := hid (fun W => new_any key W hk)
  have HR := hid (fun W k p h1 h2 => roundKey_in k p i W hi h1 h2)
  have HKR := hid (fun W => keysR_row key W hk)
  have HKZ := hid (fun W => keysR_row n16 W n16_length)
  have HZK := hid (sizeKey_of hk)
  have HKL := hid hk
  have hz := noughts16
  have HAT := hid (At.new w (ubs key).toArray 27)
  have HB0 := hid ((Below.refl w.heap.size w).alloc (Nat.le_refl _) (.cells (ubs key).toArray 27))
  have HRL := hid (rk_length key hk i)
  have HRN := hid (rk_length n16 n16_length i)
  have c0 : decide ((i : Int) < 0) = false := by simp
  have c1 : decide (10 < (i : Int)) = false := by simp; omega
  have HI10 := hi
  obtain ⟨o, ho⟩ : ∃ o, o = 16 * i := ⟨_, rfl⟩
  obtain ⟨o2, ho2⟩ : ∃ o2, o2 = o + 16 := ⟨_, rfl⟩
  have hO := hid ho
  have hO2 := hid ho2
  have l1 : o2 ≤ 176 := by omega
  have l2 : o < 176 := by omega
  have e1 : 16 * (i : Int) = (o : Int) := by omega
  have e2 : (o : Int) + 16 = (o2 : Int) := by omega
  have e3 : IntKind.i64.wrap (o : Int) = (o : Int) := by rw [IntKind.wrap_i64] <;> omega
  have e4 : IntKind.i64.wrap (o2 : Int) = (o2 : Int) := by rw [IntKind.wrap_i64] <;> omega
  clear hk hi ho ho2
  go_enter Try.func4, Try.ntmps4
  go_upto_region 8 with (first
    | (go_at_call 7; refine (HAL.out _).mono ?_; rintro e w1 ⟨rfl, hw⟩; rw [hw]; clear hw)
    | (refine wpList_load_row rfl _ (.tmp 2) rfl w.heap.size rfl 27 (ubs key).toArray (0, 0) _ HAT.out Try.underlying27 rfl HZK.out ?_)
    | (go_at_call 14; refine (HN.out _).mono ?_; rintro e w1 ⟨C, rfl, -, hC, hb1⟩; have B1 := hid (HB0.out.trans (hb1.mono HB0.out.size)); have A1 := hid (HAT.out.new_ hb1); have C1 := hid hC; clear hb1 hC)
    | (go_at_call 15; (have cq := HR.out w1 key (some ⟨C, 0, none⟩) HKL.out (.inr ⟨C, rfl, C1.out⟩)); ((with_reducible refine cq.mono ?_); clear cq); rintro e w2 ⟨rfl, hb2⟩; have B2 := hid (B1.out.trans (hb2.mono B1.out.size)); have A2 := hid (A1.out.new_ hb2); clear hb2)
    | (refine wpList_store_row rfl _ (.tmp 5) (.tmp 17) rfl w2.heap.size (ubs (rk key i)).toArray rfl rfl 26 (ubs n16).toArray (heap_alloc_new _ _) (size16_of HRL.out) ?e1 (ubs_all _) ?e2; rotate_right; have K3 := hid (stored16_at w2 (rk key i)); have B3 := hid (B2.out.trans ((stored16_below w2 (rk key i)).mono B2.out.size)); have A3 := hid (A2.out.new_ (stored16_below w2 (rk key i))); generalize ((w2.alloc (.cells (ubs n16).toArray 26)).setRow w2.heap.size (ubs (rk key i)).toArray) = w3 at A3 B3 K3 ⊢)
    | (go_at_call 15; (have cq := HR.out w3 n16 none n16_length (.inl ⟨rfl, rfl⟩)); ((with_reducible refine cq.mono ?_); clear cq); rintro e w4 ⟨rfl, hb4⟩; have B4 := hid (B3.out.trans (hb4.mono B3.out.size)); have A4 := hid (A3.out.new_ hb4); have K4 := hid (K3.out.new_ hb4); clear hb4)
    | (refine wpList_store_row rfl _ (.tmp 8) (.tmp 23) rfl w4.heap.size (ubs (rk n16 i)).toArray rfl rfl 26 (ubs n16).toArray (heap_alloc_new _ _) (size16_of HRN.out) ?e3 (ubs_all _) ?e4; rotate_right; have E5 := hid (show KeW w key (rk key i) (rk n16 i) w2.heap.size w4.heap.size ((w4.alloc (.cells (ubs n16).toArray 26)).setRow w4.heap.size (ubs (rk n16 i)).toArray) from ⟨A4.out.new_ (stored16_below w4 _), K4.out.new_ (stored16_below w4 _), stored16_at w4 _, B4.out.trans ((stored16_below w4 _).mono B4.out.size)⟩); generalize ((w4.alloc (.cells (ubs n16).toArray 26)).setRow w4.heap.size (ubs (rk n16 i)).toArray) = w5 at E5 ⊢))
  case e1 => simp [ubs_length, n16_length, HRL.out]
  case e3 => simp [ubs_length, n16_length, HRN.out]
  have HA := hid (show KeW w key (rk key i) (rk n16 i) w2.heap.size w4.heap.size w5.drew from E5.out.drew)
  clear E5 A1 A2 A3 A4 B1 B2 B3 B4 K3 K4 C1
  generalize w2.heap.size = D at HA ⊢
  generalize w4.heap.size = E at HA ⊢
  refine wp_region_upto (KeW w key (rk key i) (rk n16 i) D E) 30 31 (by kernel_rfl) (by kernel_rfl) ?_
  generalize w5.drew = V0 at HA ⊢
  refine wpUpto_takeL (i := 0) (v := .nilIface) rfl rfl (by kernel_rfl) (by kernel_rfl) (by kernel_rfl) (by kernel_rfl) (by decide) (fun _ _ _ h => h) (Or.inl ⟨by rfl, ?_⟩) HA.out ?_
  · (intro W hSW; go_simp)
  simp only [List.set_cons_succ, List.set_cons_zero]
  refine wpUpto_takeL (i := 1) (v := .bool true) rfl rfl (by kernel_rfl) (by kernel_rfl) (by kernel_rfl) (by kernel_rfl) (by decide) (fun _ _ _ h => h) (Or.inl ⟨by rfl, ?_⟩) HA.out ?_
  · (intro W hSW; go_simp)
  simp only [List.set_cons_succ, List.set_cons_zero]
  refine wpUpto_takeL (i := 2) (v := .bool true) rfl rfl (by kernel_rfl) (by kernel_rfl) (by kernel_rfl) (by kernel_rfl) (by decide) (fun _ _ _ h => h) (Or.inl ⟨by rfl, ?_⟩) HA.out ?_
  · (intro W hSW; go_simp)
  simp only [List.set_cons_succ, List.set_cons_zero]
  refine wpUpto_takeL (i := 3) (v := .nilIface) rfl rfl (by kernel_rfl) (by kernel_rfl) (by kernel_rfl) (by kernel_rfl) (by decide) (fun _ _ _ h => h) (Or.inl ⟨by rfl, ?_⟩) HA.out ?_
  · (intro W hSW; go_simp)
  simp only [List.set_cons_succ, List.set_cons_zero]
  refine wpUpto_takeL (i := 4) (v := .bool true) rfl rfl (by kernel_rfl) (by kernel_rfl) (by kernel_rfl) (by kernel_rfl) (by decide) (fun _ _ _ h => h) (Or.inl ⟨by rfl, ?_⟩) HA.out ?_
  · (intro W hSW; go_simp)
  simp only [List.set_cons_succ, List.set_cons_zero]
  refine wpUpto_takeL (i := 5) (v := .bool true) rfl rfl (by kernel_rfl) (by kernel_rfl) (by kernel_rfl) (by kernel_rfl) (by decide) (fun _ _ _ h => h) (Or.inl ⟨by rfl, ?_⟩) HA.out ?_
  · (intro W hSW; go_simp)
  simp only [List.set_cons_succ, List.set_cons_zero]
  refine wpUpto_takeL (i := 6) (v := .bool true) rfl rfl (by kernel_rfl) (by kernel_rfl) (by kernel_rfl) (by kernel_rfl) (by decide) (fun _ _ _ h => h) (Or.inl ⟨by rfl, ?_⟩) HA.out ?_
  · (intro W hSW; go_simp)
  simp only [List.set_cons_succ, List.set_cons_zero]
  refine wpUpto_takeL (i := 7) (v := .slice (some ⟨D, 0, none⟩) 16 16) rfl rfl (by kernel_rfl) (by kernel_rfl) (by kernel_rfl) (by kernel_rfl) (by decide) (fun _ _ _ h => h) (Or.inl ⟨by rfl, ?_⟩) HA.out ?_
  · (intro W hSW; go_simp)
  simp only [List.set_cons_succ, List.set_cons_zero]
  refine wpUpto_takeL (i := 8) (v := .agg (ubs key).toArray) rfl rfl (by kernel_rfl) (by kernel_rfl) (by kernel_rfl) (by kernel_rfl) (by decide) (fun _ _ _ h => h) (Or.inl ⟨by rfl, ?_⟩) HA.out ?_
  · (intro W hSW; exact run_load_part 27 (.tmp 2) rfl w.heap.size 0 rfl (ubs key) _ (range_at (a := []) (m := key) (z := []) hSW.arg (by simp)) Try.underlying27 rfl (by rw [sizeKey, ubs_length, HKL.out]))
  simp only [List.set_cons_succ, List.set_cons_zero]
  refine wpUpto_takeL (i := 10) (v := .int .i64 (i : Int)) rfl rfl (by kernel_rfl) (by kernel_rfl) (by kernel_rfl) (by kernel_rfl) (by decide) (fun _ _ _ h => h) (Or.inl ⟨by rfl, ?_⟩) HA.out ?_
  · (intro W hSW; go_simp)
  simp only [List.set_cons_succ, List.set_cons_zero]
  refine wpUpto_takeL (i := 11) (v := .int .i64 (o : Int)) rfl rfl (by kernel_rfl) (by kernel_rfl) (by kernel_rfl) (by kernel_rfl) (by decide) (fun _ _ _ h => h) (Or.inl ⟨by rfl, ?_⟩) HA.out ?_
  · (intro W hSW; go_simp)
  simp only [List.set_cons_succ, List.set_cons_zero]
  refine wpUpto_takeL (i := 12) (v := .int .i64 (i : Int)) rfl rfl (by kernel_rfl) (by kernel_rfl) (by kernel_rfl) (by kernel_rfl) (by decide) (fun _ _ _ h => h) (Or.inl ⟨by rfl, ?_⟩) HA.out ?_
  · (intro W hSW; go_simp)
  simp only [List.set_cons_succ, List.set_cons_zero]
  refine wpUpto_takeL (i := 13) (v := .int .i64 (o : Int)) rfl rfl (by kernel_rfl) (by kernel_rfl) (by kernel_rfl) (by kernel_rfl) (by decide) (fun _ _ _ h => h) (Or.inl ⟨by rfl, ?_⟩) HA.out ?_
  · (intro W hSW; go_simp)
  simp only [List.set_cons_succ, List.set_cons_zero]
  refine wpUpto_takeL (i := 14) (v := .int .i64 (o2 : Int)) rfl rfl (by kernel_rfl) (by kernel_rfl) (by kernel_rfl) (by kernel_rfl) (by decide) (fun _ _ _ h => h) (Or.inl ⟨by rfl, ?_⟩) HA.out ?_
  · (intro W hSW; go_simp)
  simp only [List.set_cons_succ, List.set_cons_zero]
  refine wpUpto_oneG (i := 9) rfl (by kernel_rfl) (by rfl) ?_
  intro Q0 hQ0
  go_simp
  go_at_call 18
  refine (HKR.out V0).mono ?_
  rintro e w7 ⟨g, cap, rfl, hcap, hrb, hb7⟩
  have H7 := hid (HA.out.new hb7)
  have R7 := hid (rb_part HKL.out hrb i HI10)
  have hcapI : (176 : Int) ≤ (cap : Int) := by omega
  clear hb7 hrb
  refine hQ0.out _ _ (fun _ => H7.out) ?_
  clear hQ0 Q0
  refine wpUpto_takeL (i := 15) (v := .slice (some ⟨g, o, none⟩) 16 (cap - o)) rfl rfl (by kernel_rfl) (by kernel_rfl) (by kernel_rfl) (by kernel_rfl) (by decide) (fun _ _ _ h => h) (Or.inl ⟨by rfl, ?_⟩) H7.out ?_
  · (intro W hSW; have k15 := run_slice_part g cap o o2 hO2.out (by omega) W; go_simp)
  simp only [List.set_cons_succ, List.set_cons_zero]
  refine wpUpto_oneG (i := 16) rfl (by kernel_rfl) (by rfl) ?_
  intro Q0 hQ0
  go_simp
  go_at_call 17
  have cq := bytes_any (rk key i) (rk key i) (some ⟨D, 0, none⟩) (some ⟨g, o, none⟩) 16 (cap - o) w7 (rb_at16 H7.out.k) (by rw [hO.out]; exact R7.out)
  rw [HRL.out, beq_self_eq_true] at cq
  refine cq.mono ?_
  clear cq
  rintro e w8 ⟨rfl, rfl⟩
  refine hQ0.out _ _ (fun _ => H7.out) ?_
  clear hQ0 Q0
  refine wpUpto_takeL (i := 17) (v := .bool true) rfl rfl (by kernel_rfl) (by kernel_rfl) (by kernel_rfl) (by kernel_rfl) (by decide) (fun _ _ _ h => h) (Or.inl ⟨by rfl, ?_⟩) H7.out ?_
  · (intro W hSW; go_simp)
  simp only [List.set_cons_succ, List.set_cons_zero]
  refine wpUpto_takeL (i := 18) (v := .bool true) rfl rfl (by kernel_rfl) (by kernel_rfl) (by kernel_rfl) (by kernel_rfl) (by decide) (fun _ _ _ h => h) (Or.inl ⟨by rfl, ?_⟩) H7.out ?_
  · (intro W hSW; go_simp)
  simp only [List.set_cons_succ, List.set_cons_zero]
  refine wpUpto_takeL (i := 19) (v := .slice (some ⟨E, 0, none⟩) 16 16) rfl rfl (by kernel_rfl) (by kernel_rfl) (by kernel_rfl) (by kernel_rfl) (by decide) (fun _ _ _ h => h) (Or.inl ⟨by rfl, ?_⟩) H7.out ?_
  · (intro W hSW; go_simp)
  simp only [List.set_cons_succ, List.set_cons_zero]
  refine wpUpto_takeL (i := 20) (v := .agg (ubs n16).toArray) rfl rfl (by kernel_rfl) (by kernel_rfl) (by kernel_rfl) (by kernel_rfl) (by decide) (fun _ _ _ h => h) (Or.inl ⟨by rfl, ?_⟩) H7.out ?_
  · (intro W hSW; go_simp)
  simp only [List.set_cons_succ, List.set_cons_zero]
  refine wpUpto_takeL (i := 22) (v := .int .i64 (i : Int)) rfl rfl (by kernel_rfl) (by kernel_rfl) (by kernel_rfl) (by kernel_rfl) (by decide) (fun _ _ _ h => h) (Or.inl ⟨by rfl, ?_⟩) H7.out ?_
  · (intro W hSW; go_simp)
  simp only [List.set_cons_succ, List.set_cons_zero]
  refine wpUpto_takeL (i := 23) (v := .int .i64 (o : Int)) rfl rfl (by kernel_rfl) (by kernel_rfl) (by kernel_rfl) (by kernel_rfl) (by decide) (fun _ _ _ h => h) (Or.inl ⟨by rfl, ?_⟩) H7.out ?_
  · (intro W hSW; go_simp)
  simp only [List.set_cons_succ, List.set_cons_zero]
  refine wpUpto_takeL (i := 24) (v := .int .i64 (i : Int)) rfl rfl (by kernel_rfl) (by kernel_rfl) (by kernel_rfl) (by kernel_rfl) (by decide) (fun _ _ _ h => h) (Or.inl ⟨by rfl, ?_⟩) H7.out ?_
  · (intro W hSW; go_simp)
  simp only [List.set_cons_succ, List.set_cons_zero]
  refine wpUpto_takeL (i := 25) (v := .int .i64 (o : Int)) rfl rfl (by kernel_rfl) (by kernel_rfl) (by kernel_rfl) (by kernel_rfl) (by decide) (fun _ _ _ h => h) (Or.inl ⟨by rfl, ?_⟩) H7.out ?_
  · (intro W hSW; go_simp)
  simp only [List.set_cons_succ, List.set_cons_zero]
  refine wpUpto_takeL (i := 26) (v := .int .i64 (o2 : Int)) rfl rfl (by kernel_rfl) (by kernel_rfl) (by kernel_rfl) (by kernel_rfl) (by decide) (fun _ _ _ h => h) (Or.inl ⟨by rfl, ?_⟩) H7.out ?_
  · (intro W hSW; go_simp)
  simp only [List.set_cons_succ, List.set_cons_zero]
  refine wpUpto_oneG (i := 21) rfl (by kernel_rfl) (by rfl) ?_
  intro Q0 hQ0
  go_simp
  go_at_call 18
  refine (HKZ.out w7).mono ?_
  rintro e w9 ⟨g2, cap2, rfl, hcap2, hrb, hb9⟩
  have H9 := hid (H7.out.new hb9)
  have R9 := hid (rb_part n16_length hrb i HI10)
  have hcapI2 : (176 : Int) ≤ (cap2 : Int) := by omega
  clear hb9 hrb
  refine hQ0.out _ _ (fun _ => H9.out) ?_
  clear hQ0 Q0
  refine wpUpto_takeL (i := 27) (v := .slice (some ⟨g2, o, none⟩) 16 (cap2 - o)) rfl rfl (by kernel_rfl) (by kernel_rfl) (by kernel_rfl) (by kernel_rfl) (by decide) (fun _ _ _ h => h) (Or.inl ⟨by rfl, ?_⟩) H9.out ?_
  · (intro W hSW; have k15 := run_slice_part g2 cap2 o o2 hO2.out (by omega) W; go_simp)
  simp only [List.set_cons_succ, List.set_cons_zero]
  refine wpUpto_oneG (i := 28) rfl (by kernel_rfl) (by rfl) ?_
  intro Q0 hQ0
  go_simp
  go_at_call 17
  have cq := bytes_any (rk n16 i) (rk n16 i) (some ⟨E, 0, none⟩) (some ⟨g2, o, none⟩) 16 (cap2 - o) w9 (rb_at16 H9.out.n) (by rw [hO.out]; exact R9.out)
  rw [HRN.out, beq_self_eq_true] at cq
  refine cq.mono ?_
  clear cq
  rintro e w10 ⟨rfl, rfl⟩
  refine hQ0.out _ _ (fun _ => H9.out) ?_
  clear hQ0 Q0
  refine wpUpto_takeL (i := 29) (v := .bool true) rfl rfl (by kernel_rfl) (by kernel_rfl) (by kernel_rfl) (by kernel_rfl) (by decide) (fun _ _ _ h => h) (Or.inl ⟨by rfl, ?_⟩) H9.out ?_
  · (intro W hSW; go_simp)
  simp only [List.set_cons_succ, List.set_cons_zero]
  refine wpUpto_one (i := 30) rfl (by kernel_rfl) rfl ?_
  intro Q0 hQ0
  go_simp
  refine hQ0.out _ _ (fun h => absurd rfl h) ?_
  clear hQ0 Q0
  refine wpUpto_done (by kernel_rfl) ?_ _
  go_simp
  go_wp2
  go_ret
  exact ⟨rfl, H9.out.below⟩
theorem keys_law (key : List UInt8) (i : Int) (w : World) (hk : key.length = 16) :
    Calls Try.prog 4 #[.agg (ubs key).toArray, .int .i64 i] w fun e w' => e = .returned (.bool true) ∧ Below w.heap.size w w' := by
  by_cases h : i < 0 ∨ 10 < i
  · exact keys_law_out key i w hk h
  · obtain ⟨n, rfl⟩ : ∃ n : Nat, i = (n : Int) := ⟨i.toNat, by omega⟩
    exact keys_law_in key n w hk (by omega)
end Go.Proofs.Ytmndenikfencpaa
