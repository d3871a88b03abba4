/-
  What the program's steps come to in the document's words. Nothing here speaks of the program's code.
  A cipher or none; Encrypt.
-/
import Derived.Test.YtnaihcoafgigcaaDoorFe
import Derived.Test.YtnaihcoafgigcaaDoorZ1
import Derived.Deep.Cut
namespace Go.Proofs.YtnaihcoafgigcaaDoor
open Go.RowKit

theorem sh_tur (x : List UInt8) : turL 1 (repL STab x) = shL x := by
  refine mk16_congr fun i hi => ?_
  unfold turF repL
  rw [mk16_get _ _ (by omega)]
  unfold repF shF
  rw [show (i + 4 * (i % 4) * 1) % 16 = 4 * ((i / 4 + i % 4) % 4) + i % 4 by omega]
  rfl
theorem ish_tur (x : List UInt8) : repL RTab (turL 3 x) = ishL x := by
  refine mk16_congr fun i hi => ?_
  unfold repF turL
  rw [mk16_get _ _ hi]
  unfold turF ishF
  rw [show (i + 4 * (i % 4) * 3) % 16 = 4 * ((i / 4 + 4 - i % 4) % 4) + i % 4 by omega]
  rfl
theorem rks_get (key : List UInt8) (h : key.length = 16) (n i : Nat) (hn : n ≤ 10) (hi : i < 16) : (rks key 11).getD (16 * n + i) 0 = (rk key n).getD i 0 := by
  obtain ⟨z, hz⟩ := rks_part key 11 n (by omega)
  have hl := rks_length key h n
  have hr := rk_length key h n
  rw [hz, List.getD_eq_getElem?_getD, List.getD_eq_getElem?_getD, List.getElem?_append_right (by omega), hl, Nat.add_sub_cancel_left, List.getElem?_append_left (by omega)]
theorem add_xor (key x : List UInt8) (h : key.length = 16) (n : Nat) (hn : n ≤ 10) : addL x (rks key 11) n = xorL x (rk key n) := by
  refine mk16_congr fun i hi => ?_
  unfold addF xorF
  rw [rks_get key h n i hn hi, xr_eq]
/-- Columns mixed twice. -/
def m2F (s : List UInt8) (i : Nat) : UInt8 :=
  (if i % 4 = 0 then mixP 5 0 4 0 else if i % 4 = 1 then mixP 0 5 0 4 else if i % 4 = 2 then mixP 4 0 5 0 else mixP 0 4 0 5) (s.getD (4 * (i / 4)) 0) (s.getD (4 * (i / 4) + 1) 0) (s.getD (4 * (i / 4) + 2) 0) (s.getD (4 * (i / 4) + 3) 0)
def m2L (s : List UInt8) : List UInt8 := mk16 (m2F s)
theorem m2F_at (s : List UInt8) (c : Nat) : m2F s (4 * c) = mixP 5 0 4 0 (s.getD (4 * c) 0) (s.getD (4 * c + 1) 0) (s.getD (4 * c + 2) 0) (s.getD (4 * c + 3) 0)
    ∧ m2F s (4 * c + 1) = mixP 0 5 0 4 (s.getD (4 * c) 0) (s.getD (4 * c + 1) 0) (s.getD (4 * c + 2) 0) (s.getD (4 * c + 3) 0)
    ∧ m2F s (4 * c + 2) = mixP 4 0 5 0 (s.getD (4 * c) 0) (s.getD (4 * c + 1) 0) (s.getD (4 * c + 2) 0) (s.getD (4 * c + 3) 0)
    ∧ m2F s (4 * c + 3) = mixP 0 4 0 5 (s.getD (4 * c) 0) (s.getD (4 * c + 1) 0) (s.getD (4 * c + 2) 0) (s.getD (4 * c + 3) 0) := by
  unfold m2F
  rw [show 4 * c % 4 = 0 by omega, show (4 * c + 1) % 4 = 1 by omega, show (4 * c + 2) % 4 = 2 by omega, show (4 * c + 3) % 4 = 3 by omega, show 4 * c / 4 = c by omega, show (4 * c + 1) / 4 = c by omega, show (4 * c + 2) / 4 = c by omega, show (4 * c + 3) / 4 = c by omega]
  exact ⟨rfl, rfl, rfl, rfl⟩
theorem mixP_cong {a b c d a' b' c' d' : UInt8} (h : (a, b, c, d) = (a', b', c', d')) (p q u v : UInt8) : mixP a b c d p q u v = mixP a' b' c' d' p q u v := by
  cases h; rfl
theorem mix_mix (s : List UInt8) : mixL (mixL s) = m2L s := by
  refine mk16_cols (mk16_length _) fun c hc => ?_
  obtain ⟨h0, h1, h2, h3⟩ := mixF_at (mixL s) c
  obtain ⟨m0, m1, m2, m3⟩ := mixF_at s c
  obtain ⟨n0, n1, n2, n3⟩ := m2F_at s c
  unfold mixL at h0 h1 h2 h3 ⊢
  unfold m2L
  rw [mk16_get _ _ (by omega), mk16_get _ _ (by omega), mk16_get _ _ (by omega), mk16_get _ _ (by omega), m0, m1, m2, m3] at h0 h1 h2 h3
  simp only [mix0_eq, mix1_eq, mix2_eq, mix3_eq] at h0 h1 h2 h3
  rw [mk16_get _ _ (by omega), mk16_get _ _ (by omega), mk16_get _ _ (by omega), mk16_get _ _ (by omega), h0, h1, h2, h3, n0, n1, n2, n3]
  refine ⟨?_, ?_, ?_, ?_⟩ <;> rw [mixP_comp] <;> exact mixP_cong (by decide +kernel) _ _ _ _
theorem m2_m2 (s : List UInt8) (h : s.length = 16) : m2L (m2L s) = s := by
  refine mk16_cols h fun c hc => ?_
  obtain ⟨h0, h1, h2, h3⟩ := m2F_at (m2L s) c
  obtain ⟨m0, m1, m2, m3⟩ := m2F_at s c
  unfold m2L at h0 h1 h2 h3 ⊢
  rw [mk16_get _ _ (by omega), mk16_get _ _ (by omega), mk16_get _ _ (by omega), mk16_get _ _ (by omega), m0, m1, m2, m3] at h0 h1 h2 h3
  rw [h0, h1, h2, h3, mixP_comp, mixP_comp, mixP_comp, mixP_comp]
  refine ⟨?_, ?_, ?_, ?_⟩
  · exact (mixP_cong (by decide +kernel) _ _ _ _).trans (mixP_first _ _ _ _)
  · exact (mixP_cong (by decide +kernel) _ _ _ _).trans (mixP_second _ _ _ _)
  · exact (mixP_cong (by decide +kernel) _ _ _ _).trans (mixP_third _ _ _ _)
  · exact (mixP_cong (by decide +kernel) _ _ _ _).trans (mixP_fourth _ _ _ _)
theorem imix_three (s : List UInt8) (h : s.length = 16) : mixL (mixL (mixL s)) = imixL s := by
  have h4 : mixL (mixL (mixL (mixL s))) = s := by rw [mix_mix, mix_mix, m2_m2 s h]
  have := imix_mix (mixL (mixL (mixL s))) (mixL_length _)
  rw [h4] at this
  exact this.symm
/-- A round of the program, forwards and backwards. -/
theorem enc_round (key b : List UInt8) (h : key.length = 16) (k : Nat) (hk : k < 10) : encK (rks key 11) b (k + 1) = xorL (if k < 9 then mixL (turL 1 (repL STab (encK (rks key 11) b k))) else turL 1 (repL STab (encK (rks key 11) b k))) (rk key (k + 1)) := by
  rw [encK_succ, roundL, sh_tur, add_xor key _ h (k + 1) (by omega)]
  by_cases h9 : k < 9
  · rw [if_pos h9, if_pos (by omega)]
  · rw [if_neg h9, if_neg (by omega)]
theorem enc_start (key b : List UInt8) (h : key.length = 16) : encK (rks key 11) b 0 = xorL b (rk key 0) := by rw [encK_zero, add_xor key b h 0 (by omega)]
theorem dec_round (key x : List UInt8) (h : key.length = 16) (k : Nat) (hk : k < 10) :
    decK (rks key 11) x (k + 1) = repL RTab (turL 3 (if 0 < k then mixL (mixL (mixL (xorL (decK (rks key 11) x k) (rk key (10 - k))))) else xorL (decK (rks key 11) x k) (rk key (10 - k)))) := by
  rw [decK_succ, iroundL, ish_tur, add_xor key _ h (10 - k) (by omega)]
  by_cases h0 : 0 < k
  · rw [if_pos h0, if_pos (by omega), imix_three _ (xorL_length _ _)]
  · rw [if_neg h0, if_neg (by omega)]
theorem dec_end (key x : List UInt8) (h : key.length = 16) : decL (rks key 11) x = xorL (decK (rks key 11) x 10) (rk key 0) := by rw [decL, add_xor key _ h 0 (by omega)]
end Go.Proofs.YtnaihcoafgigcaaDoor

namespace Go.Proofs.YtnaihcoafgigcaaDoor
open Go.RowKit

/-- What a receiver is: a cipher with the key, or none with the key of noughts. -/
def Cip (w : World) (key : List UInt8) (p : Option Addr) : Prop := (p = none ∧ key = n16) ∨ ∃ C, p = some ⟨C, 0, none⟩ ∧ At w C (ubs (rks key 11)).toArray 94
theorem Cip.below {w w' : World} {key : List UInt8} {p : Option Addr} (h : Cip w key p) (hb : Below w.heap.size w w') : Cip w' key p := by
  rcases h with h | ⟨C, h1, h2⟩
  · exact .inl h
  · exact .inr ⟨C, h1, h2.new_ hb⟩
set_option maxRecDepth 100000 in
set_option maxHeartbeats 1000000 in
theorem orZeros_any (key : List UInt8) (p : Option Addr) (w : World) (hc : Cip w key p) :
    Calls Tryd.prog 81 #[.pointer p] w fun e w' => ∃ C, e = .returned (.pointer (some ⟨C, 0, none⟩)) ∧ At w' C (ubs (rks key 11)).toArray 94 ∧ Below w.heap.size w w' := by
  rcases hc with ⟨rfl, rfl⟩ | ⟨C, rfl, hC⟩
  · have HN := hid (new_any n16 w n16_length)
    have hz := noughts16
    go_enter Tryd.func81, Tryd.ntmps81
    go_wp2_with (go_at_call 22; refine HN.out.mono ?_; rintro e w' ⟨C, rfl, -, hC, hb⟩; have HC := hid hC; have HB := hid hb; clear hC hb)
    go_ret
    exact ⟨C, rfl, HC.out, HB.out⟩
  · have HC := hid hC
    clear hC
    go_enter Tryd.func81, Tryd.ntmps81
    go_wp2
    go_ret
    exact ⟨C, rfl, HC.out, Below.refl _ _⟩
/-- What holds in Encrypt and Decrypt: the block in the making, the result, the cipher, the table. -/
structure EcA (w : World) (x : List UInt8) (wr : World) : Prop where
  blk : At wr w.heap.size (ubs x).toArray 22
  res : At wr (w.heap.size + 1) (ubs n16).toArray 22
  size : w.heap.size + 2 ≤ wr.heap.size
  below : Below w.heap.size w wr
structure EcW (w : World) (key tb x : List UInt8) (C T : Nat) (wr : World) : Prop where
  ec : EcA w x wr
  c : At wr C (ubs (rks key 11)).toArray 94
  tab : At wr T (ubs tb).toArray 95
theorem EcA.start (w : World) (x : List UInt8) : EcA w x ((w.alloc (.cells (ubs x).toArray 22)).alloc (.cells (ubs n16).toArray 22)) :=
  ⟨(At.new _ _ _).alloc _, At.new_at (by simp), by simp, ((Below.refl _ _).alloc (Nat.le_refl _) _).alloc (by simp) _⟩
theorem EcA.new {w wr w' : World} {x : List UInt8} (h : EcA w x wr) (hb : Below wr.heap.size wr w') : EcA w x w' :=
  ⟨h.blk.new_ hb, h.res.new_ hb, Nat.le_trans h.size hb.size, h.below.trans (hb.mono h.below.size)⟩
theorem EcA.row {w wr : World} {x : List UInt8} (h : EcA w x wr) (y : List UInt8) : EcA w y (wr.setRow w.heap.size (ubs y).toArray) :=
  ⟨setRow_heap _ _ _ _ _ _ h.blk, At.setRow_far h.res (by omega), by simpa using h.size, below_setRow h.below (Nat.le_refl _) _⟩
theorem EcW.row {w wr : World} {key tb x : List UInt8} {C T : Nat} (h : EcW w key tb x C T wr) (y : List UInt8) : EcW w key tb y C T (wr.setRow w.heap.size (ubs y).toArray) :=
  ⟨h.ec.row y, At.setRow_far h.c (At.ne h.c h.ec.blk (by decide)), At.setRow_far h.tab (At.ne h.tab h.ec.blk (by decide))⟩
theorem EcW.new {w wr w' : World} {key tb x : List UInt8} {C T : Nat} (h : EcW w key tb x C T wr) (hb : Below wr.heap.size wr w') : EcW w key tb x C T w' := ⟨h.ec.new hb, h.c.new_ hb, h.tab.new_ hb⟩
theorem EcW.drew {w wr : World} {key tb x : List UInt8} {C T : Nat} (h : EcW w key tb x C T wr) (n : Nat) : EcW w key tb x C T (wr.drewN n) := ⟨⟨h.ec.blk, h.ec.res, h.ec.size, below_drewN h.ec.below n⟩, h.c, h.tab⟩
theorem EcA.start2 {w wr w' : World} {key tb x : List UInt8} {C : Nat} (h : EcA w x wr) (hc : At wr C (ubs (rks key 11)).toArray 94) (hb : Below wr.heap.size wr w') :
    EcW w key tb x C w'.heap.size ((w'.alloc (.cells (ubs n256).toArray 95)).setRow w'.heap.size (ubs tb).toArray) := by
  have h2 : Below wr.heap.size wr ((w'.alloc (.cells (ubs n256).toArray 95)).setRow w'.heap.size (ubs tb).toArray) := below_setRow (hb.alloc hb.size _) hb.size _
  exact ⟨h.new h2, hc.new_ h2, setRow_heap _ _ (ubs n256).toArray _ _ _ (At.new _ _ _)⟩
theorem rks_range {w : World} {C : Nat} {key : List UInt8} (hk : key.length = 16) (h : At w C (ubs (rks key 11)).toArray 94) (n : Nat) (hn : n ≤ 10) : w.rangeAt C (16 * n) (ubs (rk key n)) := by
  obtain ⟨z, hz⟩ := rks_part key 11 n (by omega)
  have := range_at h hz
  rwa [rks_length key hk] at this
/-- The block. -/
theorem EcW.run_blk {w W : World} {key tb x : List UInt8} {C T : Nat} {o : Oper} {a : Go.Act} (h : EcW w key tb x C T W) (hx : x.length = 16) (y : Operand) (ho : o.op = .load 22 y) (hy : a.eval y = .pointer (some ⟨w.heap.size, 0, none⟩)) :
    (execOp a.eval o).run Tryd.prog W = .ok (.value (.agg (ubs x).toArray)) W :=
  run_load_part _ y ho w.heap.size 0 hy (ubs x) _ (range_at (a := []) (m := x) (z := []) h.ec.blk (by simp)) Tryd.underlying22 rfl (by rw [size16, ubs_length, hx])
theorem EcW.run_key {w W : World} {key tb x : List UInt8} {C T : Nat} {o : Oper} {a : Go.Act} (h : EcW w key tb x C T W) (hk : key.length = 16) (n : Nat) (hn : n ≤ 10) (y : Operand) (ho : o.op = .load 22 y) (hy : a.eval y = .pointer (some ⟨C, 16 * n, none⟩)) :
    (execOp a.eval o).run Tryd.prog W = .ok (.value (.agg (ubs (rk key n)).toArray)) W :=
  run_load_part _ y ho C (16 * n) hy (ubs (rk key n)) _ (rks_range hk h.c n hn) Tryd.underlying22 rfl (by rw [size16, ubs_length, rk_length key hk])
set_option maxRecDepth 100000 in
set_option maxHeartbeats 1000000 in
theorem encrypt_p (key b : List UInt8) (p : Option Addr) (w : World) (hk : key.length = 16) (hb : b.length = 16) (hc : Cip w key p) :
    Calls Tryd.prog 73 #[.pointer p, .agg (ubs b).toArray] w fun e w' => e = .returned (.agg (ubs (encL (rks key 11) b)).toArray) ∧ Below w.heap.size w w' := by
  have H0 := hid (EcA.start w b)
  have HK := hid hk
  have HO := hid (orZeros_any key p _ (hc.below (((Below.refl w.heap.size w).alloc (Nat.le_refl _) (.cells (ubs b).toArray 22)).alloc (by simp) (.cells (ubs n16).toArray 22))))
  have HAL := hid (fun (o : Oper) (a : Go.Act) (W : World) (h : o.op = .alloc 95) => run_alloc_of (o := o) (a := a) (W := W) _ h _ zero256)
  have HS := hid (fun W => substitutes_any W)
  have HZS := hid (size256_of STab_length)
  have HL := hid hb
  have HE0 := hid (enc_start key b hk)
  have hz := noughts16
  clear hk hb hc
  go_enter Tryd.func73, Tryd.ntmps73
  go_upto_region 3 with (first
    | (go_at_call 81; refine HO.out.mono ?_; rintro e w1 ⟨C, rfl, hC, hb1⟩; have H1 := hid (H0.out.new hb1); have HC := hid hC; clear hb1 hC)
    | (go_at_call 39; refine (HS.out _).mono ?_; rintro e w2 ⟨rfl, hb2⟩; have H2 := hid (EcA.start2 (tb := STab) H1.out HC.out hb2); clear hb2)
    | (refine Great.wpList_allocTo rfl _ rfl _ _ (HAL.out _ _ _ rfl) ?_)
    | (refine wpList_store_row rfl _ (.tmp 5) (.tmp 9) rfl w2.heap.size (ubs STab).toArray rfl rfl 95 (ubs n256).toArray (heap_alloc_new _ _) HZS.out ?e3 (ubs_all _) ?e4; rotate_right; generalize ((w2.alloc (.cells (ubs n256).toArray 95)).setRow w2.heap.size (ubs STab).toArray) = W3 at H2 ⊢))
  case e3 => simp [ubs_length, n256_length, STab_length]
  clear H1 HC H0
  generalize w2.heap.size = T at H2 ⊢
  try simp only [Act.put, List.setIfInBounds_toArray, List.set_cons_succ, List.set_cons_zero]
  have HRL0 := hid (rk_length key HK.out 0)
  refine wp_region_still_tail 6 (by kernel_rfl) (by kernel_rfl) ?_
  simp only [List.take_succ_cons, List.take_zero, List.drop_succ_cons, List.drop_zero]
  obtain ⟨V0, hV0⟩ : ∃ V0 : World, { W3 with drawn := W3.drawn + 1 } = V0 := ⟨_, rfl⟩
  rw [hV0]
  have H3 := hid (show EcW w key STab b C T V0 by rw [← hV0]; exact H2.out.drew 1)
  clear hV0 H2
  refine wpStill_run _ rfl (H3.out.run_blk HL.out (.tmp 3) rfl rfl) ?_
  try simp only [Act.put, List.setIfInBounds_toArray, List.set_cons_succ, List.set_cons_zero]
  repeat still_step
  refine wpStill_run _ rfl (H3.out.run_key HK.out 0 (by omega) (.tmp 14) rfl rfl) ?_
  refine wpStill_nil ?_
  try simp only [Act.put, List.setIfInBounds_toArray, List.set_cons_succ, List.set_cons_zero]
  go_wp2_with (first
    | (go_at_call 82; refine (psum_any b (rk key 0) _ HL.out HRL0.out).mono ?_; rintro e w4 ⟨rfl, hb4⟩; have H4 := hid (H3.out.new hb4); clear hb4)
    | (refine wpList_store_row rfl _ (.tmp 3) (.tmp 16) rfl w.heap.size (ubs (xorL b (rk key 0))).toArray rfl rfl 22 (ubs (b)).toArray H4.out.ec.blk (size16_of (xorL_length _ _)) ?s1a (ubs_all _) ?s1b; rotate_right; have H5 := hid (H4.out.row (xorL b (rk key 0))); generalize (w4.setRow w.heap.size (ubs (xorL b (rk key 0))).toArray) = W5 at H5 ⊢))
  case s1a => simp [ubs_length, HL.out, xorL_length]
  rw [← HE0.out] at H5
  clear H4 H3
  go_loopw [17] (fun vi wr => ∃ k : Nat, k ≤ 10 ∧ vi = .int .i64 k ∧ EcW w key STab (encK (rks key 11) b k) C T wr) (fun vi _ => 10 - (intOf vi).toNat)
  case atStart => exact ⟨0, by omega, rfl, H5.out⟩
  case round =>
    clear H5
    obtain ⟨k, hk, rfl, hA⟩ := hrel
    have HA := hid hA
    clear hA
    have HX := hid (encK_length (rks key 11) b k)
    by_cases hlt : k < 10
    · have HN := hid (enc_round key b HK.out k hlt)
      obtain ⟨k1, hk1⟩ : ∃ m, m = k + 1 := ⟨_, rfl⟩
      have HK1 := hid hk1
      have HRL := hid (rk_length key HK.out k1)
      have i1 : (k1 : Int) < 11 := by omega
      have e2 : (k : Int) + 1 = (k1 : Int) := by omega
      have e1 : IntKind.i64.wrap (k1 : Int) = (k1 : Int) := by rw [IntKind.wrap_i64] <;> omega
      have e4 : k1 * 16 = 16 * k1 := by omega
      have l1 : k1 ≤ 10 := by omega
      rw [← hk1] at HN
      obtain ⟨x, hx⟩ : ∃ x, x = encK (rks key 11) b k := ⟨_, rfl⟩
      rw [← hx] at HA HX HN
      clear hk1 hx
      by_cases h9 : k < 9
      · have c9 : decide ((k : Int) < 9) = true := by simp; omega
        rw [if_pos (by omega)] at HN
        go_upto_region 10 with (first
          | (refine wpList_load_row rfl _ (.tmp 3) rfl w.heap.size rfl 22 (ubs x).toArray (0, 0) _ HA.out.ec.blk Tryd.underlying22 rfl (size16_of HX.out) ?_)
          | (go_at_call 84; refine (preplaced_any STab x T _ STab_length HX.out HA.out.tab).mono ?_; rintro e w6 ⟨rfl, hb6⟩; have H6 := hid (HA.out.new hb6); clear hb6)
          | (go_at_call 83; refine (pturned_any (repL STab x) 1 _ (repL_length _ _) (by omega)).mono ?_; rintro e w7 ⟨rfl, hb7⟩; have H7 := hid (H6.out.new hb7); clear hb7)
          | (refine wpList_store_row rfl _ (.tmp 3) (.tmp 22) rfl w.heap.size (ubs (turL 1 (repL STab x))).toArray rfl rfl 22 (ubs (x)).toArray H7.out.ec.blk (size16_of (turL_length _ _)) ?s2ua (ubs_all _) ?s2ub; rotate_right; have H8 := hid (H7.out.row (turL 1 (repL STab x))); generalize (w7.setRow w.heap.size (ubs (turL 1 (repL STab x))).toArray) = W8 at H8 ⊢)
          | (refine wpList_load_row rfl _ (.tmp 3) rfl w.heap.size rfl 22 (ubs (turL 1 (repL STab x))).toArray (0, 0) _ H8.out.ec.blk Tryd.underlying22 rfl (size16_of (turL_length _ _)) ?_)
          | (go_at_call 85; refine (pmixed_any (turL 1 (repL STab x)) _ (turL_length _ _)).mono ?_; rintro e w8 ⟨rfl, hb8⟩; have H8b := hid (H8.out.new hb8); clear hb8)
          | (refine wpList_store_row rfl _ (.tmp 3) (.tmp 26) rfl w.heap.size (ubs (mixL (turL 1 (repL STab x)))).toArray rfl rfl 22 (ubs (turL 1 (repL STab x))).toArray H8b.out.ec.blk (size16_of (mixL_length _)) ?s4ua (ubs_all _) ?s4ub; rotate_right; have H8c := hid (H8b.out.row (mixL (turL 1 (repL STab x)))); generalize (w8.setRow w.heap.size (ubs (mixL (turL 1 (repL STab x)))).toArray) = W8c at H8c ⊢))
        case s2ua => simp [ubs_length, HX.out, turL_length]
        case s4ua => simp [ubs_length, mixL_length, turL_length]
        clear H8b H8
        clear H7 H6 HA
        try simp only [Act.put]
        obtain ⟨y, hy⟩ : ∃ y, y = mixL (turL 1 (repL STab x)) := ⟨_, rfl⟩
        have HY := hid (show y.length = 16 by rw [hy]; exact mixL_length _)
        rw [← hy] at HN H8c
        clear hy
        refine wp_region_still_tail 8 (by kernel_rfl) (by kernel_rfl) ?_
        simp only [List.take_succ_cons, List.take_zero, List.drop_succ_cons, List.drop_zero]
        obtain ⟨V1, hV1⟩ : ∃ V1 : World, { W8c with drawn := W8c.drawn + 1 } = V1 := ⟨_, rfl⟩
        rw [hV1]
        have HV := hid (show EcW w key STab y C T V1 by rw [← hV1]; exact H8c.out.drew 1)
        clear hV1 H8c
        refine wpStill_run _ rfl (HV.out.run_blk HY.out (.tmp 3) rfl rfl) ?_
        try simp only [Act.put, List.setIfInBounds_toArray, List.set_cons_succ, List.set_cons_zero]
        repeat still_step
        refine wpStill_run _ rfl (HV.out.run_key HK.out k1 l1 (.tmp 33) rfl rfl) ?_
        refine wpStill_nil ?_
        try simp only [Act.put, List.setIfInBounds_toArray, List.set_cons_succ, List.set_cons_zero]
        go_wp2_with (first
          | (go_at_call 82; refine (psum_any y (rk key k1) _ HY.out HRL.out).mono ?_; rintro e w9 ⟨rfl, hb9⟩; have H9 := hid (HV.out.new hb9); clear hb9)
          | (refine wpList_store_row rfl _ (.tmp 3) (.tmp 35) rfl w.heap.size (ubs (xorL y (rk key k1))).toArray rfl rfl 22 (ubs (y)).toArray H9.out.ec.blk (size16_of (xorL_length _ _)) ?s3ua (ubs_all _) ?s3ub; rotate_right; have HW := hid (H9.out.row (xorL y (rk key k1))); generalize (w9.setRow w.heap.size (ubs (xorL y (rk key k1))).toArray) = W9 at HW ⊢))
        case s3ua => simp [ubs_length, HY.out, xorL_length]
        go_roundw
        case rel => exact ⟨k1, l1, rfl, by rw [HN.out]; exact HW.out⟩
        case measure => have := HK1.out; simp [intOf]; omega
      · have c9 : decide ((k : Int) < 9) = false := by simp; omega
        rw [if_neg (by omega)] at HN
        go_upto_region 10 with (first
          | (refine wpList_load_row rfl _ (.tmp 3) rfl w.heap.size rfl 22 (ubs x).toArray (0, 0) _ HA.out.ec.blk Tryd.underlying22 rfl (size16_of HX.out) ?_)
          | (go_at_call 84; refine (preplaced_any STab x T _ STab_length HX.out HA.out.tab).mono ?_; rintro e w6 ⟨rfl, hb6⟩; have H6 := hid (HA.out.new hb6); clear hb6)
          | (go_at_call 83; refine (pturned_any (repL STab x) 1 _ (repL_length _ _) (by omega)).mono ?_; rintro e w7 ⟨rfl, hb7⟩; have H7 := hid (H6.out.new hb7); clear hb7)
          | (refine wpList_store_row rfl _ (.tmp 3) (.tmp 22) rfl w.heap.size (ubs (turL 1 (repL STab x))).toArray rfl rfl 22 (ubs (x)).toArray H7.out.ec.blk (size16_of (turL_length _ _)) ?s2va (ubs_all _) ?s2vb; rotate_right; have H8 := hid (H7.out.row (turL 1 (repL STab x))); generalize (w7.setRow w.heap.size (ubs (turL 1 (repL STab x))).toArray) = W8 at H8 ⊢))
        case s2va => simp [ubs_length, HX.out, turL_length]
        clear H7 H6 HA
        try simp only [Act.put, List.setIfInBounds_toArray, List.set_cons_succ, List.set_cons_zero]
        obtain ⟨y, hy⟩ : ∃ y, y = turL 1 (repL STab x) := ⟨_, rfl⟩
        have HY := hid (show y.length = 16 by rw [hy]; exact turL_length _ _)
        rw [← hy] at HN H8
        clear hy
        refine wp_region_still_tail 8 (by kernel_rfl) (by kernel_rfl) ?_
        simp only [List.take_succ_cons, List.take_zero, List.drop_succ_cons, List.drop_zero]
        obtain ⟨V1, hV1⟩ : ∃ V1 : World, { W8 with drawn := W8.drawn + 1 } = V1 := ⟨_, rfl⟩
        rw [hV1]
        have HV := hid (show EcW w key STab y C T V1 by rw [← hV1]; exact H8.out.drew 1)
        clear hV1 H8
        refine wpStill_run _ rfl (HV.out.run_blk HY.out (.tmp 3) rfl rfl) ?_
        try simp only [Act.put, List.setIfInBounds_toArray, List.set_cons_succ, List.set_cons_zero]
        repeat still_step
        refine wpStill_run _ rfl (HV.out.run_key HK.out k1 l1 (.tmp 33) rfl rfl) ?_
        refine wpStill_nil ?_
        try simp only [Act.put, List.setIfInBounds_toArray, List.set_cons_succ, List.set_cons_zero]
        go_wp2_with (first
          | (go_at_call 82; refine (psum_any y (rk key k1) _ HY.out HRL.out).mono ?_; rintro e w9 ⟨rfl, hb9⟩; have H9 := hid (HV.out.new hb9); clear hb9)
          | (refine wpList_store_row rfl _ (.tmp 3) (.tmp 35) rfl w.heap.size (ubs (xorL y (rk key k1))).toArray rfl rfl 22 (ubs (y)).toArray H9.out.ec.blk (size16_of (xorL_length _ _)) ?s3va (ubs_all _) ?s3vb; rotate_right; have HW := hid (H9.out.row (xorL y (rk key k1))); generalize (w9.setRow w.heap.size (ubs (xorL y (rk key k1))).toArray) = W9 at HW ⊢))
        case s3va => simp [ubs_length, HY.out, xorL_length]
        go_roundw
        case rel => exact ⟨k1, l1, rfl, by rw [HN.out]; exact HW.out⟩
        case measure => have := HK1.out; simp [intOf]; omega
    · obtain rfl : k = 10 := by omega
      have hA := HA.out
      rw [encL_eq] at hA
      have HB := hid hA
      have HZ := hid (show (encL (rks key 11) b).length = 16 from encK_length (rks key 11) b 10)
      clear hA HA HX
      go_wp2_with (first
        | (refine wpList_load_row rfl _ (.tmp 3) rfl w.heap.size rfl 22 (ubs (encL (rks key 11) b)).toArray (0, 0) _ HB.out.ec.blk Tryd.underlying22 rfl (size16_of HZ.out) ?_)
        | (refine wpList_store_row rfl _ (.tmp 4) (.tmp 37) rfl (w.heap.size + 1) (ubs (encL (rks key 11) b)).toArray rfl rfl 22 (ubs n16).toArray HB.out.ec.res (size16_of HZ.out) ?e5 (ubs_all _) ?e6; rotate_right))
      case e5 => simp [ubs_length, n16_length, HZ.out]
      refine bodyPost_ret (results_cell_row rfl _ _ (w.heap.size + 1) 22 (ubs (encL (rks key 11) b)).toArray (0, 0) _ rfl (setRow_heap _ _ _ _ _ _ HB.out.ec.res) Tryd.underlying22 rfl (size16_of HZ.out)) rfl ?_
      exact ⟨rfl, below_setRow HB.out.ec.below (by omega) _⟩
end Go.Proofs.YtnaihcoafgigcaaDoor
