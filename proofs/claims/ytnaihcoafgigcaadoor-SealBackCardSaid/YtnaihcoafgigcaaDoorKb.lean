/-
  The document's layer 6: labels, keys, sessions.
-/
import Derived.Test.YtnaihcoafgigcaaDoorKa
import Derived.Test.YtnaihcoafgigcaaDoorY8
import Derived.Lib.ConvBytes
import Derived.StillTailTactics
import Derived.Deep.Cut
namespace Go.Proofs.YtnaihcoafgigcaaDoor
open Go.RowKit

/-- '[]byte(s)'. -/
theorem str_bytes (l : List UInt8) (W : World) : ∃ W' cap, (convert 9 55 (.string ⟨l.toArray⟩)).run Tryd.prog W = .ok (.slice (some ⟨W.heap.size, 0, none⟩) l.length cap) W' ∧ Rb W' W'.heap.size (some ⟨W.heap.size, 0, none⟩) l ∧ Below W.heap.size W W' := by
  have h := Lib.run_convert_string_bytes (P := Tryd.prog) W 9 55 5 ⟨l.toArray⟩ Tryd.underlying9 Tryd.underlying55 Tryd.underlying5
  have hs : (⟨l.toArray⟩ : ByteArray).size = l.length := by show l.toArray.size = _; simp
  rw [hs] at h
  refine ⟨_, _, h, ?_, ?_⟩
  · refine fun _ => ⟨W.heap.size, 0, rfl, by rw [Lib.bytesWorld_size]; omega, fun j u hu => ?_⟩
    have hj : j < l.length := by have := (List.getElem?_eq_some_iff.1 hu).1; rwa [ubs_length] at this
    rw [Nat.zero_add, Lib.bytesWorld_cell _ _ _ _ (by rw [hs]; exact hj)]
    rw [ubs_get, List.getElem?_eq_getElem hj] at hu
    cases hu
    simp [hj, ub]
  · refine ⟨?_, ?_, ?_, by rw [Lib.bytesWorld_size]; omega, fun k hk => Lib.bytesWorld_at_old W _ _ k hk⟩ <;> (unfold Lib.bytesWorld World.freeze; split <;> rfl)
theorem sizeH_of {l : List UInt8} (h : l.length = 32) : (Tryd.prog.info? 61).map (·.size) = some (ubs l).toArray.size := by rw [sizeH]; simp [ubs_length, h]
set_option maxRecDepth 100000 in
set_option maxHeartbeats 1000000 in
theorem labelR_any (key l : List UInt8) (w : World) (hk : key.length = 16) (hl : l.length ≤ 1000000) (hT : Tabr w) (hI : Tab w 0 IV.l) :
    Calls Tryd.prog 48 #[.agg (ubs key).toArray, .string ⟨l.toArray⟩] w fun e w' => e = .returned (.agg (ubs (macL key l)).toArray) ∧ Below w.heap.size w w' := by
  obtain ⟨W0, hW0⟩ : ∃ W0, W0 = (w.alloc (.cells (ubs key).toArray 23)).alloc (.cells (ubs n32).toArray 61) := ⟨_, rfl⟩
  have hb0 : Below w.heap.size w W0 := by rw [hW0]; exact ((Below.refl _ _).alloc (Nat.le_refl _) _).alloc (by simp) _
  have h0 : At W0 w.heap.size (ubs key).toArray 23 := by rw [hW0]; exact (At.new _ _ _).alloc _
  have h1 : At W0 (w.heap.size + 1) (ubs n32).toArray 61 := by rw [hW0]; exact At.new_at (by simp)
  obtain ⟨W1, cap, k1, r1, b1⟩ := str_bytes l W0
  have HM := hid (macR_any key l (some ⟨w.heap.size, 0, none⟩) (some ⟨W0.heap.size, 0, none⟩) 16 cap W1 ((rb_at h0).below b1 |>.mono b1.size) r1 (by omega) (by omega) (hT.below (hb0.trans (b1.mono hb0.size))) (Tab.below (x := IV.a) (xs := [IV.b, IV.c, IV.d, IV.e, IV.f, IV.g, IV.h]) hI (hb0.trans (b1.mono hb0.size))))
  rw [hk] at HM
  have HML := hid (macL_length key l)
  have H1 := hid (h1.new_ b1)
  have HB := hid (hb0.trans (b1.mono hb0.size))
  have hz := noughts32
  obtain ⟨m, hm⟩ : ∃ m, m = macL key l := ⟨_, rfl⟩
  rw [← hm] at HM HML ⊢
  obtain ⟨x, hx⟩ : ∃ x : ByteArray, x = ⟨l.toArray⟩ := ⟨_, rfl⟩
  rw [← hx] at k1 ⊢
  obtain ⟨n, hn⟩ : ∃ n, n = l.length := ⟨_, rfl⟩
  rw [← hn] at k1 HM
  have hsz : W0.heap.size = w.heap.size + 1 + 1 := by rw [hW0]; simp
  rw [hsz] at k1 HM
  clear hk hl hT hI hb0 h0 h1 r1 b1 hm hx hn hsz
  subst hW0
  go_enter Tryd.func48, Tryd.ntmps48
  go_wp2_with (first
    | (go_at_call 30; refine HM.out.mono ?_; rintro e w2 ⟨rfl, hb2⟩; have H2 := hid (H1.out.new_ hb2); have B2 := hid (HB.out.trans (hb2.mono HB.out.size)); clear hb2)
    | (refine wpList_store_row rfl _ (.tmp 4) (.tmp 8) rfl (w.heap.size + 1) (ubs m).toArray rfl rfl 61 (ubs n32).toArray H2.out (sizeH_of HML.out) ?e5 (ubs_all _) ?e6; rotate_right))
  case e5 => simp [ubs_length, n32_length, HML.out]
  refine bodyPost_ret (results_cell_row rfl _ _ (w.heap.size + 1) 61 (ubs m).toArray (0, 0) _ rfl (setRow_heap _ _ _ _ _ _ H2.out) Tryd.underlying61 rfl (sizeH_of HML.out)) rfl ?_
  exact ⟨rfl, below_setRow B2.out (by omega) _⟩
theorem sizeKey6 : (Tryd.prog.info? 23).map (·.size) = some 16 := by kernel_rfl
def labTag : List UInt8 := [101, 110, 116, 114, 117, 115, 116, 32, 116, 97, 103]
def keyTag (key : List UInt8) : List UInt8 := macL key labTag
theorem keyTag_length (key : List UInt8) : (keyTag key).length = 32 := macL_length _ _
set_option maxRecDepth 100000 in
set_option maxHeartbeats 1000000 in
theorem refTag_any (key : List UInt8) (w : World) (hk : key.length = 16) (hT : Tabr w) (hI : Tab w 0 IV.l) :
    Calls Tryd.prog 29 #[.agg (ubs key).toArray] w fun e w' => e = .returned (.agg (ubs (keyTag key)).toArray) ∧ Below w.heap.size w w' := by
  have H0 := hid ((At.new w (ubs key).toArray 23).alloc (.cells (ubs n32).toArray 61))
  have H1 := hid (show At ((w.alloc (.cells (ubs key).toArray 23)).alloc (.cells (ubs n32).toArray 61)) (w.heap.size + 1) (ubs n32).toArray 61 from At.new_at (by simp))
  have HB := hid (((Below.refl w.heap.size w).alloc (Nat.le_refl _) (.cells (ubs key).toArray 23)).alloc (by simp) (.cells (ubs n32).toArray 61))
  have HM := hid (show Calls Tryd.prog 48 #[.agg (ubs key).toArray, .string { data := #[101, 110, 116, 114, 117, 115, 116, 32, 116, 97, 103] }] _ (fun e w' => e = .returned (.agg (ubs (keyTag key)).toArray) ∧ Below _ _ w') from labelR_any key labTag ((w.alloc (.cells (ubs key).toArray 23)).alloc (.cells (ubs n32).toArray 61)) hk (by simp [labTag]) (hT.below HB.out) (Tab.below (x := IV.a) (xs := [IV.b, IV.c, IV.d, IV.e, IV.f, IV.g, IV.h]) hI HB.out))
  have HZ := hid (show (Tryd.prog.info? 23).map (·.size) = some (ubs key).toArray.size by rw [sizeKey6]; simp [ubs_length, hk])
  have HML := hid (keyTag_length key)
  have hz := noughts32
  obtain ⟨m, hm⟩ : ∃ m, m = keyTag key := ⟨_, rfl⟩
  rw [← hm] at HM HML ⊢
  clear hk hT hI hm
  go_enter Tryd.func29, Tryd.ntmps29
  go_wp2_with (first
    | (refine wpList_load_row rfl _ (.tmp 1) rfl w.heap.size rfl 23 (ubs key).toArray (0, 0) _ H0.out Tryd.underlying23 rfl HZ.out ?_)
    | (go_at_call 48; refine HM.out.mono ?_; rintro e w2 ⟨rfl, hb2⟩; have H2 := hid (H1.out.new_ hb2); have B2 := hid (HB.out.trans (hb2.mono HB.out.size)); clear hb2)
    | (refine wpList_store_row rfl _ (.tmp 2) (.tmp 4) rfl (w.heap.size + 1) (ubs m).toArray rfl rfl 61 (ubs n32).toArray H2.out (sizeH_of HML.out) ?e5 (ubs_all _) ?e6; rotate_right))
  case e5 => simp [ubs_length, n32_length, HML.out]
  refine bodyPost_ret (results_cell_row rfl _ _ (w.heap.size + 1) 61 (ubs m).toArray (0, 0) _ rfl (setRow_heap _ _ _ _ _ _ H2.out) Tryd.underlying61 rfl (sizeH_of HML.out)) rfl ?_
  exact ⟨rfl, below_setRow B2.out (by omega) _⟩
def labTicket : List UInt8 := [101, 110, 116, 114, 117, 115, 116, 32, 116, 105, 99, 107, 101, 116]
def keyTicket (key : List UInt8) : List UInt8 := macL key labTicket
theorem keyTicket_length (key : List UInt8) : (keyTicket key).length = 32 := macL_length _ _
def labLink : List UInt8 := [101, 110, 116, 114, 117, 115, 116, 32, 108, 105, 110, 107]
def keyLink (key : List UInt8) : List UInt8 := macL key labLink
theorem keyLink_length (key : List UInt8) : (keyLink key).length = 32 := macL_length _ _
def keySession (link : List UInt8) (n : Nat) : List UInt8 := macL link (toBE 8 n)
theorem keySession_length (link : List UInt8) (n : Nat) : (keySession link n).length = 32 := macL_length _ _
/-- What holds in Session. -/
structure SsW (w : World) (l : List UInt8) (W : World) : Prop where
  a0 : At W w.heap.size (ubs l).toArray 61
  a1 : At W (w.heap.size + 1) (ubs n32).toArray 61
  below : Below w.heap.size w W
theorem SsW.new {w W W' : World} {l : List UInt8} (h : SsW w l W) (hb : Below W.heap.size W W') : SsW w l W' := ⟨h.a0.new_ hb, h.a1.new_ hb, h.below.trans (hb.mono h.below.size)⟩
theorem SsW.start (w : World) (l : List UInt8) : SsW w l ((w.alloc (.cells (ubs l).toArray 61)).alloc (.cells (ubs n32).toArray 61)).drew :=
  ⟨((At.new _ _ _).alloc _ : At ((w.alloc _).alloc _) _ _ _), (At.new_at (by simp) : At ((w.alloc _).alloc _) _ _ _), below_drewN (((Below.refl w.heap.size w).alloc (Nat.le_refl _) _).alloc (by simp) _) 1⟩
theorem noughtsK6 : #[Value.int .u8 0, .int .u8 0, .int .u8 0, .int .u8 0, .int .u8 0, .int .u8 0, .int .u8 0, .int .u8 0, .int .u8 0, .int .u8 0, .int .u8 0, .int .u8 0, .int .u8 0, .int .u8 0, .int .u8 0, .int .u8 0] = (ubs n16).toArray := rfl
def labSeal : List UInt8 := [101, 110, 116, 114, 117, 115, 116, 32, 115, 101, 97, 108]
def keyEnc (key : List UInt8) : List UInt8 := (macL key labSeal).take 16
theorem keyEnc_length (key : List UInt8) : (keyEnc key).length = 16 := by rw [keyEnc, List.length_take, macL_length]; rfl
/-- What holds in Enc: the key, the result, the label's tag, the key in the making. -/
structure EkW (w : World) (key h k : List UInt8) (D E : Nat) (W : World) : Prop where
  a1 : At W (w.heap.size + 1) (ubs n16).toArray 23
  d : At W D (ubs h).toArray 61
  e : At W E (ubs k).toArray 23
  far : E ≠ w.heap.size + 1
  hi : w.heap.size ≤ E
  below : Below w.heap.size w W
theorem EkW.drew {w W : World} {key h k : List UInt8} {D E : Nat} (x : EkW w key h k D E W) (n : Nat) : EkW w key h k D E (W.drewN n) := ⟨x.a1, x.d, x.e, x.far, x.hi, below_drewN x.below n⟩
theorem splice_take (h : List UInt8) (hl : h.length = 32) : splice (ubs n16) 0 ((ubs h).take 16) = ubs (h.take 16) := by
  unfold splice
  rw [List.take_zero, List.nil_append, List.drop_eq_nil_of_le (by rw [ubs_length, n16_length]; simp [ubs_length, hl]), List.append_nil]
  simp [ubs, List.map_take]
theorem EkW.fill {w W W' : World} {key h : List UInt8} {D E : Nat} (x : EkW w key h n16 D E W) (hl : h.length = 32) (hA : At W' E (splice (ubs n16) 0 ((ubs h).take 16)).toArray 23) (hF : Fr (fun k => k = E) W W') : EkW w key h (h.take 16) D E W' := by
  rw [splice_take h hl] at hA
  exact ⟨x.a1.fr hF (fun e => x.far e.symm), x.d.fr hF (At.ne x.d x.e (by decide)), hA, x.far, x.hi, ((Fr.of_below (S := fun k => w.heap.size ≤ k) x.below (fun _ _ h => h)).next hF (fun g hg e => by have := x.hi; omega)).below (fun _ h => h) (Nat.le_refl _)⟩
set_option maxRecDepth 100000 in
set_option maxHeartbeats 1000000 in
theorem refEnc_any (key : List UInt8) (w : World) (hk : key.length = 16) (hT : Tabr w) (hI : Tab w 0 IV.l) :
    Calls Tryd.prog 46 #[.agg (ubs key).toArray] w fun e w' => e = .returned (.agg (ubs (keyEnc key)).toArray) ∧ Below w.heap.size w w' := by
  have H0 := hid ((At.new w (ubs key).toArray 23).alloc (.cells (ubs n16).toArray 23))
  have H1 := hid (show At ((w.alloc (.cells (ubs key).toArray 23)).alloc (.cells (ubs n16).toArray 23)) (w.heap.size + 1) (ubs n16).toArray 23 from At.new_at (by simp))
  have HB := hid (((Below.refl w.heap.size w).alloc (Nat.le_refl _) (.cells (ubs key).toArray 23)).alloc (by simp) (.cells (ubs n16).toArray 23))
  have HSZ := hid (show ((w.alloc (.cells (ubs key).toArray 23)).alloc (.cells (ubs n16).toArray 23)).heap.size = w.heap.size + 2 by simp)
  have HM := hid (show Calls Tryd.prog 48 #[.agg (ubs key).toArray, .string { data := #[101, 110, 116, 114, 117, 115, 116, 32, 115, 101, 97, 108] }] _ (fun e w' => e = .returned (.agg (ubs (macL key labSeal)).toArray) ∧ Below _ _ w') from labelR_any key labSeal ((w.alloc (.cells (ubs key).toArray 23)).alloc (.cells (ubs n16).toArray 23)) hk (by simp [labSeal]) (hT.below HB.out) (Tab.below (x := IV.a) (xs := [IV.b, IV.c, IV.d, IV.e, IV.f, IV.g, IV.h]) hI HB.out))
  have HZ := hid (show (Tryd.prog.info? 23).map (·.size) = some (ubs key).toArray.size by rw [sizeKey6]; simp [ubs_length, hk])
  have HML := hid (macL_length key labSeal)
  have hz := noughts32
  have hz16 := noughtsK6
  have HKE := hid (show keyEnc key = (macL key labSeal).take 16 from rfl)
  have HKL := hid (keyEnc_length key)
  obtain ⟨h, hh⟩ : ∃ h, h = macL key labSeal := ⟨_, rfl⟩
  rw [← hh] at HM HML HKE
  obtain ⟨k, hkk⟩ : ∃ k, k = keyEnc key := ⟨_, rfl⟩
  rw [← hkk] at HKE HKL ⊢
  have HZK := hid (show (Tryd.prog.info? 23).map (·.size) = some (ubs k).toArray.size by rw [sizeKey6]; simp [ubs_length, HKL.out])
  clear hk hT hI hh hkk
  go_enter Tryd.func46, Tryd.ntmps46
  go_upto_region 3 with (first
    | (refine wpList_load_row rfl _ (.tmp 1) rfl w.heap.size rfl 23 (ubs key).toArray (0, 0) _ H0.out Tryd.underlying23 rfl HZ.out ?_)
    | (go_at_call 48; refine HM.out.mono ?_; rintro e w2 ⟨rfl, hb2⟩; have H2 := hid (H1.out.new_ hb2); have B2 := hid (HB.out.trans (hb2.mono HB.out.size)); have S2 := hid (show w.heap.size + 2 ≤ w2.heap.size by have h1 := hb2.size; have h2 := HSZ.out; omega); clear hb2)
    | (refine wpList_store_row rfl _ (.tmp 3) (.tmp 6) rfl w2.heap.size (ubs h).toArray rfl rfl 61 (ubs n32).toArray (heap_alloc_new _ _) (sizeH_of HML.out) ?e5 (ubs_all _) ?e6; rotate_right; have D3 := hid (stored_at w2 h); have H3 := hid (H2.out.new_ (stored_below w2 h)); have B3 := hid (B2.out.trans ((stored_below w2 h).mono B2.out.size)); have S3 := hid (show w.heap.size + 2 ≤ ((w2.alloc (.cells (ubs n32).toArray 61)).setRow w2.heap.size (ubs h).toArray).heap.size by have := S2.out; simp; omega); generalize ((w2.alloc (.cells (ubs n32).toArray 61)).setRow w2.heap.size (ubs h).toArray) = w3 at D3 H3 B3 S3 ⊢))
  case e5 => simp [ubs_length, n32_length, HML.out]
  have X4 := hid (show EkW w key h n16 w2.heap.size w3.heap.size (w3.alloc (.cells (ubs n16).toArray 23)) from ⟨H3.out.alloc _, D3.out.alloc _, At.new _ _ _, by have := S3.out; omega, by have := S3.out; omega, B3.out.alloc (by have := S3.out; omega) _⟩)
  clear H3 D3 B3 S3 H2 B2 S2 H0 H1 HB
  generalize w2.heap.size = D at X4 ⊢
  generalize w3.alloc (.cells (ubs n16).toArray 23) = w4 at X4 ⊢
  generalize w3.heap.size = E at X4 ⊢
  refine wp_region_still_tail 2 (by kernel_rfl) (by kernel_rfl) ?_
  simp only [List.take_succ_cons, List.take_zero, List.drop_succ_cons, List.drop_zero]
  obtain ⟨V0, hV0⟩ : ∃ V0 : World, { w4 with drawn := w4.drawn + 1 } = V0 := ⟨_, rfl⟩
  rw [hV0]
  have X5 := hid (show EkW w key h n16 D E V0 by rw [← hV0]; exact X4.out.drew 1)
  clear hV0 X4
  repeat still_step
  refine wpStill_nil ?_
  go_wp2_with (first
    | (refine wpList_copy_rd rfl (.tmp 7) (.tmp 8) _ _ rfl 5 Tryd.underlying55 sizeU8 E 0 16 16 V0.heap.size (some ⟨D, 0, none⟩) 32 32 rfl rfl (ubs n16) 23 X5.out.e (ubs h) (rb_at X5.out.d) (by rw [ubs_length]; exact HML.out) (by rw [ubs_length, n16_length]; omega) (ubs_one _) ?_; intro w5 hA5 hF5; have X6 := hid (X5.out.fill HML.out hA5 hF5); clear hA5 hF5)
    | (refine wpList_load_row rfl _ (.tmp 4) rfl E rfl 23 (ubs k).toArray (0, 0) _ (by have := X6.out.e; rw [← HKE.out] at this; exact this) Tryd.underlying23 rfl HZK.out ?_)
    | (refine wpList_store_row rfl _ (.tmp 2) (.tmp 10) rfl (w.heap.size + 1) (ubs k).toArray rfl rfl 23 (ubs n16).toArray X6.out.a1 HZK.out ?e7 (ubs_all _) ?e8; rotate_right))
  case e7 => simp [ubs_length, n16_length, HKL.out]
  refine bodyPost_ret (results_cell_row rfl _ _ (w.heap.size + 1) 23 (ubs k).toArray (0, 0) _ rfl (setRow_heap _ _ _ _ _ _ X6.out.a1) Tryd.underlying23 rfl HZK.out) rfl ?_
  exact ⟨rfl, below_setRow X6.out.below (by omega) _⟩
end Go.Proofs.YtnaihcoafgigcaaDoor
