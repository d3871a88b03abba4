/-
  KeysOf, walked.
-/
import Derived.Test.YtjfpdbhjbleffaaDoorAk
namespace Go.Proofs.YtjfpdbhjbleffaaDoor
open Go.RowKit

theorem run_loadSet {o : Oper} {a : Go.Act} {W : World} (x : Operand) (ho : o.op = .load 29 x) (b : Nat) (hx : a.eval x = .pointer (some ⟨b, 0, none⟩)) (l : List UInt8) (hc : At W b (ubs l).toArray 29) (hl : l.length = 112) : (execOp a.eval o).run Tryd.prog W = .ok (.value (.agg (ubs l).toArray)) W :=
  run_load_part _ x ho b 0 hx (ubs l) _ (range_whole hc) Tryd.underlying29 rfl (by rw [sizeSet, ubs_length, hl])
/-- What holds in the law: the key, the set, the session's key. -/
structure KoW (w : World) (key s m : List UInt8) (E F : Nat) (W : World) : Prop where
  a0 : At W w.heap.size (ubs key).toArray 23
  st : At W E (ubs s).toArray 29
  ss : At W F (ubs m).toArray 27
  below : Below w.heap.size w W
theorem KoW.new {w W W' : World} {key s m : List UInt8} {E F : Nat} (x : KoW w key s m E F W) (hb : Below W.heap.size W W') : KoW w key s m E F W' := ⟨x.a0.new_ hb, x.st.new_ hb, x.ss.new_ hb, x.below.trans (hb.mono x.below.size)⟩
theorem KoW.drew {w W : World} {key s m : List UInt8} {E F : Nat} (x : KoW w key s m E F W) : KoW w key s m E F W.drew := ⟨x.a0, x.st, x.ss, x.below.drew⟩
theorem set_stored_at (w : World) (s : List UInt8) : At ((w.alloc (.cells (ubs n112).toArray 29)).setRow w.heap.size (ubs s).toArray) w.heap.size (ubs s).toArray 29 := setRow_heap _ _ (ubs n112).toArray _ _ _ (At.new _ _ _)
theorem set_stored_below (w : World) (s : List UInt8) : Below w.heap.size w ((w.alloc (.cells (ubs n112).toArray 29)).setRow w.heap.size (ubs s).toArray) := below_setRow ((Below.refl _ _).alloc (Nat.le_refl _) _) (Nat.le_refl _) _
/-- What the law's great region yields. -/
def koF (key e t u l s m : List UInt8) (n E : Nat) : Nat → Value
  | 0 => .pointer (some ⟨E, 0, none⟩)
  | 1 => .agg (ubs e).toArray
  | 2 => .agg (ubs key).toArray
  | 3 => .agg (ubs e).toArray
  | 6 => .pointer (some ⟨E, 16, none⟩)
  | 7 => .agg (ubs t).toArray
  | 8 => .agg (ubs key).toArray
  | 9 => .agg (ubs t).toArray
  | 13 => .pointer (some ⟨E, 48, none⟩)
  | 14 => .agg (ubs u).toArray
  | 15 => .agg (ubs key).toArray
  | 16 => .agg (ubs u).toArray
  | 20 => .pointer (some ⟨E, 80, none⟩)
  | 21 => .agg (ubs l).toArray
  | 22 => .agg (ubs key).toArray
  | 23 => .agg (ubs l).toArray
  | 27 => .agg (ubs s).toArray
  | 28 => .int .u64 (n : Int)
  | 29 => .agg (ubs m).toArray
  | 30 => .agg (ubs m).toArray
  | 34 => .pointer (some ⟨E, 80, none⟩)
  | 35 => .agg (ubs l).toArray
  | 36 => .int .u64 (n : Int)
  | 37 => .agg (ubs m).toArray
  | 38 => .agg (ubs m).toArray
  | _ => .bool true
set_option maxRecDepth 100000 in
set_option maxHeartbeats 2000000 in
theorem keysOf_law (key : List UInt8) (n : Nat) (w : World) (hk : key.length = 16) (hn : n < 18446744073709551616) (hT : Tabs w) (hR : Tabr w) (hI : Tab w 0 IV.l) :
    Calls Tryd.prog 3 #[.agg (ubs key).toArray, .int .u64 (n : Int)] w fun e w' => e = .returned (.bool true) ∧ Below w.heap.size w w' := by
  have HIB := hid (fun (W : World) (h : Below w.heap.size w W) => Tab.below (x := IV.a) (xs := [IV.b, IV.c, IV.d, IV.e, IV.f, IV.g, IV.h]) hI h)
  have HAL := hid (fun (W : World) (h : Below w.heap.size w W) => alive6_any W (hT.below h))
  have HO := hid (fun (W : World) (h : Below w.heap.size w W) => kof_any key W hk (hT.below h))
  have HRE := hid (fun (W : World) (h : Below w.heap.size w W) => refEnc_any key W hk (hR.below h) (HIB.out W h))
  have HRT := hid (fun (W : World) (h : Below w.heap.size w W) => refTag_any key W hk (hR.below h) (HIB.out W h))
  have HRU := hid (fun (W : World) (h : Below w.heap.size w W) => refTicket_any key W hk (hR.below h) (HIB.out W h))
  have HRL := hid (fun (W : World) (h : Below w.heap.size w W) => refLink_any key W hk (hR.below h) (HIB.out W h))
  have HRS := hid (fun (W : World) (h : Below w.heap.size w W) => refSession_any (keyLink key) n W (keyLink_length key) hn (hR.below h) (HIB.out W h))
  have HPS := hid (fun (W : World) (h : Below w.heap.size w W) => setSession_any key n W hn (hT.below h))
  have HKS := hid (fun (W : World) (h : Below w.heap.size w W) => ksession_any (keyLink key) n W (keyLink_length key) hn (hT.below h))
  have HAC := hid (fun (o : Oper) (a : Go.Act) (W : World) (h : o.op = .alloc 29) => run_alloc_of (o := o) (a := a) (W := W) _ h _ zero112)
  have HS := hid (fun (W : World) (g : Nat) (h : At W g (ubs (setL key)).toArray 29) => And.intro (set_enc h) (And.intro (set_tag h) (And.intro (set_ticket h) (set_link h))))
  have HKL := hid hk
  have HSL := hid (setL_length key)
  have HEL := hid (keyEnc_length key)
  have HTL := hid (keyTag_length key)
  have HUL := hid (keyTicket_length key)
  have HLL := hid (keyLink_length key)
  have HML := hid (keySession_length (keyLink key) n)
  generalize keySession (keyLink key) n = m0 at HRS HPS HKS HML
  generalize setL key = s0 at HO HPS HSL HS
  generalize keyEnc key = e0 at HRE HS HEL
  generalize keyTag key = t0 at HRT HS HTL
  generalize keyTicket key = u0 at HRU HS HUL
  generalize keyLink key = l0 at HRL HRS HKS HS HLL
  have HA0 := hid (At.new w (ubs key).toArray 23)
  have HB0 := hid ((Below.refl w.heap.size w).alloc (Nat.le_refl _) (.cells (ubs key).toArray 23))
  have HZK := hid (show (Tryd.prog.info? 23).map (·.size) = some (ubs key).toArray.size from sizeKey_of hk)
  have hz := noughts32
  clear hk hn hT hR hI
  go_enter Tryd.func3, Tryd.ntmps3
  go_upto_region 5 with (first
    | (go_at_call 6; refine (HAL.out _ HB0.out).mono ?_; rintro e w1 ⟨rfl, hb1⟩; have A1 := hid (HA0.out.new_ hb1); have B1 := hid (HB0.out.trans (hb1.mono HB0.out.size)); clear hb1)
    | (refine wpList_load_row rfl _ (.tmp 2) rfl w.heap.size rfl 23 (ubs key).toArray (0, 0) _ A1.out Tryd.underlying23 rfl HZK.out ?_; have here1 := hid trivial)
    | (refine wpList_load_row rfl _ (.tmp 2) rfl w.heap.size rfl 23 (ubs key).toArray (0, 0) _ A3.out Tryd.underlying23 rfl HZK.out ?_)
    | (go_at_call 7; refine (HO.out w1 B1.out).mono ?_; rintro e w2 ⟨rfl, hb2⟩; have A2 := hid (A1.out.new_ hb2); have B2 := hid (B1.out.trans (hb2.mono B1.out.size)); clear hb2)
    | (refine Great.wpList_allocTo rfl _ rfl _ _ (HAC.out _ _ _ rfl) ?_)
    | (refine wpList_store_row rfl _ (.tmp 5) (.tmp 10) rfl w2.heap.size (ubs s0).toArray rfl rfl 29 (ubs n112).toArray (heap_alloc_new _ _) (sizeSet_of HSL.out) ?e5 (ubs_all _) ?e6; rotate_right; have A3 := hid (A2.out.new_ (set_stored_below w2 s0)); have S3 := hid (set_stored_at w2 s0); have B3 := hid (B2.out.trans ((set_stored_below w2 s0).mono B2.out.size)); generalize ((w2.alloc (.cells (ubs n112).toArray 29)).setRow w2.heap.size (ubs s0).toArray) = w3 at A3 S3 B3 ⊢; generalize w2.heap.size = E at S3 ⊢; clear A1 B1 A2 B2)
    | (go_at_call 9; refine (HRL.out w3 B3.out).mono ?_; rintro e w4 ⟨rfl, hb4⟩; have A4 := hid (A3.out.new_ hb4); have S4 := hid (S3.out.new_ hb4); have B4 := hid (B3.out.trans (hb4.mono B3.out.size)); clear hb4)
    | (go_at_call 8; refine (HRS.out w4 B4.out).mono ?_; rintro e w5 ⟨rfl, hb5⟩; have A5 := hid (A4.out.new_ hb5); have S5 := hid (S4.out.new_ hb5); have B5 := hid (B4.out.trans (hb5.mono B4.out.size)); clear hb5)
    | (refine wpList_store_row rfl _ (.tmp 6) (.tmp 14) rfl w5.heap.size (ubs m0).toArray rfl rfl 27 (ubs n32).toArray (heap_alloc_new _ _) (sizeH_of HML.out) ?e7 (ubs_all _) ?e8; rotate_right; have K6 := hid (show KoW w key s0 m0 E w5.heap.size ((w5.alloc (.cells (ubs n32).toArray 27)).setRow w5.heap.size (ubs m0).toArray) from ⟨A5.out.new_ (stored_below w5 m0), S5.out.new_ (stored_below w5 m0), stored_at w5 m0, B5.out.trans ((stored_below w5 m0).mono B5.out.size)⟩); generalize ((w5.alloc (.cells (ubs n32).toArray 27)).setRow w5.heap.size (ubs m0).toArray) = w6 at K6 ⊢; generalize w5.heap.size = F at K6 ⊢))
  case e5 => simp [ubs_length, n112_length, HSL.out]
  case e7 => simp [ubs_length, n32_length, HML.out]
  clear HAL HO HAC HA0 HB0 A3 S3 B3 A4 S4 B4 A5 S5 B5
  refine wp_region_facts 42 42 [15, 16, 17, 18, 19, 20, 21, 22, 23, 24, 25, 26, 27, 28, 29, 30, 31, 32, 33, 34, 35, 36, 37, 38, 39, 40, 41, 42, 43, 44, 45, 46, 47, 48, 49, 50, 51, 52, 53, 54, 55, 4] (fun i v _ => v = koF key e0 t0 u0 l0 s0 m0 n E i) (KoW w key s0 m0 E F) (by kernel_rfl) (by kernel_rfl)
    (fun W W' h hb => h.new hb) (fun _ _ _ _ h _ => h) (K6.out.drew) ?_ ?_
  · intro i hi vals W K hB hn hK
    simp only [frm_cons, frm_nil, List.set_cons_succ, List.set_cons_zero, Nat.reduceAdd] at hK ⊢
    rcases (by omega : i = 0 ∨ i = 1 ∨ i = 2 ∨ i = 3 ∨ i = 4 ∨ i = 5 ∨ i = 6 ∨ i = 7 ∨ i = 8 ∨ i = 9 ∨ i = 10 ∨ i = 11 ∨ i = 12 ∨ i = 13 ∨ i = 14 ∨ i = 15 ∨ i = 16 ∨ i = 17 ∨ i = 18 ∨ i = 19 ∨ i = 20 ∨ i = 21 ∨ i = 22 ∨ i = 23 ∨ i = 24 ∨ i = 25 ∨ i = 26 ∨ i = 27 ∨ i = 28 ∨ i = 29 ∨ i = 30 ∨ i = 31 ∨ i = 32 ∨ i = 33 ∨ i = 34 ∨ i = 35 ∨ i = 36 ∨ i = 37 ∨ i = 38 ∨ i = 39 ∨ i = 40 ∨ i = 41) with rfl | rfl | rfl | rfl | rfl | rfl | rfl | rfl | rfl | rfl | rfl | rfl | rfl | rfl | rfl | rfl | rfl | rfl | rfl | rfl | rfl | rfl | rfl | rfl | rfl | rfl | rfl | rfl | rfl | rfl | rfl | rfl | rfl | rfl | rfl | rfl | rfl | rfl | rfl | rfl | rfl | rfl
    · refine wpOp_plain rfl rfl (wp_val (w' := W) (v := .pointer (some ⟨E, 0, none⟩)) (by go_simp) ?_)
      exact hK _ _ rfl (Below.refl _ _)
    · have h0 := hn 0 (by decide +kernel)
      simp only [koF] at h0
      simp only [h0] at hK ⊢
      refine wpOp_plain rfl rfl (wp_val (run_loadK (.tmp 15) rfl E 0 rfl e0 (HS.out _ _ hB.st).1 HEL.out) ?_)
      exact hK _ _ rfl (Below.refl _ _)
    · refine wpOp_plain rfl rfl (wp_val (run_loadK (.tmp 2) rfl w.heap.size 0 rfl key (range_whole hB.a0) HKL.out) ?_)
      exact hK _ _ rfl (Below.refl _ _)
    · have h2 := hn 2 (by decide +kernel)
      simp only [koF] at h2
      simp only [h2] at hK ⊢
      refine wpOp_plain rfl rfl ?_
      go_simp
      go_at_call 10
      refine (HRE.out W hB.below).mono ?_
      rintro e W' ⟨rfl, hb⟩
      exact hK _ _ rfl hb
    · have h1 := hn 1 (by decide +kernel)
      have h3 := hn 3 (by decide +kernel)
      simp only [koF] at h1 h3
      simp only [h1, h3] at hK ⊢
      refine wpOp_plain rfl rfl (wp_val (run_eqlK _ (.tmp 16) (.tmp 18) rfl e0 e0 HEL.out HEL.out rfl rfl true (by simp) W) ?_)
      exact hK _ _ rfl (Below.refl _ _)
    · have h4 := hn 4 (by decide +kernel)
      simp only [koF] at h4
      simp only [h4] at hK ⊢
      refine wpOp_plain rfl rfl (wp_val (w' := W) (v := .bool true) (by go_simp) ?_)
      exact hK _ _ rfl (Below.refl _ _)
    · have h5 := hn 5 (by decide +kernel)
      simp only [koF] at h5
      simp only [h5] at hK ⊢
      refine wpOp_on rfl (by rfl) (wp_val (w' := W) (v := .pointer (some ⟨E, 16, none⟩)) (by go_simp) ?_)
      exact hK _ _ rfl (Below.refl _ _)
    · have h5 := hn 5 (by decide +kernel)
      have h6 := hn 6 (by decide +kernel)
      simp only [koF] at h5 h6
      simp only [h5, h6] at hK ⊢
      refine wpOp_on rfl (by rfl) (wp_val (run_loadH (.tmp 21) rfl E 16 rfl t0 (HS.out _ _ hB.st).2.1 HTL.out) ?_)
      exact hK _ _ rfl (Below.refl _ _)
    · have h5 := hn 5 (by decide +kernel)
      simp only [koF] at h5
      simp only [h5] at hK ⊢
      refine wpOp_on rfl (by rfl) (wp_val (run_loadK (.tmp 2) rfl w.heap.size 0 rfl key (range_whole hB.a0) HKL.out) ?_)
      exact hK _ _ rfl (Below.refl _ _)
    · have h5 := hn 5 (by decide +kernel)
      have h8 := hn 8 (by decide +kernel)
      simp only [koF] at h5 h8
      simp only [h5, h8] at hK ⊢
      refine wpOp_on rfl (by rfl) ?_
      go_simp
      go_at_call 11
      refine (HRT.out W hB.below).mono ?_
      rintro e W' ⟨rfl, hb⟩
      exact hK _ _ rfl hb
    · have h5 := hn 5 (by decide +kernel)
      have h7 := hn 7 (by decide +kernel)
      have h9 := hn 9 (by decide +kernel)
      simp only [koF] at h5 h7 h9
      simp only [h5, h7, h9] at hK ⊢
      refine wpOp_on rfl (by rfl) (wp_val (run_eqlH _ (.tmp 22) (.tmp 24) rfl t0 t0 HTL.out HTL.out rfl rfl true (by simp) W) ?_)
      exact hK _ _ rfl (Below.refl _ _)
    · have h5 := hn 5 (by decide +kernel)
      have h10 := hn 10 (by decide +kernel)
      simp only [koF] at h5 h10
      simp only [h5, h10] at hK ⊢
      refine wpOp_plain rfl rfl (wp_val (w' := W) (v := .bool true) (by go_simp) ?_)
      exact hK _ _ rfl (Below.refl _ _)
    · have h11 := hn 11 (by decide +kernel)
      simp only [koF] at h11
      simp only [h11] at hK ⊢
      refine wpOp_plain rfl rfl (wp_val (w' := W) (v := .bool true) (by go_simp) ?_)
      exact hK _ _ rfl (Below.refl _ _)
    · have h12 := hn 12 (by decide +kernel)
      simp only [koF] at h12
      simp only [h12] at hK ⊢
      refine wpOp_on rfl (by rfl) (wp_val (w' := W) (v := .pointer (some ⟨E, 48, none⟩)) (by go_simp) ?_)
      exact hK _ _ rfl (Below.refl _ _)
    · have h12 := hn 12 (by decide +kernel)
      have h13 := hn 13 (by decide +kernel)
      simp only [koF] at h12 h13
      simp only [h12, h13] at hK ⊢
      refine wpOp_on rfl (by rfl) (wp_val (run_loadH (.tmp 28) rfl E 48 rfl u0 (HS.out _ _ hB.st).2.2.1 HUL.out) ?_)
      exact hK _ _ rfl (Below.refl _ _)
    · have h12 := hn 12 (by decide +kernel)
      simp only [koF] at h12
      simp only [h12] at hK ⊢
      refine wpOp_on rfl (by rfl) (wp_val (run_loadK (.tmp 2) rfl w.heap.size 0 rfl key (range_whole hB.a0) HKL.out) ?_)
      exact hK _ _ rfl (Below.refl _ _)
    · have h12 := hn 12 (by decide +kernel)
      have h15 := hn 15 (by decide +kernel)
      simp only [koF] at h12 h15
      simp only [h12, h15] at hK ⊢
      refine wpOp_on rfl (by rfl) ?_
      go_simp
      go_at_call 12
      refine (HRU.out W hB.below).mono ?_
      rintro e W' ⟨rfl, hb⟩
      exact hK _ _ rfl hb
    · have h12 := hn 12 (by decide +kernel)
      have h14 := hn 14 (by decide +kernel)
      have h16 := hn 16 (by decide +kernel)
      simp only [koF] at h12 h14 h16
      simp only [h12, h14, h16] at hK ⊢
      refine wpOp_on rfl (by rfl) (wp_val (run_eqlH _ (.tmp 29) (.tmp 31) rfl u0 u0 HUL.out HUL.out rfl rfl true (by simp) W) ?_)
      exact hK _ _ rfl (Below.refl _ _)
    · have h12 := hn 12 (by decide +kernel)
      have h17 := hn 17 (by decide +kernel)
      simp only [koF] at h12 h17
      simp only [h12, h17] at hK ⊢
      refine wpOp_plain rfl rfl (wp_val (w' := W) (v := .bool true) (by go_simp) ?_)
      exact hK _ _ rfl (Below.refl _ _)
    · have h18 := hn 18 (by decide +kernel)
      simp only [koF] at h18
      simp only [h18] at hK ⊢
      refine wpOp_plain rfl rfl (wp_val (w' := W) (v := .bool true) (by go_simp) ?_)
      exact hK _ _ rfl (Below.refl _ _)
    · have h19 := hn 19 (by decide +kernel)
      simp only [koF] at h19
      simp only [h19] at hK ⊢
      refine wpOp_on rfl (by rfl) (wp_val (w' := W) (v := .pointer (some ⟨E, 80, none⟩)) (by go_simp) ?_)
      exact hK _ _ rfl (Below.refl _ _)
    · have h19 := hn 19 (by decide +kernel)
      have h20 := hn 20 (by decide +kernel)
      simp only [koF] at h19 h20
      simp only [h19, h20] at hK ⊢
      refine wpOp_on rfl (by rfl) (wp_val (run_loadH (.tmp 35) rfl E 80 rfl l0 (HS.out _ _ hB.st).2.2.2 HLL.out) ?_)
      exact hK _ _ rfl (Below.refl _ _)
    · have h19 := hn 19 (by decide +kernel)
      simp only [koF] at h19
      simp only [h19] at hK ⊢
      refine wpOp_on rfl (by rfl) (wp_val (run_loadK (.tmp 2) rfl w.heap.size 0 rfl key (range_whole hB.a0) HKL.out) ?_)
      exact hK _ _ rfl (Below.refl _ _)
    · have h19 := hn 19 (by decide +kernel)
      have h22 := hn 22 (by decide +kernel)
      simp only [koF] at h19 h22
      simp only [h19, h22] at hK ⊢
      refine wpOp_on rfl (by rfl) ?_
      go_simp
      go_at_call 9
      refine (HRL.out W hB.below).mono ?_
      rintro e W' ⟨rfl, hb⟩
      exact hK _ _ rfl hb
    · have h19 := hn 19 (by decide +kernel)
      have h21 := hn 21 (by decide +kernel)
      have h23 := hn 23 (by decide +kernel)
      simp only [koF] at h19 h21 h23
      simp only [h19, h21, h23] at hK ⊢
      refine wpOp_on rfl (by rfl) (wp_val (run_eqlH _ (.tmp 36) (.tmp 38) rfl l0 l0 HLL.out HLL.out rfl rfl true (by simp) W) ?_)
      exact hK _ _ rfl (Below.refl _ _)
    · have h19 := hn 19 (by decide +kernel)
      have h24 := hn 24 (by decide +kernel)
      simp only [koF] at h19 h24
      simp only [h19, h24] at hK ⊢
      refine wpOp_plain rfl rfl (wp_val (w' := W) (v := .bool true) (by go_simp) ?_)
      exact hK _ _ rfl (Below.refl _ _)
    · have h25 := hn 25 (by decide +kernel)
      simp only [koF] at h25
      simp only [h25] at hK ⊢
      refine wpOp_plain rfl rfl (wp_val (w' := W) (v := .bool true) (by go_simp) ?_)
      exact hK _ _ rfl (Below.refl _ _)
    · have h26 := hn 26 (by decide +kernel)
      simp only [koF] at h26
      simp only [h26] at hK ⊢
      refine wpOp_on rfl (by rfl) (wp_val (run_loadSet (.tmp 5) rfl E rfl s0 hB.st HSL.out) ?_)
      exact hK _ _ rfl (Below.refl _ _)
    · have h26 := hn 26 (by decide +kernel)
      simp only [koF] at h26
      simp only [h26] at hK ⊢
      refine wpOp_on rfl (by rfl) (wp_val (w' := W) (v := .int .u64 (n : Int)) (by go_simp) ?_)
      exact hK _ _ rfl (Below.refl _ _)
    · have h26 := hn 26 (by decide +kernel)
      have h27 := hn 27 (by decide +kernel)
      have h28 := hn 28 (by decide +kernel)
      simp only [koF] at h26 h27 h28
      simp only [h26, h27, h28] at hK ⊢
      refine wpOp_on rfl (by rfl) ?_
      go_simp
      go_at_call 13
      refine (HPS.out W hB.below).mono ?_
      rintro e W' ⟨rfl, hb⟩
      exact hK _ _ rfl hb
    · have h26 := hn 26 (by decide +kernel)
      simp only [koF] at h26
      simp only [h26] at hK ⊢
      refine wpOp_on rfl (by rfl) (wp_val (run_loadH (.tmp 6) rfl F 0 rfl m0 (range_whole hB.ss) HML.out) ?_)
      exact hK _ _ rfl (Below.refl _ _)
    · have h26 := hn 26 (by decide +kernel)
      have h29 := hn 29 (by decide +kernel)
      have h30 := hn 30 (by decide +kernel)
      simp only [koF] at h26 h29 h30
      simp only [h26, h29, h30] at hK ⊢
      refine wpOp_on rfl (by rfl) (wp_val (run_eqlH _ (.tmp 44) (.tmp 45) rfl m0 m0 HML.out HML.out rfl rfl true (by simp) W) ?_)
      exact hK _ _ rfl (Below.refl _ _)
    · have h26 := hn 26 (by decide +kernel)
      have h31 := hn 31 (by decide +kernel)
      simp only [koF] at h26 h31
      simp only [h26, h31] at hK ⊢
      refine wpOp_plain rfl rfl (wp_val (w' := W) (v := .bool true) (by go_simp) ?_)
      exact hK _ _ rfl (Below.refl _ _)
    · have h32 := hn 32 (by decide +kernel)
      simp only [koF] at h32
      simp only [h32] at hK ⊢
      refine wpOp_plain rfl rfl (wp_val (w' := W) (v := .bool true) (by go_simp) ?_)
      exact hK _ _ rfl (Below.refl _ _)
    · have h33 := hn 33 (by decide +kernel)
      simp only [koF] at h33
      simp only [h33] at hK ⊢
      refine wpOp_on rfl (by rfl) (wp_val (w' := W) (v := .pointer (some ⟨E, 80, none⟩)) (by go_simp) ?_)
      exact hK _ _ rfl (Below.refl _ _)
    · have h33 := hn 33 (by decide +kernel)
      have h34 := hn 34 (by decide +kernel)
      simp only [koF] at h33 h34
      simp only [h33, h34] at hK ⊢
      refine wpOp_on rfl (by rfl) (wp_val (run_loadH (.tmp 49) rfl E 80 rfl l0 (HS.out _ _ hB.st).2.2.2 HLL.out) ?_)
      exact hK _ _ rfl (Below.refl _ _)
    · have h33 := hn 33 (by decide +kernel)
      simp only [koF] at h33
      simp only [h33] at hK ⊢
      refine wpOp_on rfl (by rfl) (wp_val (w' := W) (v := .int .u64 (n : Int)) (by go_simp) ?_)
      exact hK _ _ rfl (Below.refl _ _)
    · have h33 := hn 33 (by decide +kernel)
      have h35 := hn 35 (by decide +kernel)
      have h36 := hn 36 (by decide +kernel)
      simp only [koF] at h33 h35 h36
      simp only [h33, h35, h36] at hK ⊢
      refine wpOp_on rfl (by rfl) ?_
      go_simp
      go_at_call 14
      refine (HKS.out W hB.below).mono ?_
      rintro e W' ⟨rfl, hb⟩
      exact hK _ _ rfl hb
    · have h33 := hn 33 (by decide +kernel)
      simp only [koF] at h33
      simp only [h33] at hK ⊢
      refine wpOp_on rfl (by rfl) (wp_val (run_loadH (.tmp 6) rfl F 0 rfl m0 (range_whole hB.ss) HML.out) ?_)
      exact hK _ _ rfl (Below.refl _ _)
    · have h33 := hn 33 (by decide +kernel)
      have h37 := hn 37 (by decide +kernel)
      have h38 := hn 38 (by decide +kernel)
      simp only [koF] at h33 h37 h38
      simp only [h33, h37, h38] at hK ⊢
      refine wpOp_on rfl (by rfl) (wp_val (run_eqlH _ (.tmp 52) (.tmp 53) rfl m0 m0 HML.out HML.out rfl rfl true (by simp) W) ?_)
      exact hK _ _ rfl (Below.refl _ _)
    · have h33 := hn 33 (by decide +kernel)
      have h39 := hn 39 (by decide +kernel)
      simp only [koF] at h33 h39
      simp only [h33, h39] at hK ⊢
      refine wpOp_plain rfl rfl (wp_val (w' := W) (v := .bool true) (by go_simp) ?_)
      exact hK _ _ rfl (Below.refl _ _)
    · have h40 := hn 40 (by decide +kernel)
      simp only [koF] at h40
      simp only [h40] at hK ⊢
      refine wpOp_plain rfl rfl (wp_val (w' := W) (v := .bool true) (by go_simp) ?_)
      exact hK _ _ rfl (Below.refl _ _)
  · intro vals W hB hF
    have h0 := hF 0 (by omega)
    have h1 := hF 1 (by omega)
    have h2 := hF 2 (by omega)
    have h3 := hF 3 (by omega)
    have h4 := hF 4 (by omega)
    have h5 := hF 5 (by omega)
    have h6 := hF 6 (by omega)
    have h7 := hF 7 (by omega)
    have h8 := hF 8 (by omega)
    have h9 := hF 9 (by omega)
    have h10 := hF 10 (by omega)
    have h11 := hF 11 (by omega)
    have h12 := hF 12 (by omega)
    have h13 := hF 13 (by omega)
    have h14 := hF 14 (by omega)
    have h15 := hF 15 (by omega)
    have h16 := hF 16 (by omega)
    have h17 := hF 17 (by omega)
    have h18 := hF 18 (by omega)
    have h19 := hF 19 (by omega)
    have h20 := hF 20 (by omega)
    have h21 := hF 21 (by omega)
    have h22 := hF 22 (by omega)
    have h23 := hF 23 (by omega)
    have h24 := hF 24 (by omega)
    have h25 := hF 25 (by omega)
    have h26 := hF 26 (by omega)
    have h27 := hF 27 (by omega)
    have h28 := hF 28 (by omega)
    have h29 := hF 29 (by omega)
    have h30 := hF 30 (by omega)
    have h31 := hF 31 (by omega)
    have h32 := hF 32 (by omega)
    have h33 := hF 33 (by omega)
    have h34 := hF 34 (by omega)
    have h35 := hF 35 (by omega)
    have h36 := hF 36 (by omega)
    have h37 := hF 37 (by omega)
    have h38 := hF 38 (by omega)
    have h39 := hF 39 (by omega)
    have h40 := hF 40 (by omega)
    have h41 := hF 41 (by omega)
    simp only [koF] at h0 h1 h2 h3 h4 h5 h6 h7 h8 h9 h10 h11 h12 h13 h14 h15 h16 h17 h18 h19 h20 h21 h22 h23 h24 h25 h26 h27 h28 h29 h30 h31 h32 h33 h34 h35 h36 h37 h38 h39 h40 h41
    simp only [frm_cons, frm_nil, List.set_cons_succ, List.set_cons_zero, Nat.reduceAdd, h0, h1, h2, h3, h4, h5, h6, h7, h8, h9, h10, h11, h12, h13, h14, h15, h16, h17, h18, h19, h20, h21, h22, h23, h24, h25, h26, h27, h28, h29, h30, h31, h32, h33, h34, h35, h36, h37, h38, h39, h40, h41]
    refine wpUpto_done (by decide +kernel) ?_ _
    have HE := hid hB.below
    clear hB hF h0 h1 h2 h3 h4 h5 h6 h7 h8 h9 h10 h11 h12 h13 h14 h15 h16 h17 h18 h19 h20 h21 h22 h23 h24 h25 h26 h27 h28 h29 h30 h31 h32 h33 h34 h35 h36 h37 h38 h39 h40 h41 K6
    go_simp
    go_wp2
    go_ret
    exact ⟨rfl, HE.out⟩
end Go.Proofs.YtjfpdbhjbleffaaDoor
