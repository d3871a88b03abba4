/-
  TicketOrders of layer 13: which orders are right, which fit, and which leaves they make.
-/
import Derived.Test.YtfmbpdjcoopaeaaDoorH2
import Derived.Test.YtfmbpdjcoopaeaaDoorMD
import Derived.Test.YtfmbpdjcoopaeaaDoorM6
import Derived.Test.YtfmbpdjcoopaeaaDoorMA
import Derived.Test.YtfmbpdjcoopaeaaDoorMH
namespace Go.Proofs.YtfmbpdjcoopaeaaDoor
open Go.RowKit

/-- What holds between the calls. -/
structure ToW (w : World) (O R : List Value) (D : Nat) (od : Ord13) (AI A' : Option Addr) (cI c' : Nat) (V : World) : Prop where
  bl : Below w.heap.size w V
  o : At V w.heap.size O.toArray 93
  r : At V D R.toArray 97
  i : OrI V V.heap.size od AI A' cI c'
theorem ToW.new {w V V' : World} {O R : List Value} {D : Nat} {od : Ord13} {AI A' : Option Addr} {cI c' : Nat} (k : ToW w O R D od AI A' cI c' V) (hb : Below V.heap.size V V') : ToW w O R D od AI A' cI c' V' := ⟨k.bl.trans (hb.mono k.bl.size), k.o.new_ hb, k.r.new_ hb, k.i.later hb⟩
/-- What the region yields. -/
def toF (O R : List Value) (b : Nat) (rb fb : Bool) : Nat → Value
  | 0 => .agg O.toArray
  | 1 => .bool rb
  | 2 => .bool rb
  | 3 => .bool false
  | 4 => .bool false
  | 5 => .agg O.toArray
  | 6 => .int .u64 (b : Int)
  | 7 => .bool fb
  | 8 => .agg R.toArray
  | 9 => .int .u64 (b : Int)
  | 10 => .bool fb
  | 11 => .bool false
  | _ => .bool false
theorem ro_stored (w : World) (T : List Value) : At ((w.alloc (.cells (ordV ord0 none none 0 0).toArray 97)).setRow w.heap.size T.toArray) w.heap.size T.toArray 97 := setRow_heap _ _ (ordV ord0 none none 0 0).toArray _ _ _ (At.new _ _ _)
theorem ro_stored_below (w : World) (T : List Value) : Below w.heap.size w ((w.alloc (.cells (ordV ord0 none none 0 0).toArray 97)).setRow w.heap.size T.toArray) := below_setRow ((Below.refl _ _).alloc (Nat.le_refl _) _) (Nat.le_refl _) _
set_option maxRecDepth 100000 in
set_option maxHeartbeats 8000000 in
theorem ticketOrders_law {w : World} (od : Ord13) (b : Nat) (AI AS : Option Addr) (cI cS : Nat) (hk : okO od) (hm : OrI w w.heap.size od AI AS cI cS) (hT : Tabs w) (hR : Tabr w) (hI : Tab w 0 IV.l) :
    Calls Tryd.prog 9 #[.agg (ordV od AI AS cI cS).toArray, .int .u64 (b : Int)] w fun r w' => r = .returned (.bool true) ∧ Below w.heap.size w w' := by
  obtain ⟨O, hO⟩ : ∃ O, O = ordV od AI AS cI cS := ⟨_, rfl⟩
  have HOL := hid (show O.length = 4 by rw [hO]; rfl)
  have K0 := hid (show Below w.heap.size w (w.alloc (.cells O.toArray 93)) ∧ At (w.alloc (.cells O.toArray 93)) w.heap.size O.toArray 93 from ⟨(Below.refl _ _).alloc (Nat.le_refl _) _, At.new _ _ _⟩)
  have HAL := hid (fun (V : World) (hb : Below w.heap.size w V) => alive13_any V (hT.below hb))
  have HLG := hid (fun (V : World) => large13_any od AI AS cI cS V)
  rw [← hO] at HLG ⊢
  cases hlg : lgO od with
  | true =>
    rw [hlg] at HLG
    clear hO hk hm hT hR hI hlg
    go_enter Tryd.func9, Tryd.ntmps9
    go_wp2_with (first
      | (go_at_call 48; refine (HAL.out _ K0.out.1).mono ?_; rintro r1 w1 ⟨rfl, h1⟩; have K1 := hid (And.intro (K0.out.1.trans (h1.mono K0.out.1.size)) (K0.out.2.new_ h1)); clear h1)
      | (refine wpList_valW (by rfl) (run_loadPO (.tmp 2) rfl w.heap.size 0 rfl O (range_all K1.out.2) HOL.out) ?_; try simp only [Act.put, List.setIfInBounds_toArray, List.set_cons_succ, List.set_cons_zero])
      | (go_at_call 49; refine (HLG.out w1).mono ?_; rintro r2 w2 ⟨rfl, h2⟩; have K2 := hid (K1.out.1.trans (h2.mono K1.out.1.size)); clear h2))
    go_ret
    exact ⟨rfl, K2.out⟩
  | false =>
    obtain ⟨hi3, hs3⟩ := lgO_le hlg
    rw [hlg] at HLG
    have HOR := hid (fun (V : World) (hb : Below w.heap.size w V) => show Calls Tryd.prog 50 #[.agg O.toArray] V (fun r w' => ∃ A' c', r = .returned (.agg (ordV od AI A' cI c').toArray) ∧ OrI w' w'.heap.size od AI A' cI c' ∧ Below V.heap.size V w') from by
      rw [hO]
      refine (order13_any od AI AS cI cS V hk (hm.later hb) (by omega)).mono ?_
      rintro r w' ⟨A', c', rfl, ha, hb2⟩
      exact ⟨A', c', rfl, OrI.of_as ((hm.later (hb.trans (hb2.mono hb.size))).i) hm.ci ha, hb2⟩)
    obtain ⟨rb, hrb⟩ : ∃ x, x = rgtO od := ⟨_, rfl⟩
    obtain ⟨fb, hfb⟩ : ∃ x, x = fitO od b := ⟨_, rfl⟩
    have HRR := hid (fun (A' : Option Addr) (c' : Nat) (V : World) (hx : OrI V V.heap.size od AI A' cI c') => show Calls Tryd.prog 51 #[.agg (ordV od AI A' cI c').toArray] V (fun r w' => r = .returned (.bool rb) ∧ Below V.heap.size V w') from by
      rw [hrb]; exact rgtR13_any od AI A' cI c' V hk hx (by omega))
    have HRF := hid (fun (A' : Option Addr) (c' : Nat) (V : World) (hx : OrI V V.heap.size od AI A' cI c') => show Calls Tryd.prog 55 #[.agg (ordV od AI A' cI c').toArray, .int .u64 (b : Int)] V (fun r w' => r = .returned (.bool fb) ∧ Below V.heap.size V w') from by
      rw [hfb]; exact fitR13_any od AI A' cI c' b V hk hx (by omega) (by omega))
    have HPR := hid (fun (V : World) (hb : Below w.heap.size w V) => show Calls Tryd.prog 53 #[.agg O.toArray] V (fun r w' => r = .returned (.bool rb) ∧ Below V.heap.size V w') from by
      rw [hrb, hO]; exact rgtC_any w od AI AS cI cS V hb hk (hm.later hb) (by omega))
    have HPF := hid (fun (V : World) (hb : Below w.heap.size w V) => show Calls Tryd.prog 54 #[.agg O.toArray, .int .u64 (b : Int)] V (fun r w' => r = .returned (.bool fb) ∧ Below V.heap.size V w') from by
      rw [hfb, hO]; exact pfits13_any rgtC_any od b AI AS cI cS V hk (hm.later hb) (by omega) (by omega))
    have HTL := hid (fun (A' : Option Addr) (c' : Nat) => ordV_length od AI A' cI c')
    have HTA := hid (fun (A' : Option Addr) (c' : Nat) => ordV_all od AI A' cI c')
    have HAO := hid (fun (o : Oper) (a : Go.Act) (W : World) (h : o.op = .alloc 97) => run_alloc_of (o := o) (a := a) (W := W) _ h (ordV ord0 none none 0 0).toArray zeroO13)
    have HKD := hid (fun (V : World) (x : At V w.heap.size O.toArray 93) => show V.cell? ⟨w.heap.size, 0, none⟩ = some (.int .i64 od.kind) from by
      rw [hO] at x
      exact (ordV_cells x).1)
    have nf : (fb != fb) = false := by simp
    have e2 : errV 2 = .iface 49 (.int .i64 2) := errV_pos (by decide)
    by_cases hgd : rb = true ∧ od.kind ≠ 3
    · obtain ⟨hrt, hk3⟩ := hgd
      have hro : rgtO od = true := hrb.symm.trans hrt
      have HLV := hid (fun (V : World) (hb : Below w.heap.size w V) => show Calls Tryd.prog 52 #[.agg O.toArray] V (fun r w' => ∃ A c, r = .returned (.tuple #[.slice A od.idx.length c, .nilIface]) ∧ Rd w' w'.heap.size A (ubs (lvN od od.idx.length)) ∧ Below V.heap.size V w') from by
        rw [hO]; exact pleaves13_ok od AI AS cI cS V hk (hm.later hb) (by omega) hro hk3 (hT.below hb))
      have hkd : (od.kind = 1 ∧ od.sl.length = od.idx.length) ∨ od.kind = 2 := by
        rcases rgtO_cases hro with ⟨h, -⟩ | ⟨h, -⟩ | ⟨h, -, -, -, h2⟩
        · exact absurd h hk3
        · exact .inr h
        · exact .inl ⟨h, h2⟩
      have HRL := hid (fun (A' : Option Addr) (c' : Nat) (V : World) (hb : Below w.heap.size w V) (hx : OrI V V.heap.size od AI A' cI c') => leavesR13_any od AI A' cI c' V hk hx hkd (by omega) (hR.below hb) (Tab.below (x := IV.a) (xs := [IV.b, IV.c, IV.d, IV.e, IV.f, IV.g, IV.h]) hI hb))
      have HHS := hid (fun (V : World) (A9 B9 : Option Addr) (c9 d9 : Nat) (x : Rd V V.heap.size A9 (ubs (lvN od od.idx.length))) (y : Rd V V.heap.size B9 (ubs (lvN od od.idx.length))) => show Calls Tryd.prog 46 #[.slice A9 od.idx.length c9, .slice B9 od.idx.length d9] V (fun r w' => r = .returned (.bool true) ∧ Below V.heap.size V w') from by
        have := hashes_any od.idx.length _ _ A9 B9 c9 d9 V (lvN_length od _) (lvN_length od _) x y (by omega)
        rwa [show decide (lvN od od.idx.length = lvN od od.idx.length) = true from decide_eq_true rfl] at this)
      have g3 : decide (od.kind = 3) = false := by simp [hk3]
      have g3b : (od.kind == 3) = false := by simp [hk3]
      subst hrt
      generalize lvN od od.idx.length = lv at HLV HRL HHS
      generalize od.idx.length = n at HLV HRL HHS
      obtain ⟨kd, hkde⟩ : ∃ k, k = od.kind := ⟨_, rfl⟩
      rw [← hkde] at g3 g3b HKD
      clear hO hk hm hT hR hI hlg hi3 hs3 hrb hfb hro hk3 hkd hkde e2
      go_enter Tryd.func9, Tryd.ntmps9
      go_upto_region 8 with (first
        | (go_at_call 48; refine (HAL.out _ K0.out.1).mono ?_; rintro r1 w1 ⟨rfl, h1⟩; have K1 := hid (And.intro (K0.out.1.trans (h1.mono K0.out.1.size)) (K0.out.2.new_ h1)); clear h1)
        | (refine wpList_valW (by rfl) (run_loadPO (.tmp 2) rfl w.heap.size 0 rfl O (range_all K1.out.2) HOL.out) ?_; try simp only [Act.put, List.setIfInBounds_toArray, List.set_cons_succ, List.set_cons_zero])
        | (go_at_call 49; refine (HLG.out w1).mono ?_; rintro r2 w2 ⟨rfl, h2⟩; have K2 := hid (And.intro (K1.out.1.trans (h2.mono K1.out.1.size)) (K1.out.2.new_ h2)); clear h2)
        | (refine wpList_valW (by rfl) (run_loadPO (.tmp 2) rfl w.heap.size 0 rfl O (range_all K2.out.2) HOL.out) ?_; try simp only [Act.put, List.setIfInBounds_toArray, List.set_cons_succ, List.set_cons_zero])
        | (go_at_call 50; refine (HOR.out w2 K2.out.1).mono ?_; rintro r3 w3 ⟨A', c', rfl, hi3, h3⟩; have K3 := hid (And.intro (K2.out.1.trans (h3.mono K2.out.1.size)) (And.intro (K2.out.2.new_ h3) hi3)); clear h3 hi3)
        | (refine Great.wpList_allocTo rfl _ rfl _ _ (HAO.out _ _ _ rfl) ?_)
        | (refine wpList_store_row rfl _ (.tmp 5) (.tmp 14) rfl w3.heap.size (ordV od AI A' cI c').toArray rfl rfl 97 (ordV ord0 none none 0 0).toArray (heap_alloc_new _ _) (sizeO13_of (HTL.out A' c')) ((show (ordV ord0 none none 0 0).length = 4 from rfl).trans (HTL.out A' c').symm) (HTA.out A' c') ?_; have K4 := hid (show ToW w O (ordV od AI A' cI c') w3.heap.size od AI A' cI c' ((w3.alloc (.cells (ordV ord0 none none 0 0).toArray 97)).setRow w3.heap.size (ordV od AI A' cI c').toArray) from ⟨K3.out.1.trans ((ro_stored_below w3 _).mono K3.out.1.size), K3.out.2.1.new_ (ro_stored_below w3 _), ro_stored w3 _, K3.out.2.2.later (ro_stored_below w3 _)⟩); generalize ((w3.alloc (.cells (ordV ord0 none none 0 0).toArray 97)).setRow w3.heap.size (ordV od AI A' cI c').toArray) = w4 at K4 ⊢; generalize w3.heap.size = D at K4 ⊢)
        | (refine wpList_valW (by rfl) (run_loadO13 (.tmp 5) rfl D 0 rfl (ordV od AI A' cI c') (range_all K4.out.r) (HTL.out A' c')) ?_; try simp only [Act.put, List.setIfInBounds_toArray, List.set_cons_succ, List.set_cons_zero])
        | (go_at_call 51; refine (HRR.out A' c' w4 K4.out.i).mono ?_; rintro r4 w41 ⟨rfl, h4⟩; have K41 := hid (K4.out.new h4); clear h4)
        | (refine wpList_valW (by rfl) (run_loadPO (.tmp 2) rfl w.heap.size 0 rfl O (range_all K41.out.o) HOL.out) ?_; try simp only [Act.put, List.setIfInBounds_toArray, List.set_cons_succ, List.set_cons_zero])
        | (go_at_call 52; refine (HLV.out w41 K41.out.bl).mono ?_; rintro r5 w5 ⟨A5, c5, rfl, hl5, h5⟩; have K5 := hid (K41.out.new h5); have L5 := hid hl5; clear h5 hl5))
      have K6 := hid (K5.out.new (Below.refl w5.heap.size w5).drew)
      have LV5 := hid (show ∀ V, Below w5.heap.size w5 V → Rd V V.heap.size A5 (ubs lv) from fun V hb => (Rd.below L5.out hb).mono hb.size)
      clear K0 K1 K2 K3 K4 K41 K5 L5 HAL HLG HOR HLV HRR
      refine wp_region_facts 13 13 [22, 23, 24, 25, 26, 27, 28, 29, 30, 31, 32, 33, 34] (fun k v _ => v = toF O (ordV od AI A' cI c') b true fb k) (fun V => ToW w O (ordV od AI A' cI c') D od AI A' cI c' V ∧ Rd V V.heap.size A5 (ubs lv)) (by kernel_rfl) (by kernel_rfl)
        (fun W W' h hb => ⟨h.1.new hb, (Rd.below h.2 hb).mono hb.size⟩) (fun _ _ _ _ h _ => h) (⟨K6.out, LV5.out _ (Below.refl _ _).drew⟩) ?_ ?_
      · intro i hi vals W K hB hn hK
        simp only [frm_cons, frm_nil, List.set_cons_succ, List.set_cons_zero, Nat.reduceAdd] at hK ⊢
        rcases (by omega : i = 0 ∨ i = 1 ∨ i = 2 ∨ i = 3 ∨ i = 4 ∨ i = 5 ∨ i = 6 ∨ i = 7 ∨ i = 8 ∨ i = 9 ∨ i = 10 ∨ i = 11 ∨ i = 12) with rfl | rfl | rfl | rfl | rfl | rfl | rfl | rfl | rfl | rfl | rfl | rfl | rfl
        · refine wpOp_plain rfl rfl (wp_val (w' := W) (v := .agg O.toArray) (run_loadPO (.tmp 2) rfl w.heap.size 0 rfl O (range_all hB.1.o) HOL.out) ?_)
          exact hK _ _ rfl (Below.refl _ _)
        · have h0 := hn 0 (by decide +kernel)
          simp only [toF] at h0
          simp only [h0] at hK ⊢
          refine wpOp_plain rfl rfl ?_
          go_simp
          go_at_call 53
          refine (HPR.out W hB.1.bl).mono ?_
          rintro e1 W' ⟨rfl, hb⟩
          exact hK _ _ rfl hb
        · refine wpOp_plain rfl rfl (wp_val (w' := W) (v := .bool true) (by go_simp) ?_)
          exact hK _ _ rfl (Below.refl _ _)
        · have h1 := hn 1 (by decide +kernel)
          have h2 := hn 2 (by decide +kernel)
          simp only [toF] at h1 h2
          simp only [h1, h2] at hK ⊢
          refine wpOp_plain rfl rfl (wp_val (w' := W) (v := .bool false) (by go_simp) ?_)
          exact hK _ _ rfl (Below.refl _ _)
        · have h3 := hn 3 (by decide +kernel)
          simp only [toF] at h3
          simp only [h3] at hK ⊢
          refine wpOp_plain rfl rfl (wp_val (w' := W) (v := .bool false) (by go_simp) ?_)
          exact hK _ _ rfl (Below.refl _ _)
        · have h4 := hn 4 (by decide +kernel)
          simp only [toF] at h4
          simp only [h4] at hK ⊢
          refine wpOp_on rfl (by rfl) (wp_val (w' := W) (v := .agg O.toArray) (run_loadPO (.tmp 2) rfl w.heap.size 0 rfl O (range_all hB.1.o) HOL.out) ?_)
          exact hK _ _ rfl (Below.refl _ _)
        · have h4 := hn 4 (by decide +kernel)
          simp only [toF] at h4
          simp only [h4] at hK ⊢
          refine wpOp_on rfl (by rfl) (wp_val (w' := W) (v := .int .u64 (b : Int)) (by go_simp) ?_)
          exact hK _ _ rfl (Below.refl _ _)
        · have h4 := hn 4 (by decide +kernel)
          have h5 := hn 5 (by decide +kernel)
          have h6 := hn 6 (by decide +kernel)
          simp only [toF] at h4 h5 h6
          simp only [h4, h5, h6] at hK ⊢
          refine wpOp_on rfl (by rfl) ?_
          go_simp
          go_at_call 54
          refine (HPF.out W hB.1.bl).mono ?_
          rintro e1 W' ⟨rfl, hb⟩
          exact hK _ _ rfl hb
        · have h4 := hn 4 (by decide +kernel)
          simp only [toF] at h4
          simp only [h4] at hK ⊢
          refine wpOp_on rfl (by rfl) (wp_val (w' := W) (v := .agg (ordV od AI A' cI c').toArray) (run_loadO13 (.tmp 5) rfl D 0 rfl (ordV od AI A' cI c') (range_all hB.1.r) (HTL.out A' c')) ?_)
          exact hK _ _ rfl (Below.refl _ _)
        · have h4 := hn 4 (by decide +kernel)
          simp only [toF] at h4
          simp only [h4] at hK ⊢
          refine wpOp_on rfl (by rfl) (wp_val (w' := W) (v := .int .u64 (b : Int)) (by go_simp) ?_)
          exact hK _ _ rfl (Below.refl _ _)
        · have h4 := hn 4 (by decide +kernel)
          have h8 := hn 8 (by decide +kernel)
          have h9 := hn 9 (by decide +kernel)
          simp only [toF] at h4 h8 h9
          simp only [h4, h8, h9] at hK ⊢
          refine wpOp_on rfl (by rfl) ?_
          go_simp
          go_at_call 55
          refine (HRF.out A' c' W hB.1.i).mono ?_
          rintro e1 W' ⟨rfl, hb⟩
          exact hK _ _ rfl hb
        · have h4 := hn 4 (by decide +kernel)
          have h7 := hn 7 (by decide +kernel)
          have h10 := hn 10 (by decide +kernel)
          simp only [toF] at h4 h7 h10
          simp only [h4, h7, h10] at hK ⊢
          refine wpOp_on rfl (by rfl) (wp_val (w' := W) (v := .bool false) (by go_simp) ?_)
          exact hK _ _ rfl (Below.refl _ _)
        · have h4 := hn 4 (by decide +kernel)
          have h11 := hn 11 (by decide +kernel)
          simp only [toF] at h4 h11
          simp only [h4, h11] at hK ⊢
          refine wpOp_plain rfl rfl (wp_val (w' := W) (v := .bool false) (by go_simp) ?_)
          exact hK _ _ rfl (Below.refl _ _)
      · intro vals W hB hF
        have h12 := hF 12 (by omega)
        simp only [toF] at h12
        simp only [frm_cons, frm_nil, List.set_cons_succ, List.set_cons_zero, Nat.reduceAdd, h12]
        refine wpUpto_done (by decide +kernel) ?_ _
        have K7 := hid hB.1
        have L7 := hid hB.2
        clear hB hF h12
        have c0 := HKD.out _ K7.out.o
        go_simp
        go_wp2_with (first
          | (refine wpList_valW (by rfl) (run_loadO13 (.tmp 5) rfl D 0 rfl (ordV od AI A' cI c') (range_all K7.out.r) (HTL.out A' c')) ?_; try simp only [Act.put, List.setIfInBounds_toArray, List.set_cons_succ, List.set_cons_zero])
          | (go_at_call 56; refine (HRL.out A' c' W K7.out.bl K7.out.i).mono ?_; rintro r8 w8 ⟨A8, c8, rfl, hl8, h8⟩; have K8 := hid (K7.out.new h8); have L8 := hid hl8; have L58 := hid (show Rd w8 w8.heap.size A5 (ubs lv) from (Rd.below L7.out h8).mono h8.size); clear h8 hl8)
          | (go_at_call 46; refine (HHS.out w8 A5 A8 c5 c8 L58.out L8.out).mono ?_; rintro r9 w9 ⟨rfl, h9⟩; have K9 := hid (K8.out.new h9); clear h9))
        go_ret
        exact ⟨rfl, K9.out.bl⟩
    · have HLV := hid (fun (V : World) (hb : Below w.heap.size w V) => show Calls Tryd.prog 52 #[.agg O.toArray] V (fun r w' => ∃ A c, r = .returned (.tuple #[.slice A 0 c, .iface 49 (.int .i64 2)]) ∧ Rd w' w'.heap.size A (ubs []) ∧ Below V.heap.size V w') from by
        rw [hO, ← e2]
        refine (pleaves13_no od AI AS cI cS V hk (hm.later hb) (by omega) ?_).mono ?_
        · rw [← hrb]
          cases hq : rb with
          | false => exact .inl rfl
          | true => exact .inr (Decidable.byContradiction fun h => hgd ⟨hq, h⟩)
        · rintro r w' ⟨rfl, hb2⟩
          exact ⟨none, 0, rfl, Rd.nil _ _ _, hb2⟩)
      have HIS := hid (fun V => show Calls Tryd.prog 22 #[.iface 49 (.int .i64 2), .int .i64 2] V (fun e w' => e = .returned (.bool true) ∧ V = w') from by
        have := eis_any 2 2 V
        rw [e2] at this
        exact this)
      obtain ⟨kd, hkde⟩ : ∃ k, k = od.kind := ⟨_, rfl⟩
      rw [← hkde] at HKD hgd
      cases rb with
      | false =>
        have nb : (false != false) = false := rfl
        clear hO hk hm hT hR hI hlg hi3 hs3 hrb hfb hkde e2 hgd
        go_enter Tryd.func9, Tryd.ntmps9
        go_upto_region 8 with (first
          | (go_at_call 48; refine (HAL.out _ K0.out.1).mono ?_; rintro r1 w1 ⟨rfl, h1⟩; have K1 := hid (And.intro (K0.out.1.trans (h1.mono K0.out.1.size)) (K0.out.2.new_ h1)); clear h1)
          | (refine wpList_valW (by rfl) (run_loadPO (.tmp 2) rfl w.heap.size 0 rfl O (range_all K1.out.2) HOL.out) ?_; try simp only [Act.put, List.setIfInBounds_toArray, List.set_cons_succ, List.set_cons_zero])
          | (go_at_call 49; refine (HLG.out w1).mono ?_; rintro r2 w2 ⟨rfl, h2⟩; have K2 := hid (And.intro (K1.out.1.trans (h2.mono K1.out.1.size)) (K1.out.2.new_ h2)); clear h2)
          | (refine wpList_valW (by rfl) (run_loadPO (.tmp 2) rfl w.heap.size 0 rfl O (range_all K2.out.2) HOL.out) ?_; try simp only [Act.put, List.setIfInBounds_toArray, List.set_cons_succ, List.set_cons_zero])
          | (go_at_call 50; refine (HOR.out w2 K2.out.1).mono ?_; rintro r3 w3 ⟨A', c', rfl, hi3, h3⟩; have K3 := hid (And.intro (K2.out.1.trans (h3.mono K2.out.1.size)) (And.intro (K2.out.2.new_ h3) hi3)); clear h3 hi3)
          | (refine Great.wpList_allocTo rfl _ rfl _ _ (HAO.out _ _ _ rfl) ?_)
          | (refine wpList_store_row rfl _ (.tmp 5) (.tmp 14) rfl w3.heap.size (ordV od AI A' cI c').toArray rfl rfl 97 (ordV ord0 none none 0 0).toArray (heap_alloc_new _ _) (sizeO13_of (HTL.out A' c')) ((show (ordV ord0 none none 0 0).length = 4 from rfl).trans (HTL.out A' c').symm) (HTA.out A' c') ?_; have K4 := hid (show ToW w O (ordV od AI A' cI c') w3.heap.size od AI A' cI c' ((w3.alloc (.cells (ordV ord0 none none 0 0).toArray 97)).setRow w3.heap.size (ordV od AI A' cI c').toArray) from ⟨K3.out.1.trans ((ro_stored_below w3 _).mono K3.out.1.size), K3.out.2.1.new_ (ro_stored_below w3 _), ro_stored w3 _, K3.out.2.2.later (ro_stored_below w3 _)⟩); generalize ((w3.alloc (.cells (ordV ord0 none none 0 0).toArray 97)).setRow w3.heap.size (ordV od AI A' cI c').toArray) = w4 at K4 ⊢; generalize w3.heap.size = D at K4 ⊢)
          | (refine wpList_valW (by rfl) (run_loadO13 (.tmp 5) rfl D 0 rfl (ordV od AI A' cI c') (range_all K4.out.r) (HTL.out A' c')) ?_; try simp only [Act.put, List.setIfInBounds_toArray, List.set_cons_succ, List.set_cons_zero])
          | (go_at_call 51; refine (HRR.out A' c' w4 K4.out.i).mono ?_; rintro r4 w41 ⟨rfl, h4⟩; have K41 := hid (K4.out.new h4); clear h4)
          | (refine wpList_valW (by rfl) (run_loadPO (.tmp 2) rfl w.heap.size 0 rfl O (range_all K41.out.o) HOL.out) ?_; try simp only [Act.put, List.setIfInBounds_toArray, List.set_cons_succ, List.set_cons_zero])
          | (go_at_call 52; refine (HLV.out w41 K41.out.bl).mono ?_; rintro r5 w5 ⟨A5, c5, rfl, hl5, h5⟩; have K5 := hid (K41.out.new h5); have L5 := hid hl5; clear h5 hl5))
        have K6 := hid (K5.out.new (Below.refl w5.heap.size w5).drew)
        clear K0 K1 K2 K3 K4 K41 K5 L5 HAL HLG HOR HLV HRR
        refine wp_region_facts 13 13 [22, 23, 24, 25, 26, 27, 28, 29, 30, 31, 32, 33, 34] (fun k v _ => v = toF O (ordV od AI A' cI c') b false fb k) (ToW w O (ordV od AI A' cI c') D od AI A' cI c') (by kernel_rfl) (by kernel_rfl)
          (fun W W' h hb => h.new hb) (fun _ _ _ _ h _ => h) (K6.out) ?_ ?_
        · intro i hi vals W K hB hn hK
          simp only [frm_cons, frm_nil, List.set_cons_succ, List.set_cons_zero, Nat.reduceAdd] at hK ⊢
          rcases (by omega : i = 0 ∨ i = 1 ∨ i = 2 ∨ i = 3 ∨ i = 4 ∨ i = 5 ∨ i = 6 ∨ i = 7 ∨ i = 8 ∨ i = 9 ∨ i = 10 ∨ i = 11 ∨ i = 12) with rfl | rfl | rfl | rfl | rfl | rfl | rfl | rfl | rfl | rfl | rfl | rfl | rfl
          · refine wpOp_plain rfl rfl (wp_val (w' := W) (v := .agg O.toArray) (run_loadPO (.tmp 2) rfl w.heap.size 0 rfl O (range_all hB.o) HOL.out) ?_)
            exact hK _ _ rfl (Below.refl _ _)
          · have h0 := hn 0 (by decide +kernel)
            simp only [toF] at h0
            simp only [h0] at hK ⊢
            refine wpOp_plain rfl rfl ?_
            go_simp
            go_at_call 53
            refine (HPR.out W hB.bl).mono ?_
            rintro e1 W' ⟨rfl, hb⟩
            exact hK _ _ rfl hb
          · refine wpOp_plain rfl rfl (wp_val (w' := W) (v := .bool false) (by go_simp) ?_)
            exact hK _ _ rfl (Below.refl _ _)
          · have h1 := hn 1 (by decide +kernel)
            have h2 := hn 2 (by decide +kernel)
            simp only [toF] at h1 h2
            simp only [h1, h2] at hK ⊢
            refine wpOp_plain rfl rfl (wp_val (w' := W) (v := .bool false) (by go_simp) ?_)
            exact hK _ _ rfl (Below.refl _ _)
          · have h3 := hn 3 (by decide +kernel)
            simp only [toF] at h3
            simp only [h3] at hK ⊢
            refine wpOp_plain rfl rfl (wp_val (w' := W) (v := .bool false) (by go_simp) ?_)
            exact hK _ _ rfl (Below.refl _ _)
          · have h4 := hn 4 (by decide +kernel)
            simp only [toF] at h4
            simp only [h4] at hK ⊢
            refine wpOp_on rfl (by rfl) (wp_val (w' := W) (v := .agg O.toArray) (run_loadPO (.tmp 2) rfl w.heap.size 0 rfl O (range_all hB.o) HOL.out) ?_)
            exact hK _ _ rfl (Below.refl _ _)
          · have h4 := hn 4 (by decide +kernel)
            simp only [toF] at h4
            simp only [h4] at hK ⊢
            refine wpOp_on rfl (by rfl) (wp_val (w' := W) (v := .int .u64 (b : Int)) (by go_simp) ?_)
            exact hK _ _ rfl (Below.refl _ _)
          · have h4 := hn 4 (by decide +kernel)
            have h5 := hn 5 (by decide +kernel)
            have h6 := hn 6 (by decide +kernel)
            simp only [toF] at h4 h5 h6
            simp only [h4, h5, h6] at hK ⊢
            refine wpOp_on rfl (by rfl) ?_
            go_simp
            go_at_call 54
            refine (HPF.out W hB.bl).mono ?_
            rintro e1 W' ⟨rfl, hb⟩
            exact hK _ _ rfl hb
          · have h4 := hn 4 (by decide +kernel)
            simp only [toF] at h4
            simp only [h4] at hK ⊢
            refine wpOp_on rfl (by rfl) (wp_val (w' := W) (v := .agg (ordV od AI A' cI c').toArray) (run_loadO13 (.tmp 5) rfl D 0 rfl (ordV od AI A' cI c') (range_all hB.r) (HTL.out A' c')) ?_)
            exact hK _ _ rfl (Below.refl _ _)
          · have h4 := hn 4 (by decide +kernel)
            simp only [toF] at h4
            simp only [h4] at hK ⊢
            refine wpOp_on rfl (by rfl) (wp_val (w' := W) (v := .int .u64 (b : Int)) (by go_simp) ?_)
            exact hK _ _ rfl (Below.refl _ _)
          · have h4 := hn 4 (by decide +kernel)
            have h8 := hn 8 (by decide +kernel)
            have h9 := hn 9 (by decide +kernel)
            simp only [toF] at h4 h8 h9
            simp only [h4, h8, h9] at hK ⊢
            refine wpOp_on rfl (by rfl) ?_
            go_simp
            go_at_call 55
            refine (HRF.out A' c' W hB.i).mono ?_
            rintro e1 W' ⟨rfl, hb⟩
            exact hK _ _ rfl hb
          · have h4 := hn 4 (by decide +kernel)
            have h7 := hn 7 (by decide +kernel)
            have h10 := hn 10 (by decide +kernel)
            simp only [toF] at h4 h7 h10
            simp only [h4, h7, h10] at hK ⊢
            refine wpOp_on rfl (by rfl) (wp_val (w' := W) (v := .bool false) (by go_simp) ?_)
            exact hK _ _ rfl (Below.refl _ _)
          · have h4 := hn 4 (by decide +kernel)
            have h11 := hn 11 (by decide +kernel)
            simp only [toF] at h4 h11
            simp only [h4, h11] at hK ⊢
            refine wpOp_plain rfl rfl (wp_val (w' := W) (v := .bool false) (by go_simp) ?_)
            exact hK _ _ rfl (Below.refl _ _)
        · intro vals W hB hF
          have h12 := hF 12 (by omega)
          simp only [toF] at h12
          simp only [frm_cons, frm_nil, List.set_cons_succ, List.set_cons_zero, Nat.reduceAdd, h12]
          refine wpUpto_done (by decide +kernel) ?_ _
          have K7 := hid hB
          clear hB hF h12
          have c0 := HKD.out _ K7.out.o
          go_simp
          go_wp2_with (first
            | (go_at_call 22; refine (HIS.out W).mono ?_; rintro r8 w8 ⟨rfl, rfl⟩))
          go_ret
          exact ⟨rfl, K7.out.bl⟩
      | true =>
        obtain rfl : kd = 3 := Decidable.byContradiction fun h => hgd ⟨rfl, h⟩
        clear hO hk hm hT hR hI hlg hi3 hs3 hrb hfb hkde e2 hgd
        go_enter Tryd.func9, Tryd.ntmps9
        go_upto_region 8 with (first
          | (go_at_call 48; refine (HAL.out _ K0.out.1).mono ?_; rintro r1 w1 ⟨rfl, h1⟩; have K1 := hid (And.intro (K0.out.1.trans (h1.mono K0.out.1.size)) (K0.out.2.new_ h1)); clear h1)
          | (refine wpList_valW (by rfl) (run_loadPO (.tmp 2) rfl w.heap.size 0 rfl O (range_all K1.out.2) HOL.out) ?_; try simp only [Act.put, List.setIfInBounds_toArray, List.set_cons_succ, List.set_cons_zero])
          | (go_at_call 49; refine (HLG.out w1).mono ?_; rintro r2 w2 ⟨rfl, h2⟩; have K2 := hid (And.intro (K1.out.1.trans (h2.mono K1.out.1.size)) (K1.out.2.new_ h2)); clear h2)
          | (refine wpList_valW (by rfl) (run_loadPO (.tmp 2) rfl w.heap.size 0 rfl O (range_all K2.out.2) HOL.out) ?_; try simp only [Act.put, List.setIfInBounds_toArray, List.set_cons_succ, List.set_cons_zero])
          | (go_at_call 50; refine (HOR.out w2 K2.out.1).mono ?_; rintro r3 w3 ⟨A', c', rfl, hi3, h3⟩; have K3 := hid (And.intro (K2.out.1.trans (h3.mono K2.out.1.size)) (And.intro (K2.out.2.new_ h3) hi3)); clear h3 hi3)
          | (refine Great.wpList_allocTo rfl _ rfl _ _ (HAO.out _ _ _ rfl) ?_)
          | (refine wpList_store_row rfl _ (.tmp 5) (.tmp 14) rfl w3.heap.size (ordV od AI A' cI c').toArray rfl rfl 97 (ordV ord0 none none 0 0).toArray (heap_alloc_new _ _) (sizeO13_of (HTL.out A' c')) ((show (ordV ord0 none none 0 0).length = 4 from rfl).trans (HTL.out A' c').symm) (HTA.out A' c') ?_; have K4 := hid (show ToW w O (ordV od AI A' cI c') w3.heap.size od AI A' cI c' ((w3.alloc (.cells (ordV ord0 none none 0 0).toArray 97)).setRow w3.heap.size (ordV od AI A' cI c').toArray) from ⟨K3.out.1.trans ((ro_stored_below w3 _).mono K3.out.1.size), K3.out.2.1.new_ (ro_stored_below w3 _), ro_stored w3 _, K3.out.2.2.later (ro_stored_below w3 _)⟩); generalize ((w3.alloc (.cells (ordV ord0 none none 0 0).toArray 97)).setRow w3.heap.size (ordV od AI A' cI c').toArray) = w4 at K4 ⊢; generalize w3.heap.size = D at K4 ⊢)
          | (refine wpList_valW (by rfl) (run_loadO13 (.tmp 5) rfl D 0 rfl (ordV od AI A' cI c') (range_all K4.out.r) (HTL.out A' c')) ?_; try simp only [Act.put, List.setIfInBounds_toArray, List.set_cons_succ, List.set_cons_zero])
          | (go_at_call 51; refine (HRR.out A' c' w4 K4.out.i).mono ?_; rintro r4 w41 ⟨rfl, h4⟩; have K41 := hid (K4.out.new h4); clear h4)
          | (refine wpList_valW (by rfl) (run_loadPO (.tmp 2) rfl w.heap.size 0 rfl O (range_all K41.out.o) HOL.out) ?_; try simp only [Act.put, List.setIfInBounds_toArray, List.set_cons_succ, List.set_cons_zero])
          | (go_at_call 52; refine (HLV.out w41 K41.out.bl).mono ?_; rintro r5 w5 ⟨A5, c5, rfl, hl5, h5⟩; have K5 := hid (K41.out.new h5); have L5 := hid hl5; clear h5 hl5))
        have K6 := hid (K5.out.new (Below.refl w5.heap.size w5).drew)
        clear K0 K1 K2 K3 K4 K41 K5 L5 HAL HLG HOR HLV HRR
        refine wp_region_facts 13 13 [22, 23, 24, 25, 26, 27, 28, 29, 30, 31, 32, 33, 34] (fun k v _ => v = toF O (ordV od AI A' cI c') b true fb k) (ToW w O (ordV od AI A' cI c') D od AI A' cI c') (by kernel_rfl) (by kernel_rfl)
          (fun W W' h hb => h.new hb) (fun _ _ _ _ h _ => h) (K6.out) ?_ ?_
        · intro i hi vals W K hB hn hK
          simp only [frm_cons, frm_nil, List.set_cons_succ, List.set_cons_zero, Nat.reduceAdd] at hK ⊢
          rcases (by omega : i = 0 ∨ i = 1 ∨ i = 2 ∨ i = 3 ∨ i = 4 ∨ i = 5 ∨ i = 6 ∨ i = 7 ∨ i = 8 ∨ i = 9 ∨ i = 10 ∨ i = 11 ∨ i = 12) with rfl | rfl | rfl | rfl | rfl | rfl | rfl | rfl | rfl | rfl | rfl | rfl | rfl
          · refine wpOp_plain rfl rfl (wp_val (w' := W) (v := .agg O.toArray) (run_loadPO (.tmp 2) rfl w.heap.size 0 rfl O (range_all hB.o) HOL.out) ?_)
            exact hK _ _ rfl (Below.refl _ _)
          · have h0 := hn 0 (by decide +kernel)
            simp only [toF] at h0
            simp only [h0] at hK ⊢
            refine wpOp_plain rfl rfl ?_
            go_simp
            go_at_call 53
            refine (HPR.out W hB.bl).mono ?_
            rintro e1 W' ⟨rfl, hb⟩
            exact hK _ _ rfl hb
          · refine wpOp_plain rfl rfl (wp_val (w' := W) (v := .bool true) (by go_simp) ?_)
            exact hK _ _ rfl (Below.refl _ _)
          · have h1 := hn 1 (by decide +kernel)
            have h2 := hn 2 (by decide +kernel)
            simp only [toF] at h1 h2
            simp only [h1, h2] at hK ⊢
            refine wpOp_plain rfl rfl (wp_val (w' := W) (v := .bool false) (by go_simp) ?_)
            exact hK _ _ rfl (Below.refl _ _)
          · have h3 := hn 3 (by decide +kernel)
            simp only [toF] at h3
            simp only [h3] at hK ⊢
            refine wpOp_plain rfl rfl (wp_val (w' := W) (v := .bool false) (by go_simp) ?_)
            exact hK _ _ rfl (Below.refl _ _)
          · have h4 := hn 4 (by decide +kernel)
            simp only [toF] at h4
            simp only [h4] at hK ⊢
            refine wpOp_on rfl (by rfl) (wp_val (w' := W) (v := .agg O.toArray) (run_loadPO (.tmp 2) rfl w.heap.size 0 rfl O (range_all hB.o) HOL.out) ?_)
            exact hK _ _ rfl (Below.refl _ _)
          · have h4 := hn 4 (by decide +kernel)
            simp only [toF] at h4
            simp only [h4] at hK ⊢
            refine wpOp_on rfl (by rfl) (wp_val (w' := W) (v := .int .u64 (b : Int)) (by go_simp) ?_)
            exact hK _ _ rfl (Below.refl _ _)
          · have h4 := hn 4 (by decide +kernel)
            have h5 := hn 5 (by decide +kernel)
            have h6 := hn 6 (by decide +kernel)
            simp only [toF] at h4 h5 h6
            simp only [h4, h5, h6] at hK ⊢
            refine wpOp_on rfl (by rfl) ?_
            go_simp
            go_at_call 54
            refine (HPF.out W hB.bl).mono ?_
            rintro e1 W' ⟨rfl, hb⟩
            exact hK _ _ rfl hb
          · have h4 := hn 4 (by decide +kernel)
            simp only [toF] at h4
            simp only [h4] at hK ⊢
            refine wpOp_on rfl (by rfl) (wp_val (w' := W) (v := .agg (ordV od AI A' cI c').toArray) (run_loadO13 (.tmp 5) rfl D 0 rfl (ordV od AI A' cI c') (range_all hB.r) (HTL.out A' c')) ?_)
            exact hK _ _ rfl (Below.refl _ _)
          · have h4 := hn 4 (by decide +kernel)
            simp only [toF] at h4
            simp only [h4] at hK ⊢
            refine wpOp_on rfl (by rfl) (wp_val (w' := W) (v := .int .u64 (b : Int)) (by go_simp) ?_)
            exact hK _ _ rfl (Below.refl _ _)
          · have h4 := hn 4 (by decide +kernel)
            have h8 := hn 8 (by decide +kernel)
            have h9 := hn 9 (by decide +kernel)
            simp only [toF] at h4 h8 h9
            simp only [h4, h8, h9] at hK ⊢
            refine wpOp_on rfl (by rfl) ?_
            go_simp
            go_at_call 55
            refine (HRF.out A' c' W hB.i).mono ?_
            rintro e1 W' ⟨rfl, hb⟩
            exact hK _ _ rfl hb
          · have h4 := hn 4 (by decide +kernel)
            have h7 := hn 7 (by decide +kernel)
            have h10 := hn 10 (by decide +kernel)
            simp only [toF] at h4 h7 h10
            simp only [h4, h7, h10] at hK ⊢
            refine wpOp_on rfl (by rfl) (wp_val (w' := W) (v := .bool false) (by go_simp) ?_)
            exact hK _ _ rfl (Below.refl _ _)
          · have h4 := hn 4 (by decide +kernel)
            have h11 := hn 11 (by decide +kernel)
            simp only [toF] at h4 h11
            simp only [h4, h11] at hK ⊢
            refine wpOp_plain rfl rfl (wp_val (w' := W) (v := .bool false) (by go_simp) ?_)
            exact hK _ _ rfl (Below.refl _ _)
        · intro vals W hB hF
          have h12 := hF 12 (by omega)
          simp only [toF] at h12
          simp only [frm_cons, frm_nil, List.set_cons_succ, List.set_cons_zero, Nat.reduceAdd, h12]
          refine wpUpto_done (by decide +kernel) ?_ _
          have K7 := hid hB
          clear hB hF h12
          have c0 := HKD.out _ K7.out.o
          go_simp
          go_wp2_with (first
            | (go_at_call 22; refine (HIS.out W).mono ?_; rintro r8 w8 ⟨rfl, rfl⟩))
          go_ret
          exact ⟨rfl, K7.out.bl⟩
end Go.Proofs.YtfmbpdjcoopaeaaDoor
