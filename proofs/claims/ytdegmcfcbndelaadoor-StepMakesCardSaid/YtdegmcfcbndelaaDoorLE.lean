/-
  Layer 12: StepMakes, one of its ways.
  Layer 12: StepMakes, one of its ways.
-/
import Derived.Test.YtdegmcfcbndelaaDoorLC
namespace Go.Proofs.YtdegmcfcbndelaaDoor
open Go.RowKit

set_option maxRecDepth 100000 in
set_option maxHeartbeats 8000000 in
theorem stepMakes_ay {Pt : PtT} {w : World} (t : T12 Pt w) (HALV : Alive12C w) (h : Int) (sc : List Act9) (A : Option Addr) (c : Nat) (l : List Nat) (AI : Option Addr) (cI : Nat) (hsc : Av w w.heap.size A sc) (ho : okA sc) (hr : Nu w w.heap.size AI l) (hT : Tabr w) (hI : Tab w 1 IV.l) (hq : ¬ 40 < l.length) (hb : bothB h sc.length) (hg : rgtB h l = false) (hn : l.length = 0) (hz : 0 < sc.length) (hh : hasB h.toNat 0 (sc.length - 1) = true) :
    Calls Tryd.prog 10 #[.int .i64 h, .slice A sc.length c, .slice AI l.length cI] w fun r w' => r = .returned (.bool true) ∧ Below w.heap.size w w' := by
  have HAL := hid (HALV w (Below.refl _ _))
  have HAT := hid (fun (o : Oper) (a : Go.Act) (W : World) (h : o.op = .alloc 33) => run_alloc_of (o := o) (a := a) (W := W) _ h _ zeroTr)
  obtain ⟨Z, hZ⟩ : ∃ Z : Array Value, Z = #[.int .i64 0, .slice none 0 0, .slice none 0 0] := ⟨_, rfl⟩
  have HZS := hid (sizeTr_of Z (by rw [hZ]; rfl))
  have HZE := hid hZ
  have HZ1 := hid (show Z.all (·.oneCell') = true by rw [hZ]; simp [Value.oneCell'])
  have HSZ := hid (fun (cs : Array Value) (e : cs.size = 3) => sizeTr_of cs e)
  rw [← hZ] at HAT
  have HTT := hid t
  obtain ⟨k, rfl⟩ : ∃ k : Nat, h = (k : Int) := ⟨h.toNat, by unfold bothB at hb; omega⟩
  have hk : k ≤ 32 := by unfold bothB at hb; omega
  have hl : sc.length ≤ 25 := by unfold bothB at hb; omega
  have hIB := fun (V : World) (q : Below w.heap.size w V) => Tab.below (x := IV.a) (xs := [IV.b, IV.c, IV.d, IV.e, IV.f, IV.g, IV.h]) hI q
  have HBO := hid (fun (V : World) (q : Below w.heap.size w V) => both_ok t.toT9c k sc A c V q ((hsc.below q).mono q.size) ho hl hk (hT.below q) (hIB V q))
  have hgd := Gd.acts hk ho
  have hbn := Gd.bnd (h := k) sc
  obtain ⟨L, hL⟩ : ∃ L, L = acts9 k sc := ⟨_, rfl⟩
  rw [← hL] at HBO hgd hbn
  have hL1 : L.length ≤ 1000 := by omega
  obtain ⟨NL, hNL⟩ : ∃ m, m = L.length := ⟨_, rfl⟩
  rw [← hNL] at HBO
  have HRR := hid (fun (V : World) (q : Below w.heap.size w V) => right10R_any (k : Int) l AI cI V (hr.later q))
  rw [hg] at HRR
  have HIS := hid (fun V => show Calls Tryd.prog 16 #[.iface 42 (.int .i64 1), .int .i64 1] V (fun e w' => e = .returned (.bool true) ∧ V = w') from by
    have := eis_any 1 1 V
    exact this)
  obtain ⟨bl, hbl⟩ : ∃ b, b = sc.length := ⟨_, rfl⟩
  rw [← hbl] at hz hh
  have hbl64 : bl < 18446744073709551616 := by
    rw [hbl]
    omega
  have HAC := hid (fun (o : Oper) (a : Go.Act) (W : World) (h : o.op = .alloc 83) => run_alloc_of (o := o) (a := a) (W := W) _ h _ zeroCut12)
  obtain ⟨Q0, hQ0⟩ : ∃ Q : Array Value, Q = #[.slice none 0 0, .slice none 0 0, .slice none 0 0] := ⟨_, rfl⟩
  have HAW := hid (fun (o : Oper) (a : Go.Act) (W : World) (h : o.op = .alloc 72) => show (execOp a.eval o).run Tryd.prog W = .ok (.value (.pointer (some ⟨W.heap.size, 0, none⟩))) (W.alloc (.cells Q0 72)) from by rw [hQ0]; exact run_alloc_of (o := o) (a := a) (W := W) _ h _ zeroWrite12)
  have HQS := hid (show Q0.size = 3 by rw [hQ0]; rfl)
  have HQ1 := hid (show Q0.all (·.oneCell') = true by rw [hQ0]; exact three_one _ _ _ _ _ _ _ _ _)
  have HQE := hid hQ0
  have HSW := hid sizeWriteO12
  have HNL := hid n32_length
  obtain ⟨i, hi⟩ : ∃ i, i = bl - 1 := ⟨_, rfl⟩
  rw [← hi, Int.toNat_natCast] at hh
  have e1 : (bl : Int) - 1 = (i : Int) := by omega
  have ew1 : IntKind.u64.wrap (i : Int) = (i : Int) := by simp [IntKind.wrap, IntKind.signed, IntKind.bits]; omega
  have hw : IntKind.u64.wrap ((bl : Int) - 1) = (i : Int) := by rw [e1, ew1]
  have E1 := hid e1
  have EW1 := hid ew1
  have z0 : decide ((bl : Int) = 0) = false := by simp; omega
  have z0b : ((bl : Int) == 0) = false := by simp; omega
  have z0n : decide (bl = 0) = false := by simp; omega
  have hi64 : i < 18446744073709551616 := by omega
  have HMC := hid (fun (V : World) (q : Below w.heap.size w V) (S : Nat → Prop) (b : Nat) (p : Pt S V b k L) => pmakeCut_ok HTT.out q p hL1 i bl hi64 hw hh)
  have HNC := hid (fun (V : World) => show Calls Tryd.prog 53 #[.pointer none, .int .u64 (bl : Int)] V (fun r W' => r = .returned (.tuple #[.agg (cutV n32 none 0 0).toArray, .iface 42 (.int .i64 11)]) ∧ Below V.heap.size V W') from
    pmakeCut_bad (.pointer none) 11 (by omega) i bl V hw (fun V' _ => pleaf9_any (.pointer none) i n32 (errV 11) n32_length fun V'' _ => pnode9_nil V'' 0 i))
  have HNW := hid (fun (V : World) => show Calls Tryd.prog 52 #[.pointer none, .slice AI l.length cI] V (fun r W' => r = .returned (.tuple #[.agg Q0, .iface 42 (.int .i64 11)]) ∧ Below V.heap.size V W') from by
    rw [hQ0]
    exact pmakeWrite_bad (.pointer none) 11 (by omega) AI l.length cI V (fun V' _ => pmake10_nil l.length AI cI V'))
  have HI11 := hid (fun V => show Calls Tryd.prog 16 #[.iface 42 (.int .i64 11), .int .i64 11] V (fun e w' => e = .returned (.bool true) ∧ V = w') from by
    have := eis_any 11 11 V
    exact this)
  have HNR := hid (fun (V : World) (A1 E : Option Addr) (c1 cE : Nat) (q : Below w.heap.size w V) (v : Lv V V.heap.size A1 L) (e : Ev V V.heap.size E) => show Calls Tryd.prog 17 #[.agg #[.int .i64 (k : Int), .slice A1 NL c1, .slice E 33 cE], .int .i64 0, .int .u64 (i : Int)] V (fun r w' => r = .returned (.agg (ubs (nodeS 0 i L)).toArray) ∧ Below V.heap.size V w') from by
    rw [hNL]
    exact nodeR_any 0 (by omega) i hi64 L (k : Int) E A1 cE c1 V hgd.ok hL1 v e (hT.below q) (hIB V q))
  have HPR := hid (fun (V : World) (A1 E : Option Addr) (c1 cE : Nat) (q : Below w.heap.size w V) (v : Lv V V.heap.size A1 L) (e : Ev V V.heap.size E) => show Calls Tryd.prog 21 #[.agg #[.int .i64 (k : Int), .slice A1 NL c1, .slice E 33 cE], .int .u64 (i : Int)] V (fun r w' => ∃ A2 c2, r = .returned (.slice A2 k c2) ∧ Rd w' w'.heap.size A2 (ubs (pathS L i k)) ∧ Below V.heap.size V w') from by
    rw [hNL]
    exact pathR_any k hk i hi64 L E A1 cE c1 V hgd.ok hL1 v e (hT.below q) (hIB V q))
  have HHP := hid (fun (V : World) (A9 B9 : Option Addr) (c9 d9 : Nat) (a : Rd V V.heap.size A9 (ubs (pathS L i k))) (b : Rd V V.heap.size B9 (ubs (pathS L i k))) => show Calls Tryd.prog 20 #[.slice A9 k c9, .slice B9 k d9] V (fun r w' => r = .returned (.bool true) ∧ Below V.heap.size V w') from by
    have := hashes_any k _ _ A9 B9 c9 d9 V (pathS_len12 hgd.ok i k) (pathS_len12 hgd.ok i k) a b (by omega)
    rwa [show decide (pathS L i k = pathS L i k) = true from decide_eq_true rfl] at this)
  have HLF := hid (nodeS_length 0 i L hgd.ok)
  generalize nodeS 0 i L = lf at HMC HNR HLF
  generalize pathS L i k = ps at HMC HPR HHP
  have HHA := hid (fun (V : World) (A1 E : Option Addr) (c1 cE : Nat) => show Calls Tryd.prog 15 #[.agg #[.int .i64 (k : Int), .slice A1 NL c1, .slice E 33 cE], .int .i64 0, .int .u64 (i : Int)] V (fun r w' => r = .returned (.bool true) ∧ Below V.heap.size V w') from by
    have := hasR_any k 0 i A1 E NL c1 33 cE V hk
    rw [hh] at this
    exact this)
  have HMW := hid (fun (V : World) (q : Below w.heap.size w V) (S : Nat → Prop) (b : Nat) (p : Pt S V b k L) => show Calls Tryd.prog 52 #[.pointer (some ⟨b, 0, none⟩), .slice AI l.length cI] V (fun r W' => r = .returned (.tuple #[.agg Q0, .iface 42 (.int .i64 1)]) ∧ Below V.heap.size V W') from by
    rw [hQ0]
    exact pmakeWrite_bad (.pointer (some ⟨b, 0, none⟩)) 1 (by omega) AI l.length cI V (fun V' q' => pmake10_no HTT.out.toT9c (q.trans (q'.mono q.size)) (HTT.out.toT9c.new p q') l AI cI (hr.later (q.trans (q'.mono q.size))) hg))
  rw [← hbl] at HBO ⊢
  obtain ⟨n, hnn⟩ : ∃ n, n = l.length := ⟨_, rfl⟩
  rw [← hnn] at hn hq HRR HMW HNW ⊢
  have d0 : decide (40 < (n : Int)) = false := by simp; omega
  have d0n : decide (40 < n) = false := by simp; omega
  subst hn
  have wb : IntKind.u64.wrap (bl : Int) = (bl : Int) := by simp [IntKind.wrap, IntKind.signed, IntKind.bits]; omega
  clear HALV hsc ho hr hT hI hq hb hg hZ hk hl hIB hgd hbn hL hL1 hNL hbl64 hQ0 hi hi64 hw hh t hnn hbl hz
  go_enter Tryd.func10, Tryd.ntmps10
  go_upto_region 3 with (first
    | (go_at_call 40; refine HAL.out.mono ?_; rintro r1 w1 ⟨rfl, hb1⟩; have B1 := hid hb1; clear hb1))
  go_upto_region 5 with fail
  go_upto_region 6 with (first
    | (go_at_call 13; refine (HBO.out w1 B1.out).mono ?_; rintro r2 w2 ⟨S, b, A1, E, c1, cE, rfl, hk2⟩; simp only [ptr]; have K2 := hid hk2; have B2 := hid (B1.out.trans (hk2.below.mono B1.out.size)); clear hk2)
    | (refine Great.wpList_allocTo rfl _ rfl _ _ (HAT.out _ _ _ rfl) ?_)
    | (refine wpList_store_row rfl _ (.tmp 8) (.tmp 29) rfl w2.heap.size #[.int .i64 (k : Int), .slice A1 NL c1, .slice E 33 cE] rfl rfl 33 Z (At.new _ _ _) (HSZ.out _ rfl) ?x2 ?x3 ?x4; rotate_right; have hb3 : Below w2.heap.size w2 ((w2.alloc (.cells Z 33)).setRow w2.heap.size #[.int .i64 (k : Int), .slice A1 NL c1, .slice E 33 cE]) := below_setRow ((Below.refl _ _).alloc (Nat.le_refl _) _) (Nat.le_refl _) _; have N3 := hid (show MkB Pt w S b k L A1 E w2.heap.size #[.int .i64 (k : Int), .slice A1 NL c1, .slice E 33 cE] ((w2.alloc (.cells Z 33)).setRow w2.heap.size #[.int .i64 (k : Int), .slice A1 NL c1, .slice E 33 cE]) from ⟨HTT.out.toT9c.new K2.out.t hb3, K2.out.l.new hb3, K2.out.e.new hb3, setRow_heap _ _ _ _ _ _ (At.new w2 Z 33), B2.out.trans (hb3.mono B2.out.size)⟩); clear hb3; generalize ((w2.alloc (.cells Z 33)).setRow w2.heap.size #[.int .i64 (k : Int), .slice A1 NL c1, .slice E 33 cE]) = w3 at N3 ⊢; generalize w2.heap.size = M at N3 ⊢))
  case x2 => rw [HZE.out]; rfl
  case x3 => simp [Value.oneCell']
  go_upto_region 8 with fail
  go_upto_region 9 with (first
    | (go_at_call 52; refine (HMW.out w3 N3.out.bl S b N3.out.t).mono ?_; rintro r4 w4 ⟨rfl, hb4⟩; have N4 := hid (N3.out.new HTT.out.toT9c hb4); clear hb4)
    | (refine Great.wpList_allocTo rfl _ rfl _ _ (HAW.out _ _ _ rfl) ?_)
    | (refine wpList_store_row rfl _ (.tmp 11) (.tmp 43) rfl w4.heap.size Q0 rfl rfl 72 Q0 (At.new _ _ _) (by rw [HQS.out]; exact HSW.out) (Eq.refl _) HQ1.out ?_; have hb5 : Below w4.heap.size w4 ((w4.alloc (.cells Q0 72)).setRow w4.heap.size Q0) := below_setRow ((Below.refl _ _).alloc (Nat.le_refl _) _) (Nat.le_refl _) _; have N5 := hid (N4.out.new HTT.out.toT9c hb5); have G5 := hid (show At ((w4.alloc (.cells Q0 72)).setRow w4.heap.size Q0) w4.heap.size #[.slice none 0 0, .slice none 0 0, .slice none 0 0] 72 from by rw [← HQE.out]; exact setRow_heap _ _ _ _ _ _ (At.new w4 Q0 72)); clear hb5; generalize ((w4.alloc (.cells Q0 72)).setRow w4.heap.size Q0) = w5 at N5 G5 ⊢; generalize w4.heap.size = G at G5 ⊢))
  go_upto_region 14 with (first
    | (go_at_call 31; refine (HRR.out w5 N5.out.bl).mono ?_; rintro r6 w6 ⟨rfl, hb6⟩; have N6 := hid (N5.out.new HTT.out.toT9c hb6); have G6 := hid (G5.out.new_ hb6); clear hb6; obtain ⟨q0, q1, q2⟩ := write_cells G6.out)
    | (go_at_call 16; refine (HIS.out _).mono ?_; rintro ri wi ⟨rfl, hwi⟩; rw [← hwi]; clear hwi))
  go_upto_region 15 with fail
  go_upto_region 17 with fail
  go_upto_region 18 with (first
    | (go_at_call 53; refine (HMC.out w6 N6.out.bl S b N6.out.t).mono ?_; rintro r8 w8 ⟨A9, rfl, hp8, hb8⟩; have N8 := hid (N6.out.new HTT.out.toT9c hb8); have P8 := hid hp8; clear hp8 hb8)
    | (refine Great.wpList_allocTo rfl _ rfl _ _ (HAC.out _ _ _ rfl) ?_)
    | (refine wpList_store_row rfl _ (.tmp 14) (.tmp 106) rfl w8.heap.size (cutV lf A9 k k).toArray rfl rfl 83 (cutV n32 none 0 0).toArray (At.new _ _ _) (sizeCut_of HLF.out) (by rw [List.size_toArray, List.size_toArray, cutV_length n32_length, cutV_length HLF.out]) (cutV_one _ _ _ _) ?_; have hb9 : Below w8.heap.size w8 ((w8.alloc (.cells (cutV n32 none 0 0).toArray 83)).setRow w8.heap.size (cutV lf A9 k k).toArray) := below_setRow ((Below.refl _ _).alloc (Nat.le_refl _) _) (Nat.le_refl _) _; have M9 := hid (show MkD Pt w S b k L A1 E M #[.int .i64 (k : Int), .slice A1 NL c1, .slice E 33 cE] w8.heap.size lf ps A9 ((w8.alloc (.cells (cutV n32 none 0 0).toArray 83)).setRow w8.heap.size (cutV lf A9 k k).toArray) from ⟨N8.out.new HTT.out.toT9c hb9, setRow_heap _ _ _ _ _ _ (At.new w8 _ 83), rd_on P8.out hb9⟩); clear hb9; generalize ((w8.alloc (.cells (cutV n32 none 0 0).toArray 83)).setRow w8.heap.size (cutV lf A9 k k).toArray) = w9 at M9 ⊢; generalize w8.heap.size = G9 at M9 ⊢))
  go_upto_region 20 with (first
    | (refine wpList_valW (by rfl) (run_loadTr (.tmp 8) rfl M rfl #[.int .i64 (k : Int), .slice A1 NL c1, .slice E 33 cE] M9.out.x.m (HSZ.out _ rfl)) ?_)
    | (go_at_call 15; refine (HHA.out w9 A1 E c1 cE).mono ?_; rintro ra wa ⟨rfl, hba⟩; have Na := hid (M9.out.new HTT.out.toT9c hba); clear hba))
  go_upto_region 21 with (first
    | (go_at_call 53; refine (HNC.out wa).mono ?_; rintro rc wc ⟨rfl, hbc⟩; have Nc := hid (Na.out.new HTT.out.toT9c hbc); clear hbc)
    | (refine Great.wpList_allocTo rfl _ rfl _ _ (HAC.out _ _ _ rfl) ?_)
    | (refine wpList_store_row rfl _ (.tmp 15) (.tmp 128) rfl wc.heap.size (cutV n32 none 0 0).toArray rfl rfl 83 (cutV n32 none 0 0).toArray (At.new _ _ _) (sizeCut_of HNL.out) (Eq.refl _) (cutV_one _ _ _ _) ?_; have Nd := hid (Nc.out.new HTT.out.toT9c (show Below wc.heap.size wc ((wc.alloc (.cells (cutV n32 none 0 0).toArray 83)).setRow wc.heap.size (cutV n32 none 0 0).toArray) from below_setRow ((Below.refl _ _).alloc (Nat.le_refl _) _) (Nat.le_refl _) _)); generalize ((wc.alloc (.cells (cutV n32 none 0 0).toArray 83)).setRow wc.heap.size (cutV n32 none 0 0).toArray) = wd at Nd ⊢))
  go_wp2_with (first
    | (go_at_call 52; refine (HNW.out wd).mono ?_; rintro re we ⟨rfl, hbe⟩; have Ne := hid (Nd.out.new HTT.out.toT9c hbe); clear hbe)
    | (refine Great.wpList_allocTo rfl _ rfl _ _ (HAW.out _ _ _ rfl) ?_)
    | (refine wpList_store_row rfl _ (.tmp 17) (.tmp 133) rfl we.heap.size Q0 rfl rfl 72 Q0 (At.new _ _ _) (by rw [HQS.out]; exact HSW.out) (Eq.refl _) HQ1.out ?_; have Nf := hid (Ne.out.new HTT.out.toT9c (show Below we.heap.size we ((we.alloc (.cells Q0 72)).setRow we.heap.size Q0) from below_setRow ((Below.refl _ _).alloc (Nat.le_refl _) _) (Nat.le_refl _) _)); generalize ((we.alloc (.cells Q0 72)).setRow we.heap.size Q0) = wf at Nf ⊢))
  try simp only [Act.put, List.setIfInBounds_toArray, List.set_cons_succ, List.set_cons_zero]
  refine wp_region_facts 29 29 [135, 136, 137, 138, 139, 140, 141, 142, 143, 144, 145, 146, 147, 148, 149, 150, 151, 152, 153, 154, 155, 156, 157, 158, 159, 160, 161, 162, 6] (mlF12 G9 A9 k bl i #[.int .i64 (k : Int), .slice A1 NL c1, .slice E 33 cE] lf ps) (MkD Pt w S b k L A1 E M #[.int .i64 (k : Int), .slice A1 NL c1, .slice E 33 cE] G9 lf ps A9) (by kernel_rfl) (by kernel_rfl)
    (fun V V' h hb => h.new HTT.out.toT9c hb) (fun _ _ _ _ h hb => mlF12_new h hb) (Nf.out.new HTT.out.toT9c (Below.refl _ _).drew) ?_ ?_
  · intro j hj vals W1 K hB hn hK
    simp only [frm_cons, frm_nil, List.set_cons_succ, List.set_cons_zero, Nat.reduceAdd] at hK ⊢
    rcases (by omega : j = 0 ∨ j = 1 ∨ j = 2 ∨ j = 3 ∨ j = 4 ∨ j = 5 ∨ j = 6 ∨ j = 7 ∨ j = 8 ∨ j = 9 ∨ j = 10 ∨ j = 11 ∨ j = 12 ∨ j = 13 ∨ j = 14 ∨ j = 15 ∨ j = 16 ∨ j = 17 ∨ j = 18 ∨ j = 19 ∨ j = 20 ∨ j = 21 ∨ j = 22 ∨ j = 23 ∨ j = 24 ∨ j = 25 ∨ j = 26 ∨ j = 27 ∨ j = 28) with rfl | rfl | rfl | rfl | rfl | rfl | rfl | rfl | rfl | rfl | rfl | rfl | rfl | rfl | rfl | rfl | rfl | rfl | rfl | rfl | rfl | rfl | rfl | rfl | rfl | rfl | rfl | rfl | rfl
    · refine wpOp_plain rfl rfl (wp_val (w' := W1) (v := .nilIface) (by go_simp) ?_)
      exact hK _ _ ⟨fun h => absurd h (by decide), fun _ => rfl⟩ (Below.refl _ _)
    · have h0 := hn 0 (by decide +kernel)
      have e0 := h0.2 (by decide)
      simp only [ml12] at e0
      simp only [e0] at hK ⊢
      refine wpOp_plain rfl rfl (wp_val (w' := W1) (v := .bool true) (by go_simp) ?_)
      exact hK _ _ ⟨fun h => absurd h (by decide), fun _ => rfl⟩ (Below.refl _ _)
    · have h1 := hn 1 (by decide +kernel)
      have e1 := h1.2 (by decide)
      simp only [ml12] at e1
      simp only [e1] at hK ⊢
      refine wpOp_plain rfl rfl (wp_val (w' := W1) (v := .bool true) (by go_simp) ?_)
      exact hK _ _ ⟨fun h => absurd h (by decide), fun _ => rfl⟩ (Below.refl _ _)
    · have h2 := hn 2 (by decide +kernel)
      have e2 := h2.2 (by decide)
      simp only [ml12] at e2
      simp only [e2] at hK ⊢
      refine wpOp_on rfl (by rfl) (wp_val (w' := W1) (v := .pointer (some ⟨G9, 0, none⟩)) (by go_simp) ?_)
      exact hK _ _ ⟨fun h => absurd h (by decide), fun _ => rfl⟩ (Below.refl _ _)
    · have h2 := hn 2 (by decide +kernel)
      have h3 := hn 3 (by decide +kernel)
      have e2 := h2.2 (by decide)
      simp only [ml12] at e2
      have e3 := h3.2 (by decide)
      simp only [ml12] at e3
      simp only [e2, e3] at hK ⊢
      refine wpOp_on rfl (by rfl) (wp_val (run_loadH (.tmp 138) rfl G9 0 rfl lf (cutV_range hB.g) HLF.out) ?_)
      exact hK _ _ ⟨fun h => absurd h (by decide), fun _ => rfl⟩ (Below.refl _ _)
    · have h2 := hn 2 (by decide +kernel)
      have e2 := h2.2 (by decide)
      simp only [ml12] at e2
      simp only [e2] at hK ⊢
      refine wpOp_on rfl (by rfl) (wp_val (run_loadTr (.tmp 8) rfl M rfl #[.int .i64 (k : Int), .slice A1 NL c1, .slice E 33 cE] hB.x.m (HSZ.out _ rfl)) ?_)
      exact hK _ _ ⟨fun h => absurd h (by decide), fun _ => rfl⟩ (Below.refl _ _)
    · have h2 := hn 2 (by decide +kernel)
      have e2 := h2.2 (by decide)
      simp only [ml12] at e2
      simp only [e2] at hK ⊢
      refine wpOp_on rfl (by rfl) (wp_val (w' := W1) (v := .int .u64 (bl : Int)) (by go_simp) ?_)
      exact hK _ _ ⟨fun h => absurd h (by decide), fun _ => rfl⟩ (Below.refl _ _)
    · have h2 := hn 2 (by decide +kernel)
      have h6 := hn 6 (by decide +kernel)
      have e2 := h2.2 (by decide)
      simp only [ml12] at e2
      have e6 := h6.2 (by decide)
      simp only [ml12] at e6
      simp only [e2, e6] at hK ⊢
      have q1 := E1.out
      have q2 := EW1.out
      refine wpOp_on rfl (by rfl) (wp_val (w' := W1) (v := .int .u64 (i : Int)) (by go_simp) ?_)
      exact hK _ _ ⟨fun h => absurd h (by decide), fun _ => rfl⟩ (Below.refl _ _)
    · have h2 := hn 2 (by decide +kernel)
      have h5 := hn 5 (by decide +kernel)
      have h7 := hn 7 (by decide +kernel)
      have e2 := h2.2 (by decide)
      simp only [ml12] at e2
      have e5 := h5.2 (by decide)
      simp only [ml12] at e5
      have e7 := h7.2 (by decide)
      simp only [ml12] at e7
      simp only [e2, e5, e7] at hK ⊢
      refine wpOp_on rfl (by rfl) ?_
      go_simp
      go_at_call 17
      refine (HNR.out W1 A1 E c1 cE hB.x.bl hB.x.l hB.x.e).mono ?_
      rintro e W' ⟨rfl, hb⟩
      exact hK _ _ ⟨fun h => absurd h (by decide), fun _ => rfl⟩ hb
    · have h2 := hn 2 (by decide +kernel)
      have h4 := hn 4 (by decide +kernel)
      have h8 := hn 8 (by decide +kernel)
      have e2 := h2.2 (by decide)
      simp only [ml12] at e2
      have e4 := h4.2 (by decide)
      simp only [ml12] at e4
      have e8 := h8.2 (by decide)
      simp only [ml12] at e8
      simp only [e2, e4, e8] at hK ⊢
      refine wpOp_on rfl (by rfl) (wp_val (run_eqlH _ (.tmp 139) (.tmp 143) rfl lf lf HLF.out HLF.out rfl rfl true (by simp) W1) ?_)
      exact hK _ _ ⟨fun h => absurd h (by decide), fun _ => rfl⟩ (Below.refl _ _)
    · have h2 := hn 2 (by decide +kernel)
      have h9 := hn 9 (by decide +kernel)
      have e2 := h2.2 (by decide)
      simp only [ml12] at e2
      have e9 := h9.2 (by decide)
      simp only [ml12] at e9
      simp only [e2, e9] at hK ⊢
      refine wpOp_plain rfl rfl (wp_val (w' := W1) (v := .bool true) (by go_simp) ?_)
      exact hK _ _ ⟨fun h => absurd h (by decide), fun _ => rfl⟩ (Below.refl _ _)
    · have h10 := hn 10 (by decide +kernel)
      have e10 := h10.2 (by decide)
      simp only [ml12] at e10
      simp only [e10] at hK ⊢
      refine wpOp_plain rfl rfl (wp_val (w' := W1) (v := .bool true) (by go_simp) ?_)
      exact hK _ _ ⟨fun h => absurd h (by decide), fun _ => rfl⟩ (Below.refl _ _)
    · have h11 := hn 11 (by decide +kernel)
      have e11 := h11.2 (by decide)
      simp only [ml12] at e11
      simp only [e11] at hK ⊢
      refine wpOp_on rfl (by rfl) (wp_val (w' := W1) (v := .pointer (some ⟨G9, 32, none⟩)) (by go_simp) ?_)
      exact hK _ _ ⟨fun h => absurd h (by decide), fun _ => rfl⟩ (Below.refl _ _)
    · have h11 := hn 11 (by decide +kernel)
      have h12 := hn 12 (by decide +kernel)
      have e11 := h11.2 (by decide)
      simp only [ml12] at e11
      have e12 := h12.2 (by decide)
      simp only [ml12] at e12
      simp only [e11, e12] at hK ⊢
      have q32 := cutV_cell hB.g HLF.out
      refine wpOp_on rfl (by rfl) (wp_val (w' := W1) (v := .slice A9 k k) (by go_simp) ?_)
      exact hK _ _ ⟨fun h => absurd h (by decide), fun _ => rfl⟩ (Below.refl _ _)
    · have h11 := hn 11 (by decide +kernel)
      have e11 := h11.2 (by decide)
      simp only [ml12] at e11
      simp only [e11] at hK ⊢
      refine wpOp_on rfl (by rfl) (wp_val (run_loadTr (.tmp 8) rfl M rfl #[.int .i64 (k : Int), .slice A1 NL c1, .slice E 33 cE] hB.x.m (HSZ.out _ rfl)) ?_)
      exact hK _ _ ⟨fun h => absurd h (by decide), fun _ => rfl⟩ (Below.refl _ _)
    · have h11 := hn 11 (by decide +kernel)
      have e11 := h11.2 (by decide)
      simp only [ml12] at e11
      simp only [e11] at hK ⊢
      refine wpOp_on rfl (by rfl) (wp_val (w' := W1) (v := .int .u64 (bl : Int)) (by go_simp) ?_)
      exact hK _ _ ⟨fun h => absurd h (by decide), fun _ => rfl⟩ (Below.refl _ _)
    · have h11 := hn 11 (by decide +kernel)
      have h15 := hn 15 (by decide +kernel)
      have e11 := h11.2 (by decide)
      simp only [ml12] at e11
      have e15 := h15.2 (by decide)
      simp only [ml12] at e15
      simp only [e11, e15] at hK ⊢
      have q1 := E1.out
      have q2 := EW1.out
      refine wpOp_on rfl (by rfl) (wp_val (w' := W1) (v := .int .u64 (i : Int)) (by go_simp) ?_)
      exact hK _ _ ⟨fun h => absurd h (by decide), fun _ => rfl⟩ (Below.refl _ _)
    · have h11 := hn 11 (by decide +kernel)
      have h14 := hn 14 (by decide +kernel)
      have h16 := hn 16 (by decide +kernel)
      have e11 := h11.2 (by decide)
      simp only [ml12] at e11
      have e14 := h14.2 (by decide)
      simp only [ml12] at e14
      have e16 := h16.2 (by decide)
      simp only [ml12] at e16
      simp only [e11, e14, e16] at hK ⊢
      refine wpOp_on rfl (by rfl) ?_
      go_simp
      go_at_call 21
      refine (HPR.out W1 A1 E c1 cE hB.x.bl hB.x.l hB.x.e).mono ?_
      rintro e W' ⟨A2, c2, rfl, hr2, hb⟩
      exact hK _ _ ⟨fun _ => ⟨A2, c2, rfl, hr2⟩, fun h => absurd rfl h⟩ hb
    · have h11 := hn 11 (by decide +kernel)
      have h13 := hn 13 (by decide +kernel)
      have h17 := hn 17 (by decide +kernel)
      have e11 := h11.2 (by decide)
      simp only [ml12] at e11
      have e13 := h13.2 (by decide)
      simp only [ml12] at e13
      obtain ⟨A2, c2, e17, R17⟩ := h17.1 rfl
      simp only [e11, e13, e17] at hK ⊢
      refine wpOp_on rfl (by rfl) ?_
      go_simp
      go_at_call 20
      refine (HHP.out W1 A9 A2 k c2 hB.p R17).mono ?_
      rintro e W' ⟨rfl, hb⟩
      exact hK _ _ ⟨fun h => absurd h (by decide), fun _ => rfl⟩ hb
    · have h11 := hn 11 (by decide +kernel)
      have h18 := hn 18 (by decide +kernel)
      have e11 := h11.2 (by decide)
      simp only [ml12] at e11
      have e18 := h18.2 (by decide)
      simp only [ml12] at e18
      simp only [e11, e18] at hK ⊢
      refine wpOp_plain rfl rfl (wp_val (w' := W1) (v := .bool true) (by go_simp) ?_)
      exact hK _ _ ⟨fun h => absurd h (by decide), fun _ => rfl⟩ (Below.refl _ _)
    · have h19 := hn 19 (by decide +kernel)
      have e19 := h19.2 (by decide)
      simp only [ml12] at e19
      simp only [e19] at hK ⊢
      refine wpOp_plain rfl rfl (wp_val (w' := W1) (v := .bool true) (by go_simp) ?_)
      exact hK _ _ ⟨fun h => absurd h (by decide), fun _ => rfl⟩ (Below.refl _ _)
    · have h20 := hn 20 (by decide +kernel)
      have e20 := h20.2 (by decide)
      simp only [ml12] at e20
      simp only [e20] at hK ⊢
      refine wpOp_on rfl (by rfl) (wp_val (w' := W1) (v := .iface 42 (.int .i64 11)) (by go_simp) ?_)
      exact hK _ _ ⟨fun h => absurd h (by decide), fun _ => rfl⟩ (Below.refl _ _)
    · have h20 := hn 20 (by decide +kernel)
      have h21 := hn 21 (by decide +kernel)
      have e20 := h20.2 (by decide)
      simp only [ml12] at e20
      have e21 := h21.2 (by decide)
      simp only [ml12] at e21
      simp only [e20, e21] at hK ⊢
      refine wpOp_on rfl (by rfl) ?_
      go_simp
      go_at_call 16
      refine (HI11.out W1).mono ?_
      rintro e W' ⟨rfl, hw⟩
      exact hK _ _ ⟨fun h => absurd h (by decide), fun _ => rfl⟩ (by rw [← hw]; exact Below.refl _ _)
    · have h20 := hn 20 (by decide +kernel)
      have h22 := hn 22 (by decide +kernel)
      have e20 := h20.2 (by decide)
      simp only [ml12] at e20
      have e22 := h22.2 (by decide)
      simp only [ml12] at e22
      simp only [e20, e22] at hK ⊢
      refine wpOp_plain rfl rfl (wp_val (w' := W1) (v := .bool true) (by go_simp) ?_)
      exact hK _ _ ⟨fun h => absurd h (by decide), fun _ => rfl⟩ (Below.refl _ _)
    · have h23 := hn 23 (by decide +kernel)
      have e23 := h23.2 (by decide)
      simp only [ml12] at e23
      simp only [e23] at hK ⊢
      refine wpOp_plain rfl rfl (wp_val (w' := W1) (v := .bool true) (by go_simp) ?_)
      exact hK _ _ ⟨fun h => absurd h (by decide), fun _ => rfl⟩ (Below.refl _ _)
    · have h24 := hn 24 (by decide +kernel)
      have e24 := h24.2 (by decide)
      simp only [ml12] at e24
      simp only [e24] at hK ⊢
      refine wpOp_on rfl (by rfl) (wp_val (w' := W1) (v := .iface 42 (.int .i64 11)) (by go_simp) ?_)
      exact hK _ _ ⟨fun h => absurd h (by decide), fun _ => rfl⟩ (Below.refl _ _)
    · have h24 := hn 24 (by decide +kernel)
      have h25 := hn 25 (by decide +kernel)
      have e24 := h24.2 (by decide)
      simp only [ml12] at e24
      have e25 := h25.2 (by decide)
      simp only [ml12] at e25
      simp only [e24, e25] at hK ⊢
      refine wpOp_on rfl (by rfl) ?_
      go_simp
      go_at_call 16
      refine (HI11.out W1).mono ?_
      rintro e W' ⟨rfl, hw⟩
      exact hK _ _ ⟨fun h => absurd h (by decide), fun _ => rfl⟩ (by rw [← hw]; exact Below.refl _ _)
    · have h24 := hn 24 (by decide +kernel)
      have h26 := hn 26 (by decide +kernel)
      have e24 := h24.2 (by decide)
      simp only [ml12] at e24
      have e26 := h26.2 (by decide)
      simp only [ml12] at e26
      simp only [e24, e26] at hK ⊢
      refine wpOp_plain rfl rfl (wp_val (w' := W1) (v := .bool true) (by go_simp) ?_)
      exact hK _ _ ⟨fun h => absurd h (by decide), fun _ => rfl⟩ (Below.refl _ _)
    · have h27 := hn 27 (by decide +kernel)
      have e27 := h27.2 (by decide)
      simp only [ml12] at e27
      simp only [e27] at hK ⊢
      refine wpOp_plain rfl rfl (wp_val (w' := W1) (v := .bool true) (by go_simp) ?_)
      exact hK _ _ ⟨fun h => absurd h (by decide), fun _ => rfl⟩ (Below.refl _ _)
  · intro vals W1 hB hF
    have h28 := hF 28 (by omega)
    have e28 := h28.2 (by decide)
    simp only [ml12] at e28
    simp only [frm_cons, frm_nil, List.set_cons_succ, List.set_cons_zero, Nat.reduceAdd, e28]
    refine wpUpto_done (by decide +kernel) ?_ _
    have NX9 := hid hB.x.bl
    clear hB hF h28
    go_simp
    go_wp2
    go_ret
    exact ⟨rfl, NX9.out⟩
end Go.Proofs.YtdegmcfcbndelaaDoor

namespace Go.Proofs.YtdegmcfcbndelaaDoor
open Go.RowKit

set_option maxRecDepth 100000 in
set_option maxHeartbeats 8000000 in
theorem stepMakes_cy {Pt : PtT} {w : World} (t : T12 Pt w) (HALV : Alive12C w) (h : Int) (sc : List Act9) (A : Option Addr) (c : Nat) (l : List Nat) (AI : Option Addr) (cI : Nat) (hsc : Av w w.heap.size A sc) (ho : okA sc) (hr : Nu w w.heap.size AI l) (hok : okN l) (hT : Tabr w) (hI : Tab w 1 IV.l) (hq : ¬ 40 < l.length) (hb : bothB h sc.length) (hg : rgtB h l = false) (hn : 0 < l.length) (hz : 0 < l[0]) (hh : hasB h.toNat 0 (l[0] - 1) = true) :
    Calls Tryd.prog 10 #[.int .i64 h, .slice A sc.length c, .slice AI l.length cI] w fun r w' => r = .returned (.bool true) ∧ Below w.heap.size w w' := by
  have HAL := hid (HALV w (Below.refl _ _))
  have HAT := hid (fun (o : Oper) (a : Go.Act) (W : World) (h : o.op = .alloc 33) => run_alloc_of (o := o) (a := a) (W := W) _ h _ zeroTr)
  obtain ⟨Z, hZ⟩ : ∃ Z : Array Value, Z = #[.int .i64 0, .slice none 0 0, .slice none 0 0] := ⟨_, rfl⟩
  have HZS := hid (sizeTr_of Z (by rw [hZ]; rfl))
  have HZE := hid hZ
  have HZ1 := hid (show Z.all (·.oneCell') = true by rw [hZ]; simp [Value.oneCell'])
  have HSZ := hid (fun (cs : Array Value) (e : cs.size = 3) => sizeTr_of cs e)
  rw [← hZ] at HAT
  have HTT := hid t
  obtain ⟨k, rfl⟩ : ∃ k : Nat, h = (k : Int) := ⟨h.toNat, by unfold bothB at hb; omega⟩
  have hk : k ≤ 32 := by unfold bothB at hb; omega
  have hl : sc.length ≤ 25 := by unfold bothB at hb; omega
  have hIB := fun (V : World) (q : Below w.heap.size w V) => Tab.below (x := IV.a) (xs := [IV.b, IV.c, IV.d, IV.e, IV.f, IV.g, IV.h]) hI q
  have HBO := hid (fun (V : World) (q : Below w.heap.size w V) => both_ok t.toT9c k sc A c V q ((hsc.below q).mono q.size) ho hl hk (hT.below q) (hIB V q))
  have hgd := Gd.acts hk ho
  have hbn := Gd.bnd (h := k) sc
  obtain ⟨L, hL⟩ : ∃ L, L = acts9 k sc := ⟨_, rfl⟩
  rw [← hL] at HBO hgd hbn
  have hL1 : L.length ≤ 1000 := by omega
  obtain ⟨NL, hNL⟩ : ∃ m, m = L.length := ⟨_, rfl⟩
  rw [← hNL] at HBO
  have HRR := hid (fun (V : World) (q : Below w.heap.size w V) => right10R_any (k : Int) l AI cI V (hr.later q))
  rw [hg] at HRR
  have HIS := hid (fun V => show Calls Tryd.prog 16 #[.iface 42 (.int .i64 1), .int .i64 1] V (fun e w' => e = .returned (.bool true) ∧ V = w') from by
    have := eis_any 1 1 V
    exact this)
  obtain ⟨bl, hbl⟩ : ∃ b, b = l[0] := ⟨_, rfl⟩
  rw [← hbl] at hz hh
  have hbl64 : bl < 18446744073709551616 := by
    rw [hbl]
    exact hok _ (List.getElem_mem _)
  have HAC := hid (fun (o : Oper) (a : Go.Act) (W : World) (h : o.op = .alloc 83) => run_alloc_of (o := o) (a := a) (W := W) _ h _ zeroCut12)
  obtain ⟨Q0, hQ0⟩ : ∃ Q : Array Value, Q = #[.slice none 0 0, .slice none 0 0, .slice none 0 0] := ⟨_, rfl⟩
  have HAW := hid (fun (o : Oper) (a : Go.Act) (W : World) (h : o.op = .alloc 72) => show (execOp a.eval o).run Tryd.prog W = .ok (.value (.pointer (some ⟨W.heap.size, 0, none⟩))) (W.alloc (.cells Q0 72)) from by rw [hQ0]; exact run_alloc_of (o := o) (a := a) (W := W) _ h _ zeroWrite12)
  have HQS := hid (show Q0.size = 3 by rw [hQ0]; rfl)
  have HQ1 := hid (show Q0.all (·.oneCell') = true by rw [hQ0]; exact three_one _ _ _ _ _ _ _ _ _)
  have HQE := hid hQ0
  have HSW := hid sizeWriteO12
  have HNL := hid n32_length
  obtain ⟨i, hi⟩ : ∃ i, i = bl - 1 := ⟨_, rfl⟩
  rw [← hi, Int.toNat_natCast] at hh
  have e1 : (bl : Int) - 1 = (i : Int) := by omega
  have ew1 : IntKind.u64.wrap (i : Int) = (i : Int) := by simp [IntKind.wrap, IntKind.signed, IntKind.bits]; omega
  have hw : IntKind.u64.wrap ((bl : Int) - 1) = (i : Int) := by rw [e1, ew1]
  have E1 := hid e1
  have EW1 := hid ew1
  have z0 : decide ((bl : Int) = 0) = false := by simp; omega
  have z0b : ((bl : Int) == 0) = false := by simp; omega
  have z0n : decide (bl = 0) = false := by simp; omega
  have hi64 : i < 18446744073709551616 := by omega
  have HMC := hid (fun (V : World) (q : Below w.heap.size w V) (S : Nat → Prop) (b : Nat) (p : Pt S V b k L) => pmakeCut_ok HTT.out q p hL1 i bl hi64 hw hh)
  have HNC := hid (fun (V : World) => show Calls Tryd.prog 53 #[.pointer none, .int .u64 (bl : Int)] V (fun r W' => r = .returned (.tuple #[.agg (cutV n32 none 0 0).toArray, .iface 42 (.int .i64 11)]) ∧ Below V.heap.size V W') from
    pmakeCut_bad (.pointer none) 11 (by omega) i bl V hw (fun V' _ => pleaf9_any (.pointer none) i n32 (errV 11) n32_length fun V'' _ => pnode9_nil V'' 0 i))
  have HNW := hid (fun (V : World) => show Calls Tryd.prog 52 #[.pointer none, .slice AI l.length cI] V (fun r W' => r = .returned (.tuple #[.agg Q0, .iface 42 (.int .i64 11)]) ∧ Below V.heap.size V W') from by
    rw [hQ0]
    exact pmakeWrite_bad (.pointer none) 11 (by omega) AI l.length cI V (fun V' _ => pmake10_nil l.length AI cI V'))
  have HI11 := hid (fun V => show Calls Tryd.prog 16 #[.iface 42 (.int .i64 11), .int .i64 11] V (fun e w' => e = .returned (.bool true) ∧ V = w') from by
    have := eis_any 11 11 V
    exact this)
  have HNR := hid (fun (V : World) (A1 E : Option Addr) (c1 cE : Nat) (q : Below w.heap.size w V) (v : Lv V V.heap.size A1 L) (e : Ev V V.heap.size E) => show Calls Tryd.prog 17 #[.agg #[.int .i64 (k : Int), .slice A1 NL c1, .slice E 33 cE], .int .i64 0, .int .u64 (i : Int)] V (fun r w' => r = .returned (.agg (ubs (nodeS 0 i L)).toArray) ∧ Below V.heap.size V w') from by
    rw [hNL]
    exact nodeR_any 0 (by omega) i hi64 L (k : Int) E A1 cE c1 V hgd.ok hL1 v e (hT.below q) (hIB V q))
  have HPR := hid (fun (V : World) (A1 E : Option Addr) (c1 cE : Nat) (q : Below w.heap.size w V) (v : Lv V V.heap.size A1 L) (e : Ev V V.heap.size E) => show Calls Tryd.prog 21 #[.agg #[.int .i64 (k : Int), .slice A1 NL c1, .slice E 33 cE], .int .u64 (i : Int)] V (fun r w' => ∃ A2 c2, r = .returned (.slice A2 k c2) ∧ Rd w' w'.heap.size A2 (ubs (pathS L i k)) ∧ Below V.heap.size V w') from by
    rw [hNL]
    exact pathR_any k hk i hi64 L E A1 cE c1 V hgd.ok hL1 v e (hT.below q) (hIB V q))
  have HHP := hid (fun (V : World) (A9 B9 : Option Addr) (c9 d9 : Nat) (a : Rd V V.heap.size A9 (ubs (pathS L i k))) (b : Rd V V.heap.size B9 (ubs (pathS L i k))) => show Calls Tryd.prog 20 #[.slice A9 k c9, .slice B9 k d9] V (fun r w' => r = .returned (.bool true) ∧ Below V.heap.size V w') from by
    have := hashes_any k _ _ A9 B9 c9 d9 V (pathS_len12 hgd.ok i k) (pathS_len12 hgd.ok i k) a b (by omega)
    rwa [show decide (pathS L i k = pathS L i k) = true from decide_eq_true rfl] at this)
  have HLF := hid (nodeS_length 0 i L hgd.ok)
  generalize nodeS 0 i L = lf at HMC HNR HLF
  generalize pathS L i k = ps at HMC HPR HHP
  have HHA := hid (fun (V : World) (A1 E : Option Addr) (c1 cE : Nat) => show Calls Tryd.prog 15 #[.agg #[.int .i64 (k : Int), .slice A1 NL c1, .slice E 33 cE], .int .i64 0, .int .u64 (i : Int)] V (fun r w' => r = .returned (.bool true) ∧ Below V.heap.size V w') from by
    have := hasR_any k 0 i A1 E NL c1 33 cE V hk
    rw [hh] at this
    exact this)
  have HMW := hid (fun (V : World) (q : Below w.heap.size w V) (S : Nat → Prop) (b : Nat) (p : Pt S V b k L) => show Calls Tryd.prog 52 #[.pointer (some ⟨b, 0, none⟩), .slice AI l.length cI] V (fun r W' => r = .returned (.tuple #[.agg Q0, .iface 42 (.int .i64 1)]) ∧ Below V.heap.size V W') from by
    rw [hQ0]
    exact pmakeWrite_bad (.pointer (some ⟨b, 0, none⟩)) 1 (by omega) AI l.length cI V (fun V' q' => pmake10_no HTT.out.toT9c (q.trans (q'.mono q.size)) (HTT.out.toT9c.new p q') l AI cI (hr.later (q.trans (q'.mono q.size))) hg))
  have HR0 := hid (fun (V : World) (q : Below w.heap.size w V) => (hr.later q).at hn)
  rw [← hbl] at HR0
  obtain ⟨n, hnn⟩ : ∃ n, n = l.length := ⟨_, rfl⟩
  rw [← hnn] at hn hq HRR HMW HNW ⊢
  have d0 : decide (40 < (n : Int)) = false := by simp; omega
  have d0n : decide (40 < n) = false := by simp; omega
  have d3 : decide (0 < (n : Int)) = true := by simp; omega
  have d3n : decide (0 < n) = true := by simp; omega
  have ik : (0 : Int) < (n : Int) := by omega
  generalize sc.length = m at HBO ⊢
  clear HALV hsc ho hr hok hT hI hq hb hg hZ hk hl hIB hgd hbn hL hL1 hNL hbl64 hQ0 hi hi64 hw hh t hnn hn hbl hz
  go_enter Tryd.func10, Tryd.ntmps10
  go_upto_region 3 with (first
    | (go_at_call 40; refine HAL.out.mono ?_; rintro r1 w1 ⟨rfl, hb1⟩; have B1 := hid hb1; clear hb1))
  go_upto_region 5 with fail
  go_upto_region 6 with (first
    | (go_at_call 13; refine (HBO.out w1 B1.out).mono ?_; rintro r2 w2 ⟨S, b, A1, E, c1, cE, rfl, hk2⟩; simp only [ptr]; have K2 := hid hk2; have B2 := hid (B1.out.trans (hk2.below.mono B1.out.size)); clear hk2)
    | (refine Great.wpList_allocTo rfl _ rfl _ _ (HAT.out _ _ _ rfl) ?_)
    | (refine wpList_store_row rfl _ (.tmp 8) (.tmp 29) rfl w2.heap.size #[.int .i64 (k : Int), .slice A1 NL c1, .slice E 33 cE] rfl rfl 33 Z (At.new _ _ _) (HSZ.out _ rfl) ?x2 ?x3 ?x4; rotate_right; have hb3 : Below w2.heap.size w2 ((w2.alloc (.cells Z 33)).setRow w2.heap.size #[.int .i64 (k : Int), .slice A1 NL c1, .slice E 33 cE]) := below_setRow ((Below.refl _ _).alloc (Nat.le_refl _) _) (Nat.le_refl _) _; have N3 := hid (show MkB Pt w S b k L A1 E w2.heap.size #[.int .i64 (k : Int), .slice A1 NL c1, .slice E 33 cE] ((w2.alloc (.cells Z 33)).setRow w2.heap.size #[.int .i64 (k : Int), .slice A1 NL c1, .slice E 33 cE]) from ⟨HTT.out.toT9c.new K2.out.t hb3, K2.out.l.new hb3, K2.out.e.new hb3, setRow_heap _ _ _ _ _ _ (At.new w2 Z 33), B2.out.trans (hb3.mono B2.out.size)⟩); clear hb3; generalize ((w2.alloc (.cells Z 33)).setRow w2.heap.size #[.int .i64 (k : Int), .slice A1 NL c1, .slice E 33 cE]) = w3 at N3 ⊢; generalize w2.heap.size = M at N3 ⊢))
  case x2 => rw [HZE.out]; rfl
  case x3 => simp [Value.oneCell']
  go_upto_region 8 with fail
  go_upto_region 9 with (first
    | (go_at_call 52; refine (HMW.out w3 N3.out.bl S b N3.out.t).mono ?_; rintro r4 w4 ⟨rfl, hb4⟩; have N4 := hid (N3.out.new HTT.out.toT9c hb4); clear hb4)
    | (refine Great.wpList_allocTo rfl _ rfl _ _ (HAW.out _ _ _ rfl) ?_)
    | (refine wpList_store_row rfl _ (.tmp 11) (.tmp 43) rfl w4.heap.size Q0 rfl rfl 72 Q0 (At.new _ _ _) (by rw [HQS.out]; exact HSW.out) (Eq.refl _) HQ1.out ?_; have hb5 : Below w4.heap.size w4 ((w4.alloc (.cells Q0 72)).setRow w4.heap.size Q0) := below_setRow ((Below.refl _ _).alloc (Nat.le_refl _) _) (Nat.le_refl _) _; have N5 := hid (N4.out.new HTT.out.toT9c hb5); have G5 := hid (show At ((w4.alloc (.cells Q0 72)).setRow w4.heap.size Q0) w4.heap.size #[.slice none 0 0, .slice none 0 0, .slice none 0 0] 72 from by rw [← HQE.out]; exact setRow_heap _ _ _ _ _ _ (At.new w4 Q0 72)); clear hb5; generalize ((w4.alloc (.cells Q0 72)).setRow w4.heap.size Q0) = w5 at N5 G5 ⊢; generalize w4.heap.size = G at G5 ⊢))
  go_upto_region 14 with (first
    | (go_at_call 31; refine (HRR.out w5 N5.out.bl).mono ?_; rintro r6 w6 ⟨rfl, hb6⟩; have N6 := hid (N5.out.new HTT.out.toT9c hb6); have G6 := hid (G5.out.new_ hb6); clear hb6; obtain ⟨q0, q1, q2⟩ := write_cells G6.out)
    | (go_at_call 16; refine (HIS.out _).mono ?_; rintro ri wi ⟨rfl, hwi⟩; rw [← hwi]; clear hwi))
  go_upto_region 15 with fail
  obtain ⟨g0, o0, rfl, -, q9⟩ := HR0.out w6 N6.out.bl
  rw [Nat.add_zero] at q9
  go_upto_region 17 with fail
  go_upto_region 18 with (first
    | (go_at_call 53; refine (HMC.out w6 N6.out.bl S b N6.out.t).mono ?_; rintro r8 w8 ⟨A9, rfl, hp8, hb8⟩; have N8 := hid (N6.out.new HTT.out.toT9c hb8); have P8 := hid hp8; clear hp8 hb8)
    | (refine Great.wpList_allocTo rfl _ rfl _ _ (HAC.out _ _ _ rfl) ?_)
    | (refine wpList_store_row rfl _ (.tmp 14) (.tmp 106) rfl w8.heap.size (cutV lf A9 k k).toArray rfl rfl 83 (cutV n32 none 0 0).toArray (At.new _ _ _) (sizeCut_of HLF.out) (by rw [List.size_toArray, List.size_toArray, cutV_length n32_length, cutV_length HLF.out]) (cutV_one _ _ _ _) ?_; have hb9 : Below w8.heap.size w8 ((w8.alloc (.cells (cutV n32 none 0 0).toArray 83)).setRow w8.heap.size (cutV lf A9 k k).toArray) := below_setRow ((Below.refl _ _).alloc (Nat.le_refl _) _) (Nat.le_refl _) _; have M9 := hid (show MkD Pt w S b k L A1 E M #[.int .i64 (k : Int), .slice A1 NL c1, .slice E 33 cE] w8.heap.size lf ps A9 ((w8.alloc (.cells (cutV n32 none 0 0).toArray 83)).setRow w8.heap.size (cutV lf A9 k k).toArray) from ⟨N8.out.new HTT.out.toT9c hb9, setRow_heap _ _ _ _ _ _ (At.new w8 _ 83), rd_on P8.out hb9⟩); clear hb9; generalize ((w8.alloc (.cells (cutV n32 none 0 0).toArray 83)).setRow w8.heap.size (cutV lf A9 k k).toArray) = w9 at M9 ⊢; generalize w8.heap.size = G9 at M9 ⊢))
  go_upto_region 20 with (first
    | (refine wpList_valW (by rfl) (run_loadTr (.tmp 8) rfl M rfl #[.int .i64 (k : Int), .slice A1 NL c1, .slice E 33 cE] M9.out.x.m (HSZ.out _ rfl)) ?_)
    | (go_at_call 15; refine (HHA.out w9 A1 E c1 cE).mono ?_; rintro ra wa ⟨rfl, hba⟩; have Na := hid (M9.out.new HTT.out.toT9c hba); clear hba))
  go_upto_region 21 with (first
    | (go_at_call 53; refine (HNC.out wa).mono ?_; rintro rc wc ⟨rfl, hbc⟩; have Nc := hid (Na.out.new HTT.out.toT9c hbc); clear hbc)
    | (refine Great.wpList_allocTo rfl _ rfl _ _ (HAC.out _ _ _ rfl) ?_)
    | (refine wpList_store_row rfl _ (.tmp 15) (.tmp 128) rfl wc.heap.size (cutV n32 none 0 0).toArray rfl rfl 83 (cutV n32 none 0 0).toArray (At.new _ _ _) (sizeCut_of HNL.out) (Eq.refl _) (cutV_one _ _ _ _) ?_; have Nd := hid (Nc.out.new HTT.out.toT9c (show Below wc.heap.size wc ((wc.alloc (.cells (cutV n32 none 0 0).toArray 83)).setRow wc.heap.size (cutV n32 none 0 0).toArray) from below_setRow ((Below.refl _ _).alloc (Nat.le_refl _) _) (Nat.le_refl _) _)); generalize ((wc.alloc (.cells (cutV n32 none 0 0).toArray 83)).setRow wc.heap.size (cutV n32 none 0 0).toArray) = wd at Nd ⊢))
  go_wp2_with (first
    | (go_at_call 52; refine (HNW.out wd).mono ?_; rintro re we ⟨rfl, hbe⟩; have Ne := hid (Nd.out.new HTT.out.toT9c hbe); clear hbe)
    | (refine Great.wpList_allocTo rfl _ rfl _ _ (HAW.out _ _ _ rfl) ?_)
    | (refine wpList_store_row rfl _ (.tmp 17) (.tmp 133) rfl we.heap.size Q0 rfl rfl 72 Q0 (At.new _ _ _) (by rw [HQS.out]; exact HSW.out) (Eq.refl _) HQ1.out ?_; have Nf := hid (Ne.out.new HTT.out.toT9c (show Below we.heap.size we ((we.alloc (.cells Q0 72)).setRow we.heap.size Q0) from below_setRow ((Below.refl _ _).alloc (Nat.le_refl _) _) (Nat.le_refl _) _)); generalize ((we.alloc (.cells Q0 72)).setRow we.heap.size Q0) = wf at Nf ⊢))
  try simp only [Act.put, List.setIfInBounds_toArray, List.set_cons_succ, List.set_cons_zero]
  refine wp_region_facts 29 29 [135, 136, 137, 138, 139, 140, 141, 142, 143, 144, 145, 146, 147, 148, 149, 150, 151, 152, 153, 154, 155, 156, 157, 158, 159, 160, 161, 162, 6] (mlF12 G9 A9 k bl i #[.int .i64 (k : Int), .slice A1 NL c1, .slice E 33 cE] lf ps) (MkD Pt w S b k L A1 E M #[.int .i64 (k : Int), .slice A1 NL c1, .slice E 33 cE] G9 lf ps A9) (by kernel_rfl) (by kernel_rfl)
    (fun V V' h hb => h.new HTT.out.toT9c hb) (fun _ _ _ _ h hb => mlF12_new h hb) (Nf.out.new HTT.out.toT9c (Below.refl _ _).drew) ?_ ?_
  · intro j hj vals W1 K hB hn hK
    simp only [frm_cons, frm_nil, List.set_cons_succ, List.set_cons_zero, Nat.reduceAdd] at hK ⊢
    rcases (by omega : j = 0 ∨ j = 1 ∨ j = 2 ∨ j = 3 ∨ j = 4 ∨ j = 5 ∨ j = 6 ∨ j = 7 ∨ j = 8 ∨ j = 9 ∨ j = 10 ∨ j = 11 ∨ j = 12 ∨ j = 13 ∨ j = 14 ∨ j = 15 ∨ j = 16 ∨ j = 17 ∨ j = 18 ∨ j = 19 ∨ j = 20 ∨ j = 21 ∨ j = 22 ∨ j = 23 ∨ j = 24 ∨ j = 25 ∨ j = 26 ∨ j = 27 ∨ j = 28) with rfl | rfl | rfl | rfl | rfl | rfl | rfl | rfl | rfl | rfl | rfl | rfl | rfl | rfl | rfl | rfl | rfl | rfl | rfl | rfl | rfl | rfl | rfl | rfl | rfl | rfl | rfl | rfl | rfl
    · refine wpOp_plain rfl rfl (wp_val (w' := W1) (v := .nilIface) (by go_simp) ?_)
      exact hK _ _ ⟨fun h => absurd h (by decide), fun _ => rfl⟩ (Below.refl _ _)
    · have h0 := hn 0 (by decide +kernel)
      have e0 := h0.2 (by decide)
      simp only [ml12] at e0
      simp only [e0] at hK ⊢
      refine wpOp_plain rfl rfl (wp_val (w' := W1) (v := .bool true) (by go_simp) ?_)
      exact hK _ _ ⟨fun h => absurd h (by decide), fun _ => rfl⟩ (Below.refl _ _)
    · have h1 := hn 1 (by decide +kernel)
      have e1 := h1.2 (by decide)
      simp only [ml12] at e1
      simp only [e1] at hK ⊢
      refine wpOp_plain rfl rfl (wp_val (w' := W1) (v := .bool true) (by go_simp) ?_)
      exact hK _ _ ⟨fun h => absurd h (by decide), fun _ => rfl⟩ (Below.refl _ _)
    · have h2 := hn 2 (by decide +kernel)
      have e2 := h2.2 (by decide)
      simp only [ml12] at e2
      simp only [e2] at hK ⊢
      refine wpOp_on rfl (by rfl) (wp_val (w' := W1) (v := .pointer (some ⟨G9, 0, none⟩)) (by go_simp) ?_)
      exact hK _ _ ⟨fun h => absurd h (by decide), fun _ => rfl⟩ (Below.refl _ _)
    · have h2 := hn 2 (by decide +kernel)
      have h3 := hn 3 (by decide +kernel)
      have e2 := h2.2 (by decide)
      simp only [ml12] at e2
      have e3 := h3.2 (by decide)
      simp only [ml12] at e3
      simp only [e2, e3] at hK ⊢
      refine wpOp_on rfl (by rfl) (wp_val (run_loadH (.tmp 138) rfl G9 0 rfl lf (cutV_range hB.g) HLF.out) ?_)
      exact hK _ _ ⟨fun h => absurd h (by decide), fun _ => rfl⟩ (Below.refl _ _)
    · have h2 := hn 2 (by decide +kernel)
      have e2 := h2.2 (by decide)
      simp only [ml12] at e2
      simp only [e2] at hK ⊢
      refine wpOp_on rfl (by rfl) (wp_val (run_loadTr (.tmp 8) rfl M rfl #[.int .i64 (k : Int), .slice A1 NL c1, .slice E 33 cE] hB.x.m (HSZ.out _ rfl)) ?_)
      exact hK _ _ ⟨fun h => absurd h (by decide), fun _ => rfl⟩ (Below.refl _ _)
    · have h2 := hn 2 (by decide +kernel)
      have e2 := h2.2 (by decide)
      simp only [ml12] at e2
      simp only [e2] at hK ⊢
      refine wpOp_on rfl (by rfl) (wp_val (w' := W1) (v := .int .u64 (bl : Int)) (by go_simp) ?_)
      exact hK _ _ ⟨fun h => absurd h (by decide), fun _ => rfl⟩ (Below.refl _ _)
    · have h2 := hn 2 (by decide +kernel)
      have h6 := hn 6 (by decide +kernel)
      have e2 := h2.2 (by decide)
      simp only [ml12] at e2
      have e6 := h6.2 (by decide)
      simp only [ml12] at e6
      simp only [e2, e6] at hK ⊢
      have q1 := E1.out
      have q2 := EW1.out
      refine wpOp_on rfl (by rfl) (wp_val (w' := W1) (v := .int .u64 (i : Int)) (by go_simp) ?_)
      exact hK _ _ ⟨fun h => absurd h (by decide), fun _ => rfl⟩ (Below.refl _ _)
    · have h2 := hn 2 (by decide +kernel)
      have h5 := hn 5 (by decide +kernel)
      have h7 := hn 7 (by decide +kernel)
      have e2 := h2.2 (by decide)
      simp only [ml12] at e2
      have e5 := h5.2 (by decide)
      simp only [ml12] at e5
      have e7 := h7.2 (by decide)
      simp only [ml12] at e7
      simp only [e2, e5, e7] at hK ⊢
      refine wpOp_on rfl (by rfl) ?_
      go_simp
      go_at_call 17
      refine (HNR.out W1 A1 E c1 cE hB.x.bl hB.x.l hB.x.e).mono ?_
      rintro e W' ⟨rfl, hb⟩
      exact hK _ _ ⟨fun h => absurd h (by decide), fun _ => rfl⟩ hb
    · have h2 := hn 2 (by decide +kernel)
      have h4 := hn 4 (by decide +kernel)
      have h8 := hn 8 (by decide +kernel)
      have e2 := h2.2 (by decide)
      simp only [ml12] at e2
      have e4 := h4.2 (by decide)
      simp only [ml12] at e4
      have e8 := h8.2 (by decide)
      simp only [ml12] at e8
      simp only [e2, e4, e8] at hK ⊢
      refine wpOp_on rfl (by rfl) (wp_val (run_eqlH _ (.tmp 139) (.tmp 143) rfl lf lf HLF.out HLF.out rfl rfl true (by simp) W1) ?_)
      exact hK _ _ ⟨fun h => absurd h (by decide), fun _ => rfl⟩ (Below.refl _ _)
    · have h2 := hn 2 (by decide +kernel)
      have h9 := hn 9 (by decide +kernel)
      have e2 := h2.2 (by decide)
      simp only [ml12] at e2
      have e9 := h9.2 (by decide)
      simp only [ml12] at e9
      simp only [e2, e9] at hK ⊢
      refine wpOp_plain rfl rfl (wp_val (w' := W1) (v := .bool true) (by go_simp) ?_)
      exact hK _ _ ⟨fun h => absurd h (by decide), fun _ => rfl⟩ (Below.refl _ _)
    · have h10 := hn 10 (by decide +kernel)
      have e10 := h10.2 (by decide)
      simp only [ml12] at e10
      simp only [e10] at hK ⊢
      refine wpOp_plain rfl rfl (wp_val (w' := W1) (v := .bool true) (by go_simp) ?_)
      exact hK _ _ ⟨fun h => absurd h (by decide), fun _ => rfl⟩ (Below.refl _ _)
    · have h11 := hn 11 (by decide +kernel)
      have e11 := h11.2 (by decide)
      simp only [ml12] at e11
      simp only [e11] at hK ⊢
      refine wpOp_on rfl (by rfl) (wp_val (w' := W1) (v := .pointer (some ⟨G9, 32, none⟩)) (by go_simp) ?_)
      exact hK _ _ ⟨fun h => absurd h (by decide), fun _ => rfl⟩ (Below.refl _ _)
    · have h11 := hn 11 (by decide +kernel)
      have h12 := hn 12 (by decide +kernel)
      have e11 := h11.2 (by decide)
      simp only [ml12] at e11
      have e12 := h12.2 (by decide)
      simp only [ml12] at e12
      simp only [e11, e12] at hK ⊢
      have q32 := cutV_cell hB.g HLF.out
      refine wpOp_on rfl (by rfl) (wp_val (w' := W1) (v := .slice A9 k k) (by go_simp) ?_)
      exact hK _ _ ⟨fun h => absurd h (by decide), fun _ => rfl⟩ (Below.refl _ _)
    · have h11 := hn 11 (by decide +kernel)
      have e11 := h11.2 (by decide)
      simp only [ml12] at e11
      simp only [e11] at hK ⊢
      refine wpOp_on rfl (by rfl) (wp_val (run_loadTr (.tmp 8) rfl M rfl #[.int .i64 (k : Int), .slice A1 NL c1, .slice E 33 cE] hB.x.m (HSZ.out _ rfl)) ?_)
      exact hK _ _ ⟨fun h => absurd h (by decide), fun _ => rfl⟩ (Below.refl _ _)
    · have h11 := hn 11 (by decide +kernel)
      have e11 := h11.2 (by decide)
      simp only [ml12] at e11
      simp only [e11] at hK ⊢
      refine wpOp_on rfl (by rfl) (wp_val (w' := W1) (v := .int .u64 (bl : Int)) (by go_simp) ?_)
      exact hK _ _ ⟨fun h => absurd h (by decide), fun _ => rfl⟩ (Below.refl _ _)
    · have h11 := hn 11 (by decide +kernel)
      have h15 := hn 15 (by decide +kernel)
      have e11 := h11.2 (by decide)
      simp only [ml12] at e11
      have e15 := h15.2 (by decide)
      simp only [ml12] at e15
      simp only [e11, e15] at hK ⊢
      have q1 := E1.out
      have q2 := EW1.out
      refine wpOp_on rfl (by rfl) (wp_val (w' := W1) (v := .int .u64 (i : Int)) (by go_simp) ?_)
      exact hK _ _ ⟨fun h => absurd h (by decide), fun _ => rfl⟩ (Below.refl _ _)
    · have h11 := hn 11 (by decide +kernel)
      have h14 := hn 14 (by decide +kernel)
      have h16 := hn 16 (by decide +kernel)
      have e11 := h11.2 (by decide)
      simp only [ml12] at e11
      have e14 := h14.2 (by decide)
      simp only [ml12] at e14
      have e16 := h16.2 (by decide)
      simp only [ml12] at e16
      simp only [e11, e14, e16] at hK ⊢
      refine wpOp_on rfl (by rfl) ?_
      go_simp
      go_at_call 21
      refine (HPR.out W1 A1 E c1 cE hB.x.bl hB.x.l hB.x.e).mono ?_
      rintro e W' ⟨A2, c2, rfl, hr2, hb⟩
      exact hK _ _ ⟨fun _ => ⟨A2, c2, rfl, hr2⟩, fun h => absurd rfl h⟩ hb
    · have h11 := hn 11 (by decide +kernel)
      have h13 := hn 13 (by decide +kernel)
      have h17 := hn 17 (by decide +kernel)
      have e11 := h11.2 (by decide)
      simp only [ml12] at e11
      have e13 := h13.2 (by decide)
      simp only [ml12] at e13
      obtain ⟨A2, c2, e17, R17⟩ := h17.1 rfl
      simp only [e11, e13, e17] at hK ⊢
      refine wpOp_on rfl (by rfl) ?_
      go_simp
      go_at_call 20
      refine (HHP.out W1 A9 A2 k c2 hB.p R17).mono ?_
      rintro e W' ⟨rfl, hb⟩
      exact hK _ _ ⟨fun h => absurd h (by decide), fun _ => rfl⟩ hb
    · have h11 := hn 11 (by decide +kernel)
      have h18 := hn 18 (by decide +kernel)
      have e11 := h11.2 (by decide)
      simp only [ml12] at e11
      have e18 := h18.2 (by decide)
      simp only [ml12] at e18
      simp only [e11, e18] at hK ⊢
      refine wpOp_plain rfl rfl (wp_val (w' := W1) (v := .bool true) (by go_simp) ?_)
      exact hK _ _ ⟨fun h => absurd h (by decide), fun _ => rfl⟩ (Below.refl _ _)
    · have h19 := hn 19 (by decide +kernel)
      have e19 := h19.2 (by decide)
      simp only [ml12] at e19
      simp only [e19] at hK ⊢
      refine wpOp_plain rfl rfl (wp_val (w' := W1) (v := .bool true) (by go_simp) ?_)
      exact hK _ _ ⟨fun h => absurd h (by decide), fun _ => rfl⟩ (Below.refl _ _)
    · have h20 := hn 20 (by decide +kernel)
      have e20 := h20.2 (by decide)
      simp only [ml12] at e20
      simp only [e20] at hK ⊢
      refine wpOp_on rfl (by rfl) (wp_val (w' := W1) (v := .iface 42 (.int .i64 11)) (by go_simp) ?_)
      exact hK _ _ ⟨fun h => absurd h (by decide), fun _ => rfl⟩ (Below.refl _ _)
    · have h20 := hn 20 (by decide +kernel)
      have h21 := hn 21 (by decide +kernel)
      have e20 := h20.2 (by decide)
      simp only [ml12] at e20
      have e21 := h21.2 (by decide)
      simp only [ml12] at e21
      simp only [e20, e21] at hK ⊢
      refine wpOp_on rfl (by rfl) ?_
      go_simp
      go_at_call 16
      refine (HI11.out W1).mono ?_
      rintro e W' ⟨rfl, hw⟩
      exact hK _ _ ⟨fun h => absurd h (by decide), fun _ => rfl⟩ (by rw [← hw]; exact Below.refl _ _)
    · have h20 := hn 20 (by decide +kernel)
      have h22 := hn 22 (by decide +kernel)
      have e20 := h20.2 (by decide)
      simp only [ml12] at e20
      have e22 := h22.2 (by decide)
      simp only [ml12] at e22
      simp only [e20, e22] at hK ⊢
      refine wpOp_plain rfl rfl (wp_val (w' := W1) (v := .bool true) (by go_simp) ?_)
      exact hK _ _ ⟨fun h => absurd h (by decide), fun _ => rfl⟩ (Below.refl _ _)
    · have h23 := hn 23 (by decide +kernel)
      have e23 := h23.2 (by decide)
      simp only [ml12] at e23
      simp only [e23] at hK ⊢
      refine wpOp_plain rfl rfl (wp_val (w' := W1) (v := .bool true) (by go_simp) ?_)
      exact hK _ _ ⟨fun h => absurd h (by decide), fun _ => rfl⟩ (Below.refl _ _)
    · have h24 := hn 24 (by decide +kernel)
      have e24 := h24.2 (by decide)
      simp only [ml12] at e24
      simp only [e24] at hK ⊢
      refine wpOp_on rfl (by rfl) (wp_val (w' := W1) (v := .iface 42 (.int .i64 11)) (by go_simp) ?_)
      exact hK _ _ ⟨fun h => absurd h (by decide), fun _ => rfl⟩ (Below.refl _ _)
    · have h24 := hn 24 (by decide +kernel)
      have h25 := hn 25 (by decide +kernel)
      have e24 := h24.2 (by decide)
      simp only [ml12] at e24
      have e25 := h25.2 (by decide)
      simp only [ml12] at e25
      simp only [e24, e25] at hK ⊢
      refine wpOp_on rfl (by rfl) ?_
      go_simp
      go_at_call 16
      refine (HI11.out W1).mono ?_
      rintro e W' ⟨rfl, hw⟩
      exact hK _ _ ⟨fun h => absurd h (by decide), fun _ => rfl⟩ (by rw [← hw]; exact Below.refl _ _)
    · have h24 := hn 24 (by decide +kernel)
      have h26 := hn 26 (by decide +kernel)
      have e24 := h24.2 (by decide)
      simp only [ml12] at e24
      have e26 := h26.2 (by decide)
      simp only [ml12] at e26
      simp only [e24, e26] at hK ⊢
      refine wpOp_plain rfl rfl (wp_val (w' := W1) (v := .bool true) (by go_simp) ?_)
      exact hK _ _ ⟨fun h => absurd h (by decide), fun _ => rfl⟩ (Below.refl _ _)
    · have h27 := hn 27 (by decide +kernel)
      have e27 := h27.2 (by decide)
      simp only [ml12] at e27
      simp only [e27] at hK ⊢
      refine wpOp_plain rfl rfl (wp_val (w' := W1) (v := .bool true) (by go_simp) ?_)
      exact hK _ _ ⟨fun h => absurd h (by decide), fun _ => rfl⟩ (Below.refl _ _)
  · intro vals W1 hB hF
    have h28 := hF 28 (by omega)
    have e28 := h28.2 (by decide)
    simp only [ml12] at e28
    simp only [frm_cons, frm_nil, List.set_cons_succ, List.set_cons_zero, Nat.reduceAdd, e28]
    refine wpUpto_done (by decide +kernel) ?_ _
    have NX9 := hid hB.x.bl
    clear hB hF h28
    go_simp
    go_wp2
    go_ret
    exact ⟨rfl, NX9.out⟩
end Go.Proofs.YtdegmcfcbndelaaDoor
