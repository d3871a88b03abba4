/-
  Layer 12: StepMakes, one of its ways.
  Layer 12: StepMakes, one of its ways.
-/
import Derived.Test.YtdegmcfcbndelaaDoorLC
namespace Go.Proofs.YtdegmcfcbndelaaDoor
open Go.RowKit

set_option maxRecDepth 100000 in
set_option maxHeartbeats 8000000 in
theorem stepMakes_cz {Pt : PtT} {w : World} (t : T12 Pt w) (HALV : Alive12C w) (h : Int) (sc : List Act9) (A : Option Addr) (c : Nat) (l : List Nat) (AI : Option Addr) (cI : Nat) (hsc : Av w w.heap.size A sc) (ho : okA sc) (hr : Nu w w.heap.size AI l) (hok : okN l) (hT : Tabr w) (hI : Tab w 1 IV.l) (hq : ¬ 40 < l.length) (hb : bothB h sc.length) (hg : rgtB h l = false) (hn : 0 < l.length) (hz : l[0] = 0) :
    Calls Tryd.prog 10 #[.int .i64 h, .slice A sc.length c, .slice AI l.length cI] w fun r w' => r = .returned (.bool true) ∧ Below w.heap.size w w' := by
  have HAL := hid (HALV w (Below.refl _ _))
  have HAT := hid (fun (o : Oper) (a : Go.Act) (W : World) (h : o.op = .alloc 33) => run_alloc_of (o := o) (a := a) (W := W) _ h _ zeroTr)
  obtain ⟨Z, hZ⟩ : ∃ Z : Array Value, Z = #[.int .i64 0, .slice none 0 0, .slice none 0 0] := ⟨_, rfl⟩
  have HZS := hid (sizeTr_of Z (by rw [hZ]; rfl))
  have HZE := hid hZ
  have HZ1 := hid (show Z.all (·.oneCell') = true by rw [hZ]; simp [Value.oneCell'])
  have HSZ := hid (fun (cs : Array Value) (e : cs.size = 3) => sizeTr_of cs e)
  rw [← hZ] at HAT
  have HTT := hid t
  obtain ⟨k, rfl⟩ : ∃ k : Nat, h = (k : Int) := ⟨h.toNat, by unfold bothB at hb; omega⟩
  have hk : k ≤ 32 := by unfold bothB at hb; omega
  have hl : sc.length ≤ 25 := by unfold bothB at hb; omega
  have hIB := fun (V : World) (q : Below w.heap.size w V) => Tab.below (x := IV.a) (xs := [IV.b, IV.c, IV.d, IV.e, IV.f, IV.g, IV.h]) hI q
  have HBO := hid (fun (V : World) (q : Below w.heap.size w V) => both_ok t.toT9c k sc A c V q ((hsc.below q).mono q.size) ho hl hk (hT.below q) (hIB V q))
  have hgd := Gd.acts hk ho
  have hbn := Gd.bnd (h := k) sc
  obtain ⟨L, hL⟩ : ∃ L, L = acts9 k sc := ⟨_, rfl⟩
  rw [← hL] at HBO hgd hbn
  have hL1 : L.length ≤ 1000 := by omega
  obtain ⟨NL, hNL⟩ : ∃ m, m = L.length := ⟨_, rfl⟩
  rw [← hNL] at HBO
  have HRR := hid (fun (V : World) (q : Below w.heap.size w V) => right10R_any (k : Int) l AI cI V (hr.later q))
  rw [hg] at HRR
  have HIS := hid (fun V => show Calls Tryd.prog 16 #[.iface 42 (.int .i64 1), .int .i64 1] V (fun e w' => e = .returned (.bool true) ∧ V = w') from by
    have := eis_any 1 1 V
    exact this)
  obtain ⟨bl, hbl⟩ : ∃ b, b = l[0] := ⟨_, rfl⟩
  rw [← hbl] at hz
  have hbl64 : bl < 18446744073709551616 := by
    rw [hbl]
    exact hok _ (List.getElem_mem _)
  have HAC := hid (fun (o : Oper) (a : Go.Act) (W : World) (h : o.op = .alloc 83) => run_alloc_of (o := o) (a := a) (W := W) _ h _ zeroCut12)
  obtain ⟨Q0, hQ0⟩ : ∃ Q : Array Value, Q = #[.slice none 0 0, .slice none 0 0, .slice none 0 0] := ⟨_, rfl⟩
  have HAW := hid (fun (o : Oper) (a : Go.Act) (W : World) (h : o.op = .alloc 72) => show (execOp a.eval o).run Tryd.prog W = .ok (.value (.pointer (some ⟨W.heap.size, 0, none⟩))) (W.alloc (.cells Q0 72)) from by rw [hQ0]; exact run_alloc_of (o := o) (a := a) (W := W) _ h _ zeroWrite12)
  have HQS := hid (show Q0.size = 3 by rw [hQ0]; rfl)
  have HQ1 := hid (show Q0.all (·.oneCell') = true by rw [hQ0]; exact three_one _ _ _ _ _ _ _ _ _)
  have HQE := hid hQ0
  have HSW := hid sizeWriteO12
  have HNL := hid n32_length
  subst hz
  obtain ⟨i, hi⟩ : ∃ i, i = 18446744073709551615 := ⟨_, rfl⟩
  have hw : IntKind.u64.wrap (((0 : Nat) : Int) - 1) = (i : Int) := by rw [hi]; rfl
  have hh : hasB k 0 i = false := by rw [hi]; exact has_no hk
  have hi64 : i < 18446744073709551616 := by omega
  have HMC := hid (fun (V : World) (q : Below w.heap.size w V) (S : Nat → Prop) (b : Nat) (p : Pt S V b k L) => show Calls Tryd.prog 53 #[.pointer (some ⟨b, 0, none⟩), .int .u64 0] V (fun r W' => r = .returned (.tuple #[.agg (cutV n32 none 0 0).toArray, .iface 42 (.int .i64 1)]) ∧ Below V.heap.size V W') from
    pmakeCut_bad (.pointer (some ⟨b, 0, none⟩)) 1 (by omega) i 0 V hw (fun V' q' => by
      have := HTT.out.leafOk i (q.trans (q'.mono q.size)) (HTT.out.toT9c.new p q') hL1 hi64
      rw [hh] at this
      exact this))
  have HMW := hid (fun (V : World) (q : Below w.heap.size w V) (S : Nat → Prop) (b : Nat) (p : Pt S V b k L) => show Calls Tryd.prog 52 #[.pointer (some ⟨b, 0, none⟩), .slice AI l.length cI] V (fun r W' => r = .returned (.tuple #[.agg Q0, .iface 42 (.int .i64 1)]) ∧ Below V.heap.size V W') from by
    rw [hQ0]
    exact pmakeWrite_bad (.pointer (some ⟨b, 0, none⟩)) 1 (by omega) AI l.length cI V (fun V' q' => pmake10_no HTT.out.toT9c (q.trans (q'.mono q.size)) (HTT.out.toT9c.new p q') l AI cI (hr.later (q.trans (q'.mono q.size))) hg))
  have HR0 := hid (fun (V : World) (q : Below w.heap.size w V) => (hr.later q).at hn)
  rw [← hbl] at HR0
  obtain ⟨n, hnn⟩ : ∃ n, n = l.length := ⟨_, rfl⟩
  rw [← hnn] at hn hq HRR HMW ⊢
  have d0 : decide (40 < (n : Int)) = false := by simp; omega
  have d0n : decide (40 < n) = false := by simp; omega
  have d3 : decide (0 < (n : Int)) = true := by simp; omega
  have d3n : decide (0 < n) = true := by simp; omega
  have ik : (0 : Int) < (n : Int) := by omega
  generalize sc.length = m at HBO ⊢
  clear HALV hsc ho hr hok hT hI hq hb hg hZ hk hl hIB hgd hbn hL hL1 hNL hbl64 hQ0 hi hi64 hw hh t hnn hn hbl
  go_enter Tryd.func10, Tryd.ntmps10
  go_upto_region 3 with (first
    | (go_at_call 40; refine HAL.out.mono ?_; rintro r1 w1 ⟨rfl, hb1⟩; have B1 := hid hb1; clear hb1))
  go_upto_region 5 with fail
  go_upto_region 6 with (first
    | (go_at_call 13; refine (HBO.out w1 B1.out).mono ?_; rintro r2 w2 ⟨S, b, A1, E, c1, cE, rfl, hk2⟩; simp only [ptr]; have K2 := hid hk2; have B2 := hid (B1.out.trans (hk2.below.mono B1.out.size)); clear hk2)
    | (refine Great.wpList_allocTo rfl _ rfl _ _ (HAT.out _ _ _ rfl) ?_)
    | (refine wpList_store_row rfl _ (.tmp 8) (.tmp 29) rfl w2.heap.size #[.int .i64 (k : Int), .slice A1 NL c1, .slice E 33 cE] rfl rfl 33 Z (At.new _ _ _) (HSZ.out _ rfl) ?x2 ?x3 ?x4; rotate_right; have hb3 : Below w2.heap.size w2 ((w2.alloc (.cells Z 33)).setRow w2.heap.size #[.int .i64 (k : Int), .slice A1 NL c1, .slice E 33 cE]) := below_setRow ((Below.refl _ _).alloc (Nat.le_refl _) _) (Nat.le_refl _) _; have N3 := hid (show MkB Pt w S b k L A1 E w2.heap.size #[.int .i64 (k : Int), .slice A1 NL c1, .slice E 33 cE] ((w2.alloc (.cells Z 33)).setRow w2.heap.size #[.int .i64 (k : Int), .slice A1 NL c1, .slice E 33 cE]) from ⟨HTT.out.toT9c.new K2.out.t hb3, K2.out.l.new hb3, K2.out.e.new hb3, setRow_heap _ _ _ _ _ _ (At.new w2 Z 33), B2.out.trans (hb3.mono B2.out.size)⟩); clear hb3; generalize ((w2.alloc (.cells Z 33)).setRow w2.heap.size #[.int .i64 (k : Int), .slice A1 NL c1, .slice E 33 cE]) = w3 at N3 ⊢; generalize w2.heap.size = M at N3 ⊢))
  case x2 => rw [HZE.out]; rfl
  case x3 => simp [Value.oneCell']
  go_upto_region 8 with fail
  go_upto_region 9 with (first
    | (go_at_call 52; refine (HMW.out w3 N3.out.bl S b N3.out.t).mono ?_; rintro r4 w4 ⟨rfl, hb4⟩; have N4 := hid (N3.out.new HTT.out.toT9c hb4); clear hb4)
    | (refine Great.wpList_allocTo rfl _ rfl _ _ (HAW.out _ _ _ rfl) ?_)
    | (refine wpList_store_row rfl _ (.tmp 11) (.tmp 43) rfl w4.heap.size Q0 rfl rfl 72 Q0 (At.new _ _ _) (by rw [HQS.out]; exact HSW.out) (Eq.refl _) HQ1.out ?_; have hb5 : Below w4.heap.size w4 ((w4.alloc (.cells Q0 72)).setRow w4.heap.size Q0) := below_setRow ((Below.refl _ _).alloc (Nat.le_refl _) _) (Nat.le_refl _) _; have N5 := hid (N4.out.new HTT.out.toT9c hb5); have G5 := hid (show At ((w4.alloc (.cells Q0 72)).setRow w4.heap.size Q0) w4.heap.size #[.slice none 0 0, .slice none 0 0, .slice none 0 0] 72 from by rw [← HQE.out]; exact setRow_heap _ _ _ _ _ _ (At.new w4 Q0 72)); clear hb5; generalize ((w4.alloc (.cells Q0 72)).setRow w4.heap.size Q0) = w5 at N5 G5 ⊢; generalize w4.heap.size = G at G5 ⊢))
  go_upto_region 14 with (first
    | (go_at_call 31; refine (HRR.out w5 N5.out.bl).mono ?_; rintro r6 w6 ⟨rfl, hb6⟩; have N6 := hid (N5.out.new HTT.out.toT9c hb6); have G6 := hid (G5.out.new_ hb6); clear hb6; obtain ⟨q0, q1, q2⟩ := write_cells G6.out)
    | (go_at_call 16; refine (HIS.out _).mono ?_; rintro ri wi ⟨rfl, hwi⟩; rw [← hwi]; clear hwi))
  go_upto_region 15 with fail
  obtain ⟨g0, o0, rfl, -, q9⟩ := HR0.out w6 N6.out.bl
  rw [Nat.add_zero] at q9
  go_upto_region 17 with fail
  go_upto_region 18 with (first
    | (go_at_call 53; refine (HMC.out w6 N6.out.bl S b N6.out.t).mono ?_; rintro r8 w8 ⟨rfl, hb8⟩; have N8 := hid (N6.out.new HTT.out.toT9c hb8); clear hb8)
    | (refine Great.wpList_allocTo rfl _ rfl _ _ (HAC.out _ _ _ rfl) ?_)
    | (refine wpList_store_row rfl _ (.tmp 14) (.tmp 106) rfl w8.heap.size (cutV n32 none 0 0).toArray rfl rfl 83 (cutV n32 none 0 0).toArray (At.new _ _ _) (sizeCut_of HNL.out) (Eq.refl _) (cutV_one _ _ _ _) ?_; have hb9 : Below w8.heap.size w8 ((w8.alloc (.cells (cutV n32 none 0 0).toArray 83)).setRow w8.heap.size (cutV n32 none 0 0).toArray) := below_setRow ((Below.refl _ _).alloc (Nat.le_refl _) _) (Nat.le_refl _) _; have M9 := hid (N8.out.new HTT.out.toT9c hb9); have G9c := hid (show At ((w8.alloc (.cells (cutV n32 none 0 0).toArray 83)).setRow w8.heap.size (cutV n32 none 0 0).toArray) w8.heap.size (cutV n32 none 0 0).toArray 83 from setRow_heap _ _ _ _ _ _ (At.new w8 _ 83)); clear hb9; generalize ((w8.alloc (.cells (cutV n32 none 0 0).toArray 83)).setRow w8.heap.size (cutV n32 none 0 0).toArray) = w9 at M9 G9c ⊢; generalize w8.heap.size = G9 at G9c ⊢; have q32 := cutV_cell G9c.out HNL.out))
  go_wp2_with (first
    | (go_at_call 16; refine (HIS.out _).mono ?_; rintro ri wi ⟨rfl, hwi⟩; rw [← hwi]; clear hwi))
  go_ret
  exact ⟨rfl, M9.out.bl⟩
end Go.Proofs.YtdegmcfcbndelaaDoor

namespace Go.Proofs.YtdegmcfcbndelaaDoor
open Go.RowKit

set_option maxRecDepth 100000 in
set_option maxHeartbeats 8000000 in
theorem stepMakes_cn {Pt : PtT} {w : World} (t : T12 Pt w) (HALV : Alive12C w) (h : Int) (sc : List Act9) (A : Option Addr) (c : Nat) (l : List Nat) (AI : Option Addr) (cI : Nat) (hsc : Av w w.heap.size A sc) (ho : okA sc) (hr : Nu w w.heap.size AI l) (hok : okN l) (hT : Tabr w) (hI : Tab w 1 IV.l) (hq : ¬ 40 < l.length) (hb : bothB h sc.length) (hg : rgtB h l = false) (hn : 0 < l.length) (hz : 0 < l[0]) (hh : hasB h.toNat 0 (l[0] - 1) = false) :
    Calls Tryd.prog 10 #[.int .i64 h, .slice A sc.length c, .slice AI l.length cI] w fun r w' => r = .returned (.bool true) ∧ Below w.heap.size w w' := by
  have HAL := hid (HALV w (Below.refl _ _))
  have HAT := hid (fun (o : Oper) (a : Go.Act) (W : World) (h : o.op = .alloc 33) => run_alloc_of (o := o) (a := a) (W := W) _ h _ zeroTr)
  obtain ⟨Z, hZ⟩ : ∃ Z : Array Value, Z = #[.int .i64 0, .slice none 0 0, .slice none 0 0] := ⟨_, rfl⟩
  have HZS := hid (sizeTr_of Z (by rw [hZ]; rfl))
  have HZE := hid hZ
  have HZ1 := hid (show Z.all (·.oneCell') = true by rw [hZ]; simp [Value.oneCell'])
  have HSZ := hid (fun (cs : Array Value) (e : cs.size = 3) => sizeTr_of cs e)
  rw [← hZ] at HAT
  have HTT := hid t
  obtain ⟨k, rfl⟩ : ∃ k : Nat, h = (k : Int) := ⟨h.toNat, by unfold bothB at hb; omega⟩
  have hk : k ≤ 32 := by unfold bothB at hb; omega
  have hl : sc.length ≤ 25 := by unfold bothB at hb; omega
  have hIB := fun (V : World) (q : Below w.heap.size w V) => Tab.below (x := IV.a) (xs := [IV.b, IV.c, IV.d, IV.e, IV.f, IV.g, IV.h]) hI q
  have HBO := hid (fun (V : World) (q : Below w.heap.size w V) => both_ok t.toT9c k sc A c V q ((hsc.below q).mono q.size) ho hl hk (hT.below q) (hIB V q))
  have hgd := Gd.acts hk ho
  have hbn := Gd.bnd (h := k) sc
  obtain ⟨L, hL⟩ : ∃ L, L = acts9 k sc := ⟨_, rfl⟩
  rw [← hL] at HBO hgd hbn
  have hL1 : L.length ≤ 1000 := by omega
  obtain ⟨NL, hNL⟩ : ∃ m, m = L.length := ⟨_, rfl⟩
  rw [← hNL] at HBO
  have HRR := hid (fun (V : World) (q : Below w.heap.size w V) => right10R_any (k : Int) l AI cI V (hr.later q))
  rw [hg] at HRR
  have HIS := hid (fun V => show Calls Tryd.prog 16 #[.iface 42 (.int .i64 1), .int .i64 1] V (fun e w' => e = .returned (.bool true) ∧ V = w') from by
    have := eis_any 1 1 V
    exact this)
  obtain ⟨bl, hbl⟩ : ∃ b, b = l[0] := ⟨_, rfl⟩
  rw [← hbl] at hz hh
  have hbl64 : bl < 18446744073709551616 := by
    rw [hbl]
    exact hok _ (List.getElem_mem _)
  have HAC := hid (fun (o : Oper) (a : Go.Act) (W : World) (h : o.op = .alloc 83) => run_alloc_of (o := o) (a := a) (W := W) _ h _ zeroCut12)
  obtain ⟨Q0, hQ0⟩ : ∃ Q : Array Value, Q = #[.slice none 0 0, .slice none 0 0, .slice none 0 0] := ⟨_, rfl⟩
  have HAW := hid (fun (o : Oper) (a : Go.Act) (W : World) (h : o.op = .alloc 72) => show (execOp a.eval o).run Tryd.prog W = .ok (.value (.pointer (some ⟨W.heap.size, 0, none⟩))) (W.alloc (.cells Q0 72)) from by rw [hQ0]; exact run_alloc_of (o := o) (a := a) (W := W) _ h _ zeroWrite12)
  have HQS := hid (show Q0.size = 3 by rw [hQ0]; rfl)
  have HQ1 := hid (show Q0.all (·.oneCell') = true by rw [hQ0]; exact three_one _ _ _ _ _ _ _ _ _)
  have HQE := hid hQ0
  have HSW := hid sizeWriteO12
  have HNL := hid n32_length
  obtain ⟨i, hi⟩ : ∃ i, i = bl - 1 := ⟨_, rfl⟩
  rw [← hi, Int.toNat_natCast] at hh
  have e1 : (bl : Int) - 1 = (i : Int) := by omega
  have ew1 : IntKind.u64.wrap (i : Int) = (i : Int) := by simp [IntKind.wrap, IntKind.signed, IntKind.bits]; omega
  have hw : IntKind.u64.wrap ((bl : Int) - 1) = (i : Int) := by rw [e1, ew1]
  have z0 : decide ((bl : Int) = 0) = false := by simp; omega
  have z0b : ((bl : Int) == 0) = false := by simp; omega
  have z0n : decide (bl = 0) = false := by simp; omega
  have hi64 : i < 18446744073709551616 := by omega
  have HMC := hid (fun (V : World) (q : Below w.heap.size w V) (S : Nat → Prop) (b : Nat) (p : Pt S V b k L) => show Calls Tryd.prog 53 #[.pointer (some ⟨b, 0, none⟩), .int .u64 (bl : Int)] V (fun r W' => r = .returned (.tuple #[.agg (cutV n32 none 0 0).toArray, .iface 42 (.int .i64 1)]) ∧ Below V.heap.size V W') from
    pmakeCut_bad (.pointer (some ⟨b, 0, none⟩)) 1 (by omega) i bl V hw (fun V' q' => by
      have := HTT.out.leafOk i (q.trans (q'.mono q.size)) (HTT.out.toT9c.new p q') hL1 hi64
      rw [hh] at this
      exact this))
  have HHA := hid (fun (V : World) (A1 E : Option Addr) (c1 cE : Nat) => show Calls Tryd.prog 15 #[.agg #[.int .i64 (k : Int), .slice A1 NL c1, .slice E 33 cE], .int .i64 0, .int .u64 (i : Int)] V (fun r w' => r = .returned (.bool false) ∧ Below V.heap.size V w') from by
    have := hasR_any k 0 i A1 E NL c1 33 cE V hk
    rw [hh] at this
    exact this)
  have HMW := hid (fun (V : World) (q : Below w.heap.size w V) (S : Nat → Prop) (b : Nat) (p : Pt S V b k L) => show Calls Tryd.prog 52 #[.pointer (some ⟨b, 0, none⟩), .slice AI l.length cI] V (fun r W' => r = .returned (.tuple #[.agg Q0, .iface 42 (.int .i64 1)]) ∧ Below V.heap.size V W') from by
    rw [hQ0]
    exact pmakeWrite_bad (.pointer (some ⟨b, 0, none⟩)) 1 (by omega) AI l.length cI V (fun V' q' => pmake10_no HTT.out.toT9c (q.trans (q'.mono q.size)) (HTT.out.toT9c.new p q') l AI cI (hr.later (q.trans (q'.mono q.size))) hg))
  have HR0 := hid (fun (V : World) (q : Below w.heap.size w V) => (hr.later q).at hn)
  rw [← hbl] at HR0
  obtain ⟨n, hnn⟩ : ∃ n, n = l.length := ⟨_, rfl⟩
  rw [← hnn] at hn hq HRR HMW ⊢
  have d0 : decide (40 < (n : Int)) = false := by simp; omega
  have d0n : decide (40 < n) = false := by simp; omega
  have d3 : decide (0 < (n : Int)) = true := by simp; omega
  have d3n : decide (0 < n) = true := by simp; omega
  have ik : (0 : Int) < (n : Int) := by omega
  generalize sc.length = m at HBO ⊢
  clear HALV hsc ho hr hok hT hI hq hb hg hZ hk hl hIB hgd hbn hL hL1 hNL hbl64 hQ0 hi hi64 hw hh t hnn hn hbl hz
  go_enter Tryd.func10, Tryd.ntmps10
  go_upto_region 3 with (first
    | (go_at_call 40; refine HAL.out.mono ?_; rintro r1 w1 ⟨rfl, hb1⟩; have B1 := hid hb1; clear hb1))
  go_upto_region 5 with fail
  go_upto_region 6 with (first
    | (go_at_call 13; refine (HBO.out w1 B1.out).mono ?_; rintro r2 w2 ⟨S, b, A1, E, c1, cE, rfl, hk2⟩; simp only [ptr]; have K2 := hid hk2; have B2 := hid (B1.out.trans (hk2.below.mono B1.out.size)); clear hk2)
    | (refine Great.wpList_allocTo rfl _ rfl _ _ (HAT.out _ _ _ rfl) ?_)
    | (refine wpList_store_row rfl _ (.tmp 8) (.tmp 29) rfl w2.heap.size #[.int .i64 (k : Int), .slice A1 NL c1, .slice E 33 cE] rfl rfl 33 Z (At.new _ _ _) (HSZ.out _ rfl) ?x2 ?x3 ?x4; rotate_right; have hb3 : Below w2.heap.size w2 ((w2.alloc (.cells Z 33)).setRow w2.heap.size #[.int .i64 (k : Int), .slice A1 NL c1, .slice E 33 cE]) := below_setRow ((Below.refl _ _).alloc (Nat.le_refl _) _) (Nat.le_refl _) _; have N3 := hid (show MkB Pt w S b k L A1 E w2.heap.size #[.int .i64 (k : Int), .slice A1 NL c1, .slice E 33 cE] ((w2.alloc (.cells Z 33)).setRow w2.heap.size #[.int .i64 (k : Int), .slice A1 NL c1, .slice E 33 cE]) from ⟨HTT.out.toT9c.new K2.out.t hb3, K2.out.l.new hb3, K2.out.e.new hb3, setRow_heap _ _ _ _ _ _ (At.new w2 Z 33), B2.out.trans (hb3.mono B2.out.size)⟩); clear hb3; generalize ((w2.alloc (.cells Z 33)).setRow w2.heap.size #[.int .i64 (k : Int), .slice A1 NL c1, .slice E 33 cE]) = w3 at N3 ⊢; generalize w2.heap.size = M at N3 ⊢))
  case x2 => rw [HZE.out]; rfl
  case x3 => simp [Value.oneCell']
  go_upto_region 8 with fail
  go_upto_region 9 with (first
    | (go_at_call 52; refine (HMW.out w3 N3.out.bl S b N3.out.t).mono ?_; rintro r4 w4 ⟨rfl, hb4⟩; have N4 := hid (N3.out.new HTT.out.toT9c hb4); clear hb4)
    | (refine Great.wpList_allocTo rfl _ rfl _ _ (HAW.out _ _ _ rfl) ?_)
    | (refine wpList_store_row rfl _ (.tmp 11) (.tmp 43) rfl w4.heap.size Q0 rfl rfl 72 Q0 (At.new _ _ _) (by rw [HQS.out]; exact HSW.out) (Eq.refl _) HQ1.out ?_; have hb5 : Below w4.heap.size w4 ((w4.alloc (.cells Q0 72)).setRow w4.heap.size Q0) := below_setRow ((Below.refl _ _).alloc (Nat.le_refl _) _) (Nat.le_refl _) _; have N5 := hid (N4.out.new HTT.out.toT9c hb5); have G5 := hid (show At ((w4.alloc (.cells Q0 72)).setRow w4.heap.size Q0) w4.heap.size #[.slice none 0 0, .slice none 0 0, .slice none 0 0] 72 from by rw [← HQE.out]; exact setRow_heap _ _ _ _ _ _ (At.new w4 Q0 72)); clear hb5; generalize ((w4.alloc (.cells Q0 72)).setRow w4.heap.size Q0) = w5 at N5 G5 ⊢; generalize w4.heap.size = G at G5 ⊢))
  go_upto_region 14 with (first
    | (go_at_call 31; refine (HRR.out w5 N5.out.bl).mono ?_; rintro r6 w6 ⟨rfl, hb6⟩; have N6 := hid (N5.out.new HTT.out.toT9c hb6); have G6 := hid (G5.out.new_ hb6); clear hb6; obtain ⟨q0, q1, q2⟩ := write_cells G6.out)
    | (go_at_call 16; refine (HIS.out _).mono ?_; rintro ri wi ⟨rfl, hwi⟩; rw [← hwi]; clear hwi))
  go_upto_region 15 with fail
  obtain ⟨g0, o0, rfl, -, q9⟩ := HR0.out w6 N6.out.bl
  rw [Nat.add_zero] at q9
  go_upto_region 17 with fail
  go_upto_region 18 with (first
    | (go_at_call 53; refine (HMC.out w6 N6.out.bl S b N6.out.t).mono ?_; rintro r8 w8 ⟨rfl, hb8⟩; have N8 := hid (N6.out.new HTT.out.toT9c hb8); clear hb8)
    | (refine Great.wpList_allocTo rfl _ rfl _ _ (HAC.out _ _ _ rfl) ?_)
    | (refine wpList_store_row rfl _ (.tmp 14) (.tmp 106) rfl w8.heap.size (cutV n32 none 0 0).toArray rfl rfl 83 (cutV n32 none 0 0).toArray (At.new _ _ _) (sizeCut_of HNL.out) (Eq.refl _) (cutV_one _ _ _ _) ?_; have hb9 : Below w8.heap.size w8 ((w8.alloc (.cells (cutV n32 none 0 0).toArray 83)).setRow w8.heap.size (cutV n32 none 0 0).toArray) := below_setRow ((Below.refl _ _).alloc (Nat.le_refl _) _) (Nat.le_refl _) _; have M9 := hid (N8.out.new HTT.out.toT9c hb9); have G9c := hid (show At ((w8.alloc (.cells (cutV n32 none 0 0).toArray 83)).setRow w8.heap.size (cutV n32 none 0 0).toArray) w8.heap.size (cutV n32 none 0 0).toArray 83 from setRow_heap _ _ _ _ _ _ (At.new w8 _ 83)); clear hb9; generalize ((w8.alloc (.cells (cutV n32 none 0 0).toArray 83)).setRow w8.heap.size (cutV n32 none 0 0).toArray) = w9 at M9 G9c ⊢; generalize w8.heap.size = G9 at G9c ⊢; have q32 := cutV_cell G9c.out HNL.out))
  go_wp2_with (first
    | (refine wpList_valW (by rfl) (run_loadTr (.tmp 8) rfl M rfl #[.int .i64 (k : Int), .slice A1 NL c1, .slice E 33 cE] M9.out.m (HSZ.out _ rfl)) ?_)
    | (go_at_call 15; refine (HHA.out w9 A1 E c1 cE).mono ?_; rintro ra wa ⟨rfl, hba⟩; have Na := hid (M9.out.new HTT.out.toT9c hba); have Ga := hid (G9c.out.new_ hba); have q32 := cutV_cell Ga.out HNL.out; clear hba)
    | (go_at_call 16; refine (HIS.out _).mono ?_; rintro ri wi ⟨rfl, hwi⟩; rw [← hwi]; clear hwi))
  go_ret
  exact ⟨rfl, Na.out.bl⟩
end Go.Proofs.YtdegmcfcbndelaaDoor
