/-
  ProofMakes of layer 10, over what the program's trees are to answer.
-/
import Derived.Test.YthkbmpocfpbkoaaDoorJ2
import Derived.Test.YthkbmpocfpbkoaaDoorTn
import Derived.Test.YthkbmpocfpbkoaaDoorK8
import Derived.Test.YthkbmpocfpbkoaaDoorK7
import Derived.Test.YthkbmpocfpbkoaaDoorJ5
namespace Go.Proofs.YthkbmpocfpbkoaaDoor
open Go.RowKit

/-- What holds between the calls. -/
structure MsW (Pt : PtT) (w : World) (S : Nat → Prop) (b : Nat) (k : Nat) (L : List (Nat × List UInt8)) (A1 E : Option Addr) (M : Nat) (O : Array Value) (V : World) : Prop where
  t : Pt S V b k L
  l : Lv V V.heap.size A1 L
  e : Ev V V.heap.size E
  m : At V M O 28
  below : Below w.heap.size w V
theorem MsW.new {Pt : PtT} {w0 w V V' : World} {S : Nat → Prop} {b k M : Nat} {L : List (Nat × List UInt8)} {A1 E : Option Addr} {O : Array Value} (t : T9c Pt w0) (x : MsW Pt w S b k L A1 E M O V) (hb : Below V.heap.size V V') : MsW Pt w S b k L A1 E M O V' :=
  ⟨t.new x.t hb, x.l.new hb, x.e.new hb, x.m.new_ hb, x.below.trans (hb.mono x.below.size)⟩
theorem rd_later {V V' : World} {A : Option Addr} {xs : List Value} (h : Rd V V.heap.size A xs) (hb : Below V.heap.size V V') : Rd V' V'.heap.size A xs := (Rd.below h hb).mono hb.size
set_option maxRecDepth 100000 in
set_option maxHeartbeats 8000000 in
theorem proofMakes_law {Pt : PtT} {w : World} (t : T9c Pt w) (HALV : Alive10C w) (h : Int) (sc : List Act9) (A : Option Addr) (c : Nat) (hsc : Av w w.heap.size A sc) (ho : okA sc) (h1 : -9223372036854775808 ≤ h) (h2 : h < 9223372036854775808) (l : List Nat) (AI : Option Addr) (cI : Nat) (hr : Nu w w.heap.size AI l) (hc : l.length ≤ cI) (hok : okN l) (hT : Tabr w) (hI : Tab w 1 IV.l) :
    Calls Tryd.prog 8 #[.int .i64 h, .slice A sc.length c, .slice AI l.length cI] w fun r w' => r = .returned (.bool true) ∧ Below w.heap.size w w' := by
  have HAL := hid (HALV w (Below.refl _ _))
  have HBW := hid (Below.refl w.heap.size w)
  have HAT := hid (fun (o : Oper) (a : Go.Act) (W : World) (h : o.op = .alloc 28) => run_alloc_of (o := o) (a := a) (W := W) _ h _ zeroTr)
  obtain ⟨Z, hZ⟩ : ∃ Z : Array Value, Z = #[.int .i64 0, .slice none 0 0, .slice none 0 0] := ⟨_, rfl⟩
  have HZS := hid (sizeTr_of Z (by rw [hZ]; rfl))
  have HZE := hid hZ
  have HZ1 := hid (show Z.all (·.oneCell') = true by rw [hZ]; simp [Value.oneCell'])
  have HSZ := hid (fun (cs : Array Value) (e : cs.size = 3) => sizeTr_of cs e)
  rw [← hZ] at HAT
  obtain ⟨n, hnn⟩ : ∃ n, n = sc.length := ⟨_, rfl⟩
  have HLN := hid hnn
  rw [← hnn]
  clear hnn
  obtain ⟨ni, hni⟩ : ∃ n, n = l.length := ⟨_, rfl⟩
  have HLG := hid (fun V => large_any ni 0 0 AI none none cI 0 0 V)
  have HIS := hid (fun V => show Calls Tryd.prog 20 #[.iface 47 (.int .i64 1), .int .i64 1] V (fun e w' => e = .returned (.bool true) ∧ V = w') from by
    have := eis_any 1 1 V
    exact this)
  cases hLB : largeB ni 0 0 with
  | true =>
    rw [hLB] at HLG
    rw [← hni]
    clear HALV hsc ho h1 h2 hr hc hok hT hI hZ t hni hLB
    go_enter Tryd.func8, Tryd.ntmps8
    go_wp2_with (first
      | (go_at_call 36; refine HAL.out.mono ?_; rintro r1 w1 ⟨rfl, hb1⟩; have B1 := hid hb1; clear hb1)
      | (go_at_call 37; refine (HLG.out _).mono ?_; rintro rl wl ⟨rfl, hwl⟩; rw [hwl]; clear hwl))
    go_ret
    exact ⟨rfl, B1.out⟩
  | false =>
    rw [hLB] at HLG
    by_cases hb : bothB h n
    · rw [HLN.out] at hb
      obtain ⟨k, rfl⟩ : ∃ k : Nat, h = (k : Int) := ⟨h.toNat, by unfold bothB at hb; omega⟩
      have hk : k ≤ 32 := by unfold bothB at hb; omega
      have hl : sc.length ≤ 25 := by unfold bothB at hb; omega
      have HTT := hid t
      have hIB := fun (V : World) (q : Below w.heap.size w V) => Tab.below (x := IV.a) (xs := [IV.b, IV.c, IV.d, IV.e, IV.f, IV.g, IV.h]) hI q
      have HBO := hid (fun (V : World) (q : Below w.heap.size w V) => both_ok t k sc A c V q ((hsc.below q).mono q.size) ho hl hk (hT.below q) (hIB V q))
      have hgd := Gd.acts hk ho
      have hbn := Gd.bnd (h := k) sc
      obtain ⟨L, hL⟩ : ∃ L, L = acts9 k sc := ⟨_, rfl⟩
      rw [← hL] at HBO hgd hbn
      have hL1 : L.length ≤ 1000 := by omega
      obtain ⟨NL, hNL⟩ : ∃ m, m = L.length := ⟨_, rfl⟩
      rw [← hNL] at HBO
      rw [← HLN.out] at HBO
      have HPR := hid (fun (V : World) (q : Below w.heap.size w V) => pright10_any (k : Int) l AI cI V (hr.later q))
      have HRR := hid (fun (V : World) (q : Below w.heap.size w V) => right10R_any (k : Int) l AI cI V (hr.later q))
      have HCN := hid (fun (V : World) (q : Below w.heap.size w V) => pcount_any (k : Int) l AI cI V (hr.later q) hc)
      cases hg : rgtB (k : Int) l with
      | true =>
        have hth := spots_thousand hg
        obtain ⟨-, -, hlen, -, -⟩ := rgtB_parts hg
        rw [hg] at HPR HRR HCN
        rw [if_pos rfl, show eB true = .nilIface from rfl, Int.toNat_natCast] at HCN
        have HMK := hid (fun (V : World) (q : Below w.heap.size w V) (S : Nat → Prop) (b : Nat) (p : Pt S V b k L) => show Calls Tryd.prog 38 #[.pointer (some ⟨b, 0, none⟩), .slice AI l.length cI] V (fun r W' => ∃ A1 c1, r = .returned (.tuple #[.slice A1 (spotsS l k 0).length c1, .nilIface]) ∧ Rd W' W'.heap.size A1 (ubs (besideS L (spotsS l k 0))) ∧ Below V.heap.size V W') from by
          refine (pmake10_ok HTT.out q p hL1 l AI cI (hr.later q) hc hg).mono ?_
          rintro r W' ⟨A1, c1, h1, h2, h3⟩
          exact ⟨A1, c1, h1, h2.rd, h3⟩)
        have HLV := hid (fun (V : World) (q : Below w.heap.size w V) (S : Nat → Prop) (b : Nat) (p : Pt S V b k L) => show Calls Tryd.prog 39 #[.pointer (some ⟨b, 0, none⟩), .slice AI l.length cI] V (fun r W' => ∃ A1 c1, r = .returned (.tuple #[.slice A1 l.length c1, .nilIface]) ∧ Rd W' W'.heap.size A1 (ubs (leavesS L l)) ∧ Below V.heap.size V W') from by
          refine (pleaves_ok HTT.out q p hL1 l AI cI (hr.later q) hg).mono ?_
          rintro r W' ⟨A1, c1, h1, h2, h3, -⟩
          exact ⟨A1, c1, h1, h2, h3⟩)
        have HMR := hid (fun (V : World) (A1 E : Option Addr) (c1 cE : Nat) (q : Below w.heap.size w V) (v : Lv V V.heap.size A1 L) (e : Ev V V.heap.size E) => show Calls Tryd.prog 43 #[.agg #[.int .i64 (k : Int), .slice A1 NL c1, .slice E 33 cE], .slice AI l.length cI] V (fun r w' => ∃ A2 c2, r = .returned (.slice A2 (spotsS l k 0).length c2) ∧ Rd w' w'.heap.size A2 (ubs (besideS L (spotsS l k 0))) ∧ Below V.heap.size V w') from by
          rw [hNL]
          exact makeR_any k hk L E A1 cE c1 l AI cI V hgd.ok hL1 v e (hT.below q) (hIB V q) (hr.later q) (by omega) (by omega))
        have HVR := hid (fun (V : World) (A1 E : Option Addr) (c1 cE : Nat) (q : Below w.heap.size w V) (v : Lv V V.heap.size A1 L) (e : Ev V V.heap.size E) => show Calls Tryd.prog 44 #[.agg #[.int .i64 (k : Int), .slice A1 NL c1, .slice E 33 cE], .slice AI l.length cI] V (fun r w' => ∃ A2 c2, r = .returned (.slice A2 l.length c2) ∧ Rd w' w'.heap.size A2 (ubs (leavesS L l)) ∧ Below V.heap.size V w') from by
          rw [hNL]
          exact leavesR_any (k : Int) L E A1 cE c1 l AI cI V hgd.ok hL1 v e (hT.below q) (hIB V q) (hr.later q) hok (by omega))
        have HHB := hid (fun (V : World) (A9 B9 : Option Addr) (c9 d9 : Nat) (a : Rd V V.heap.size A9 (ubs (besideS L (spotsS l k 0)))) (b : Rd V V.heap.size B9 (ubs (besideS L (spotsS l k 0)))) => show Calls Tryd.prog 24 #[.slice A9 (spotsS l k 0).length c9, .slice B9 (spotsS l k 0).length d9] V (fun r w' => r = .returned (.bool true) ∧ Below V.heap.size V w') from by
          have := hashes_any (spotsS l k 0).length _ _ A9 B9 c9 d9 V (besideS_length hgd.ok _) (besideS_length hgd.ok _) a b (by omega)
          rwa [show decide (besideS L (spotsS l k 0) = besideS L (spotsS l k 0)) = true from decide_eq_true rfl] at this)
        have HHL := hid (fun (V : World) (A9 B9 : Option Addr) (c9 d9 : Nat) (a : Rd V V.heap.size A9 (ubs (leavesS L l))) (b : Rd V V.heap.size B9 (ubs (leavesS L l))) => show Calls Tryd.prog 24 #[.slice A9 l.length c9, .slice B9 l.length d9] V (fun r w' => r = .returned (.bool true) ∧ Below V.heap.size V w') from by
          have := hashes_any l.length _ _ A9 B9 c9 d9 V (leavesS_length hgd.ok _) (leavesS_length hgd.ok _) a b (by omega)
          rwa [show decide (leavesS L l = leavesS L l) = true from decide_eq_true rfl] at this)
        generalize besideS L (spotsS l k 0) = bs at HMK HMR HHB
        generalize leavesS L l = ls at HLV HVR HHL
        generalize (spotsS l k 0).length = ns at HMK HMR HHB HCN
        rw [← hni] at HPR HRR HCN HMK HLV HMR HVR HHL ⊢
        have dn : decide ((ns : Int) = (ns : Int)) = true := by simp
        clear HALV hsc ho h1 h2 hr hc hok hT hI hZ t hni hLB hb hk hl hIB hgd hbn hL hL1 hNL hg hth hlen
        go_enter Tryd.func8, Tryd.ntmps8
        go_wp2_with (first
          | (go_at_call 36; refine HAL.out.mono ?_; rintro r1 w1 ⟨rfl, hb1⟩; have B1 := hid hb1; clear hb1)
          | (go_at_call 37; refine (HLG.out _).mono ?_; rintro rl wl ⟨rfl, hwl⟩; rw [hwl]; clear hwl)
          | (go_at_call 13; refine (HBO.out w1 B1.out).mono ?_; rintro r2 w2 ⟨S, b, A1, E, c1, cE, rfl, hk2⟩; simp only [ptr]; have K2 := hid hk2; have B2 := hid (B1.out.trans (hk2.below.mono B1.out.size)); clear hk2)
          | (refine Great.wpList_allocTo rfl _ rfl _ _ (HAT.out _ _ _ rfl) ?_)
          | (refine wpList_store_row rfl _ (.tmp 8) (.tmp 27) rfl w2.heap.size #[.int .i64 (k : Int), .slice A1 NL c1, .slice E 33 cE] rfl rfl 28 Z (At.new _ _ _) (HSZ.out _ rfl) ?x2 ?x3 ?x4; rotate_right; have hb3 : Below w2.heap.size w2 ((w2.alloc (.cells Z 28)).setRow w2.heap.size #[.int .i64 (k : Int), .slice A1 NL c1, .slice E 33 cE]) := below_setRow ((Below.refl _ _).alloc (Nat.le_refl _) _) (Nat.le_refl _) _; have N3 := hid (show MsW Pt w S b k L A1 E w2.heap.size #[.int .i64 (k : Int), .slice A1 NL c1, .slice E 33 cE] ((w2.alloc (.cells Z 28)).setRow w2.heap.size #[.int .i64 (k : Int), .slice A1 NL c1, .slice E 33 cE]) from ⟨HTT.out.new K2.out.t hb3, K2.out.l.new hb3, K2.out.e.new hb3, setRow_heap _ _ _ _ _ _ (At.new w2 Z 28), B2.out.trans (hb3.mono B2.out.size)⟩); clear hb3; generalize ((w2.alloc (.cells Z 28)).setRow w2.heap.size #[.int .i64 (k : Int), .slice A1 NL c1, .slice E 33 cE]) = w3 at N3 ⊢; generalize w2.heap.size = M at N3 ⊢)
          | (go_at_call 38; refine (HMK.out w3 N3.out.below S b N3.out.t).mono ?_; rintro r4 w4 ⟨A4, c4, rfl, hr4, hb4⟩; have N4 := hid (N3.out.new HTT.out hb4); have R4 := hid hr4; clear hr4 hb4)
          | (go_at_call 39; refine (HLV.out w4 N4.out.below S b N4.out.t).mono ?_; rintro r5 w5 ⟨A5, c5, rfl, hr5, hb5⟩; have N5 := hid (N4.out.new HTT.out hb5); have R5 := hid (rd_later R4.out hb5); have L5 := hid hr5; clear hr5 hb5)
          | (go_at_call 40; refine (HCN.out w5 N5.out.below).mono ?_; rintro r6 w6 ⟨rfl, hb6⟩; have N6 := hid (N5.out.new HTT.out hb6); have R6 := hid (rd_later R5.out hb6); have L6 := hid (rd_later L5.out hb6); clear hb6)
          | (go_at_call 41; refine (HRR.out w6 N6.out.below).mono ?_; rintro r7 w7 ⟨rfl, hb7⟩; have N7 := hid (N6.out.new HTT.out hb7); have R7 := hid (rd_later R6.out hb7); have L7 := hid (rd_later L6.out hb7); clear hb7)
          | (go_at_call 42; refine (HPR.out w11 N11.out.below).mono ?_; rintro r12 w12 ⟨rfl, hb12⟩; have N12 := hid (N11.out.new HTT.out hb12); clear hb12)
          | (go_at_call 24; refine (HHL.out w10 A5 A10 c5 c10 L10.out Q10.out).mono ?_; rintro r11 w11 ⟨rfl, hb11⟩; have N11 := hid (N10.out.new HTT.out hb11); clear hb11)
          | (go_at_call 44; refine (HVR.out w9 A1 E c1 cE N9.out.below N9.out.l N9.out.e).mono ?_; rintro r10 w10 ⟨A10, c10, rfl, hr10, hb10⟩; have N10 := hid (N9.out.new HTT.out hb10); have L10 := hid (rd_later L9.out hb10); have Q10 := hid hr10; clear hr10 hb10)
          | (refine wpList_valW (by rfl) (run_loadTr (.tmp 8) rfl M rfl #[.int .i64 (k : Int), .slice A1 NL c1, .slice E 33 cE] N9.out.m (HSZ.out _ rfl)) ?_)
          | (go_at_call 24; refine (HHB.out w8 A4 A8 c4 c8 R8.out Q8.out).mono ?_; rintro r9 w9 ⟨rfl, hb9⟩; have N9 := hid (N8.out.new HTT.out hb9); have L9 := hid (rd_later L8.out hb9); clear hb9)
          | (go_at_call 43; refine (HMR.out w7 A1 E c1 cE N7.out.below N7.out.l N7.out.e).mono ?_; rintro r8 w8 ⟨A8, c8, rfl, hr8, hb8⟩; have N8 := hid (N7.out.new HTT.out hb8); have R8 := hid (rd_later R7.out hb8); have L8 := hid (rd_later L7.out hb8); have Q8 := hid hr8; clear hr8 hb8)
          | (refine wpList_valW (by rfl) (run_loadTr (.tmp 8) rfl M rfl #[.int .i64 (k : Int), .slice A1 NL c1, .slice E 33 cE] N7.out.m (HSZ.out _ rfl)) ?_))
        case x2 => rw [HZE.out]; rfl
        case x3 => simp [Value.oneCell']
        go_ret
        exact ⟨rfl, N12.out.below⟩
      | false =>
        rw [hg] at HPR HRR HCN
        rw [show eB false = .iface 47 (.int .i64 1) from rfl] at HCN
        rw [if_neg (by decide), show ((0 : Nat) : Int) = 0 from rfl] at HCN
        have HMK := hid (fun (V : World) (q : Below w.heap.size w V) (S : Nat → Prop) (b : Nat) (p : Pt S V b k L) => show Calls Tryd.prog 38 #[.pointer (some ⟨b, 0, none⟩), .slice AI l.length cI] V (fun r W' => r = .returned (.tuple #[.slice none 0 0, .iface 47 (.int .i64 1)]) ∧ Below V.heap.size V W') from
          pmake10_no HTT.out q p l AI cI (hr.later q) hg)
        have HLV := hid (fun (V : World) (q : Below w.heap.size w V) (S : Nat → Prop) (b : Nat) (p : Pt S V b k L) => show Calls Tryd.prog 39 #[.pointer (some ⟨b, 0, none⟩), .slice AI l.length cI] V (fun r W' => r = .returned (.tuple #[.slice none 0 0, .iface 47 (.int .i64 1)]) ∧ Below V.heap.size V W') from
          pleaves_no HTT.out q p l AI cI (hr.later q) hg)
        rw [← hni] at HPR HRR HCN HMK HLV ⊢
        clear HALV hsc ho h1 h2 hr hc hok hT hI hZ t hni hLB hb hk hl hIB hgd hbn hL hL1 hNL hg
        go_enter Tryd.func8, Tryd.ntmps8
        go_wp2_with (first
          | (go_at_call 36; refine HAL.out.mono ?_; rintro r1 w1 ⟨rfl, hb1⟩; have B1 := hid hb1; clear hb1)
          | (go_at_call 37; refine (HLG.out _).mono ?_; rintro rl wl ⟨rfl, hwl⟩; rw [hwl]; clear hwl)
          | (go_at_call 13; refine (HBO.out w1 B1.out).mono ?_; rintro r2 w2 ⟨S, b, A1, E, c1, cE, rfl, hk2⟩; simp only [ptr]; have K2 := hid hk2; have B2 := hid (B1.out.trans (hk2.below.mono B1.out.size)); clear hk2)
          | (refine Great.wpList_allocTo rfl _ rfl _ _ (HAT.out _ _ _ rfl) ?_)
          | (refine wpList_store_row rfl _ (.tmp 8) (.tmp 27) rfl w2.heap.size #[.int .i64 (k : Int), .slice A1 NL c1, .slice E 33 cE] rfl rfl 28 Z (At.new _ _ _) (HSZ.out _ rfl) ?y2 ?y3 ?y4; rotate_right; have hb3 : Below w2.heap.size w2 ((w2.alloc (.cells Z 28)).setRow w2.heap.size #[.int .i64 (k : Int), .slice A1 NL c1, .slice E 33 cE]) := below_setRow ((Below.refl _ _).alloc (Nat.le_refl _) _) (Nat.le_refl _) _; have N3 := hid (show MsW Pt w S b k L A1 E w2.heap.size #[.int .i64 (k : Int), .slice A1 NL c1, .slice E 33 cE] ((w2.alloc (.cells Z 28)).setRow w2.heap.size #[.int .i64 (k : Int), .slice A1 NL c1, .slice E 33 cE]) from ⟨HTT.out.new K2.out.t hb3, K2.out.l.new hb3, K2.out.e.new hb3, setRow_heap _ _ _ _ _ _ (At.new w2 Z 28), B2.out.trans (hb3.mono B2.out.size)⟩); clear hb3; generalize ((w2.alloc (.cells Z 28)).setRow w2.heap.size #[.int .i64 (k : Int), .slice A1 NL c1, .slice E 33 cE]) = w3 at N3 ⊢; generalize w2.heap.size = M at N3 ⊢)
          | (go_at_call 38; refine (HMK.out w3 N3.out.below S b N3.out.t).mono ?_; rintro r4 w4 ⟨rfl, hb4⟩; have N4 := hid (N3.out.new HTT.out hb4); clear hb4)
          | (go_at_call 39; refine (HLV.out w4 N4.out.below S b N4.out.t).mono ?_; rintro r5 w5 ⟨rfl, hb5⟩; have N5 := hid (N4.out.new HTT.out hb5); clear hb5)
          | (go_at_call 40; refine (HCN.out w5 N5.out.below).mono ?_; rintro r6 w6 ⟨rfl, hb6⟩; have N6 := hid (N5.out.new HTT.out hb6); clear hb6)
          | (go_at_call 41; refine (HRR.out w6 N6.out.below).mono ?_; rintro r7 w7 ⟨rfl, hb7⟩; have N7 := hid (N6.out.new HTT.out hb7); clear hb7)
          | (go_at_call 20; refine (HIS.out _).mono ?_; rintro ri wi ⟨rfl, hwi⟩; rw [← hwi]; clear hwi)
          | (go_at_call 42; refine (HPR.out w7 N7.out.below).mono ?_; rintro r12 w12 ⟨rfl, hb12⟩; have N12 := hid (N7.out.new HTT.out hb12); clear hb12))
        case y2 => rw [HZE.out]; rfl
        case y3 => simp [Value.oneCell']
        go_ret
        exact ⟨rfl, N12.out.below⟩
    · have HBO := hid (fun (V : World) (q : Below w.heap.size w V) => both_no t h n A c V q hb)
      rw [← HZE.out] at HBO
      rw [← hni]
      clear HALV hsc ho h1 h2 hr hc hok hT hI hZ t hni hLB hb
      go_enter Tryd.func8, Tryd.ntmps8
      go_wp2_with (first
        | (go_at_call 36; refine HAL.out.mono ?_; rintro r1 w1 ⟨rfl, hb1⟩; have B1 := hid hb1; clear hb1)
        | (go_at_call 37; refine (HLG.out _).mono ?_; rintro rl wl ⟨rfl, hwl⟩; rw [hwl]; clear hwl)
        | (go_at_call 13; refine (HBO.out w1 B1.out).mono ?_; rintro r2 w2 ⟨rfl, hb2⟩; have B2 := hid (B1.out.trans (hb2.mono B1.out.size)); clear hb2)
        | (refine Great.wpList_allocTo rfl _ rfl _ _ (HAT.out _ _ _ rfl) ?_)
        | (refine wpList_store_row rfl _ (.tmp 8) (.tmp 27) rfl w2.heap.size Z rfl rfl 28 Z (At.new _ _ _) HZS.out rfl HZ1.out ?_; have B3 := hid (B2.out.trans ((below_setRow ((Below.refl _ _).alloc (Nat.le_refl _) _) (Nat.le_refl _) _ : Below w2.heap.size w2 ((w2.alloc (.cells Z 28)).setRow w2.heap.size Z)).mono B2.out.size))))
      go_ret
      exact ⟨rfl, B3.out⟩
end Go.Proofs.YthkbmpocfpbkoaaDoor
