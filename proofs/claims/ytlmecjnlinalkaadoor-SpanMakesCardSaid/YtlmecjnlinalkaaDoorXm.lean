/-
  SpanMakes of layer 11, over what the program's trees are to answer.
-/
import Derived.Test.YtlmecjnlinalkaaDoorM2
import Derived.Test.YtlmecjnlinalkaaDoorM1
import Derived.Test.YtlmecjnlinalkaaDoorVd
import Derived.Test.YtlmecjnlinalkaaDoorTn
import Derived.Test.YtlmecjnlinalkaaDoorJ5
namespace Go.Proofs.YtlmecjnlinalkaaDoor
open Go.RowKit

/-- What holds between the calls. -/
structure SkW (Pt : PtT) (w : World) (S : Nat → Prop) (b : Nat) (k : Nat) (L : List (Nat × List UInt8)) (A1 E : Option Addr) (M Bx : Nat) (O I : Array Value) (V : World) : Prop where
  t : Pt S V b k L
  l : Lv V V.heap.size A1 L
  e : Ev V V.heap.size E
  m : At V M O 33
  s : At V Bx I 72
  below : Below w.heap.size w V
theorem SkW.new {Pt : PtT} {w0 w V V' : World} {S : Nat → Prop} {b k M Bx : Nat} {L : List (Nat × List UInt8)} {A1 E : Option Addr} {O I : Array Value} (t : T9c Pt w0) (x : SkW Pt w S b k L A1 E M Bx O I V) (hb : Below V.heap.size V V') : SkW Pt w S b k L A1 E M Bx O I V' :=
  ⟨t.new x.t hb, x.l.new hb, x.e.new hb, x.m.new_ hb, x.s.new_ hb, x.below.trans (hb.mono x.below.size)⟩
theorem rd_on {V V' : World} {A : Option Addr} {xs : List Value} (h : Rd V V.heap.size A xs) (hb : Below V.heap.size V V') : Rd V' V'.heap.size A xs := (Rd.below h hb).mono hb.size
/-- What the last region looks at. -/
structure SnW11 (Pt : PtT) (w : World) (S : Nat → Prop) (b : Nat) (k : Nat) (L : List (Nat × List UInt8)) (A1 E : Option Addr) (M Bx P : Nat) (O I J : Array Value) (AL AR P1 P2 : Option Addr) (ll rr : List (Nat × Nat)) (bl br : List UInt8) (V : World) : Prop where
  x : SkW Pt w S b k L A1 E M Bx O I V
  p : At V P J 74
  al : Rd V V.heap.size AL (sptR ll)
  ar : Rd V V.heap.size AR (sptR rr)
  p1 : Rd V V.heap.size P1 (ubs bl)
  p2 : Rd V V.heap.size P2 (ubs br)
theorem SnW11.new {Pt : PtT} {w0 w V V' : World} {S : Nat → Prop} {b k M Bx P : Nat} {L : List (Nat × List UInt8)} {A1 E AL AR P1 P2 : Option Addr} {O I J : Array Value} {ll rr : List (Nat × Nat)} {bl br : List UInt8} (t : T9c Pt w0) (x : SnW11 Pt w S b k L A1 E M Bx P O I J AL AR P1 P2 ll rr bl br V) (hb : Below V.heap.size V V') : SnW11 Pt w S b k L A1 E M Bx P O I J AL AR P1 P2 ll rr bl br V' :=
  ⟨x.x.new t hb, x.p.new_ hb, rd_on x.al hb, rd_on x.ar hb, rd_on x.p1 hb, rd_on x.p2 hb⟩
/-- What it yields. -/
def smF (P Bx k nl nr cl cr c1 c2 f m : Nat) (O : Array Value) (AL AR P1 P2 : Option Addr) (bl br : List UInt8) (j : Nat) (u : Value) (W : World) : Prop :=
  match j with
  | 0 => u = .nilIface
  | 3 => u = .nilIface
  | 7 => u = .int .i64 (nl : Int)
  | 8 => u = .slice AL nl cl
  | 9 => u = .int .i64 (nl : Int)
  | 13 => u = .int .i64 (nr : Int)
  | 14 => u = .slice AR nr cr
  | 15 => u = .int .i64 (nr : Int)
  | 19 => u = .pointer (some ⟨P, 0, none⟩)
  | 20 => u = .slice P1 nl c1
  | 21 => u = .agg O
  | 22 => u = .slice AL nl cl
  | 23 => ∃ A c, u = .slice A nl c ∧ Rd W W.heap.size A (ubs bl)
  | 27 => u = .pointer (some ⟨P, 1, none⟩)
  | 28 => u = .slice P2 nr c2
  | 29 => u = .agg O
  | 30 => u = .slice AR nr cr
  | 31 => ∃ A c, u = .slice A nr c ∧ Rd W W.heap.size A (ubs br)
  | 35 => u = .int .i64 (k : Int)
  | 36 => u = .pointer (some ⟨Bx, 0, none⟩)
  | 37 => u = .int .u64 (f : Int)
  | 38 => u = .pointer (some ⟨Bx, 1, none⟩)
  | 39 => u = .int .i64 (m : Int)
  | _ => u = .bool true
theorem smF_new {P Bx k nl nr cl cr c1 c2 f m j : Nat} {O : Array Value} {AL AR P1 P2 : Option Addr} {bl br : List UInt8} {u : Value} {W W' : World} (h : smF P Bx k nl nr cl cr c1 c2 f m O AL AR P1 P2 bl br j u W) (hb : Below W.heap.size W W') : smF P Bx k nl nr cl cr c1 c2 f m O AL AR P1 P2 bl br j u W' := by
  by_cases h1 : j = 23
  · subst h1
    obtain ⟨A, c, e, r⟩ := h
    exact ⟨A, c, e, rd_on r hb⟩
  · by_cases h2 : j = 31
    · subst h2
      obtain ⟨A, c, e, r⟩ := h
      exact ⟨A, c, e, rd_on r hb⟩
    · unfold smF at h ⊢
      split
      all_goals first | (exact absurd rfl h1) | (exact absurd rfl h2) | skip
      all_goals (split at h)
      all_goals first | exact h | (exact absurd rfl h1) | (exact absurd rfl h2) | omega | skip
      all_goals simp_all
set_option maxRecDepth 100000 in
set_option maxHeartbeats 8000000 in
theorem spanMakes_law {Pt : PtT} {w : World} (t : T9c Pt w) (HALV : Alive11C w) (h : Int) (sc : List Act9) (A : Option Addr) (c : Nat) (hsc : Av w w.heap.size A sc) (ho : okA sc) (h1 : -9223372036854775808 ≤ h) (h2 : h < 9223372036854775808) (f : Nat) (m : Int) (hf : f < 18446744073709551616) (hT : Tabr w) (hI : Tab w 1 IV.l) :
    Calls Tryd.prog 7 #[.int .i64 h, .slice A sc.length c, .agg #[.int .u64 (f : Int), .int .i64 m]] w fun r w' => r = .returned (.bool true) ∧ Below w.heap.size w w' := by
  have HAT := hid (fun (o : Oper) (a : Go.Act) (W : World) (h : o.op = .alloc 33) => run_alloc_of (o := o) (a := a) (W := W) _ h _ zeroTr)
  obtain ⟨Z, hZ⟩ : ∃ Z : Array Value, Z = #[.int .i64 0, .slice none 0 0, .slice none 0 0] := ⟨_, rfl⟩
  have HZS := hid (sizeTr_of Z (by rw [hZ]; rfl))
  have HZE := hid hZ
  have HZ1 := hid (show Z.all (·.oneCell') = true by rw [hZ]; simp [Value.oneCell'])
  have HSZ := hid (fun (cs : Array Value) (e : cs.size = 3) => sizeTr_of cs e)
  rw [← hZ] at HAT
  obtain ⟨w0, hw0⟩ : ∃ w0, w0 = w.alloc (.cells #[.int .u64 (f : Int), .int .i64 m] 72) := ⟨_, rfl⟩
  have hb0 : Below w.heap.size w w0 := by rw [hw0]; exact (Below.refl _ _).alloc (Nat.le_refl _) _
  have HB0 := hid hb0
  have HX0 := hid (show At w0 w.heap.size #[.int .u64 (f : Int), .int .i64 m] 72 by rw [hw0]; exact At.new _ _ _)
  have HAL := hid (HALV w0 hb0)
  obtain ⟨I, hIE⟩ : ∃ I : Array Value, I = #[.int .u64 (f : Int), .int .i64 m] := ⟨_, rfl⟩
  have HIE := hid hIE
  obtain ⟨JZ, hJZ⟩ : ∃ J : Array Value, J = #[.slice none 0 0, .slice none 0 0] := ⟨_, rfl⟩
  have HJE := hid hJZ
  have HJS0 := hid (show (Tryd.prog.info? 74).map (·.size) = some JZ.size by rw [hJZ]; exact sizePf)
  have HJ10 := hid (show JZ.all (·.oneCell') = true by rw [hJZ]; simp [Value.oneCell'])
  have HAP := hid (fun (o : Oper) (a : Go.Act) (W : World) (h : o.op = .alloc 74) => show (execOp a.eval o).run Tryd.prog W = .ok (.value (.pointer (some ⟨W.heap.size, 0, none⟩))) (W.alloc (.cells JZ 74)) from run_alloc_of (o := o) (a := a) (W := W) _ h _ (by rw [hJZ]; kernel_rfl))
  obtain ⟨n, hnn⟩ : ∃ n, n = sc.length := ⟨_, rfl⟩
  have HLN := hid hnn
  rw [← hnn]
  clear hnn
  have HIS := hid (fun V => show Calls Tryd.prog 15 #[.iface 42 (.int .i64 1), .int .i64 1] V (fun e w' => e = .returned (.bool true) ∧ V = w') from by
    have := eis_any 1 1 V
    exact this)
  by_cases hLB : 60 < m ∧ m ≤ 256
  · have l1 : decide (60 < m) = true := by simpa using hLB.1
    have l2 : decide (m ≤ 256) = true := by simpa using hLB.2
    clear HALV hsc ho h1 h2 hf hT hI hZ t hLB hb0 hIE hJZ
    go_enter Tryd.func7, Tryd.ntmps7
    go_wp2_with (first
      | (rw [← hw0]; clear hw0; (go_at_call 39; refine HAL.out.mono ?_; rintro r1 w1 ⟨rfl, hb1⟩; have B1 := hid (HB0.out.trans (hb1.mono HB0.out.size)); have X1 := hid (HX0.out.new_ hb1); have qa := X1.out.cell 0; have qb := X1.out.cell 1; simp at qa qb; clear hb1)))
    go_ret
    exact ⟨rfl, B1.out⟩
  · have hLM : m ≤ 60 ∨ 256 < m := by omega
    by_cases hb : bothB h n
    · rw [HLN.out] at hb
      obtain ⟨k, rfl⟩ : ∃ k : Nat, h = (k : Int) := ⟨h.toNat, by unfold bothB at hb; omega⟩
      have hk : k ≤ 32 := by unfold bothB at hb; omega
      have hl : sc.length ≤ 25 := by unfold bothB at hb; omega
      have HTT := hid t
      have hIB := fun (V : World) (q : Below w.heap.size w V) => Tab.below (x := IV.a) (xs := [IV.b, IV.c, IV.d, IV.e, IV.f, IV.g, IV.h]) hI q
      have HBO := hid (fun (V : World) (q : Below w.heap.size w V) => both_ok t k sc A c V q ((hsc.below q).mono q.size) ho hl hk (hT.below q) (hIB V q))
      have hgd := Gd.acts hk ho
      have hbn := Gd.bnd (h := k) sc
      obtain ⟨L, hL⟩ : ∃ L, L = acts9 k sc := ⟨_, rfl⟩
      rw [← hL] at HBO hgd hbn
      have hL1 : L.length ≤ 1000 := by omega
      obtain ⟨NL, hNL⟩ : ∃ m, m = L.length := ⟨_, rfl⟩
      rw [← hNL] at HBO
      rw [← HLN.out] at HBO
      have HPR := hid (fun (V : World) => pright11_any (k : Int) m f V (by omega))
      have HRR := hid (fun (V : World) => right11R_any (k : Int) m f V (by omega))
      have HCN := hid (fun (V : World) => pcounts_any (k : Int) m f V (by omega))
      cases hg : spanB (k : Int) f m with
      | false =>
        rw [hg] at HPR HRR HCN
        rw [show eB false = .iface 42 (.int .i64 1) from rfl, if_neg (by decide), if_neg (by decide), show ((0 : Nat) : Int) = 0 from rfl] at HCN
        have HMK := hid (fun (V : World) (q : Below w.heap.size w V) (S : Nat → Prop) (b : Nat) (p : Pt S V b k L) => show Calls Tryd.prog 40 #[.pointer (some ⟨b, 0, none⟩), .int .u64 (f : Int), .int .i64 m] V (fun r W' => r = .returned (.tuple #[.agg JZ, .iface 42 (.int .i64 1)]) ∧ Below V.heap.size V W') from by
          rw [hJZ]
          exact pmake11_no HTT.out q p f m (by omega) hg)
        obtain ⟨J, hJ⟩ : ∃ J, J = JZ := ⟨_, rfl⟩
        have HJS := hid (show (Tryd.prog.info? 74).map (·.size) = some J.size by rw [hJ]; exact HJS0.out)
        have HJ1 := hid (show J.all (·.oneCell') = true by rw [hJ]; exact HJ10.out)
        have HJZ := hid (show JZ.size = J.size by rw [hJ])
        have HJJ := hid (show J = #[.slice none 0 0, .slice none 0 0] by rw [hJ, hJZ])
        rw [← hJ] at HMK
        obtain ⟨Bx, hBx⟩ : ∃ q, q = w.heap.size := ⟨_, rfl⟩
        rw [← hBx] at HX0
        have HBX := hid hBx
        clear HALV hsc ho h1 h2 hf hT hI hZ t hb hk hl hIB hgd hbn hL hL1 hNL hg hLB hb0 hIE hJZ hJ hBx
        rcases hLM with hLM | hLM
        · have l1 : decide (60 < m) = false := decide_eq_false (by omega)
          clear hLM
          go_enter Tryd.func7, Tryd.ntmps7
          go_wp2_with (first
            | (rw [← hw0]; clear hw0; rw [← HBX.out]; (go_at_call 39; refine HAL.out.mono ?_; rintro r1 w1 ⟨rfl, hb1⟩; have B1 := hid (HB0.out.trans (hb1.mono HB0.out.size)); have X1 := hid (HX0.out.new_ hb1); have qa := X1.out.cell 0; have qb := X1.out.cell 1; simp at qa qb; clear hb1))
            | (go_at_call 12; refine (HBO.out w1 B1.out).mono ?_; rintro r2 w2 ⟨S, b, A1, E, c1, cE, rfl, hk2⟩; simp only [ptr]; have K2 := hid hk2; have B2 := hid (B1.out.trans (hk2.below.mono B1.out.size)); have X2 := hid (X1.out.new_ hk2.below); clear hk2)
            | (refine Great.wpList_allocTo rfl _ rfl _ _ (HAP.out _ _ _ rfl) ?_)
            | (refine Great.wpList_allocTo rfl _ rfl _ _ (HAT.out _ _ _ rfl) ?_)
            | (refine wpList_store_row rfl _ (.tmp 8) (.tmp 33) rfl w2.heap.size #[.int .i64 (k : Int), .slice A1 NL c1, .slice E 33 cE] rfl rfl 33 Z (At.new _ _ _) (HSZ.out _ rfl) ?xa2 ?xa3 ?xa4; rotate_right; have hb3 : Below w2.heap.size w2 ((w2.alloc (.cells Z 33)).setRow w2.heap.size #[.int .i64 (k : Int), .slice A1 NL c1, .slice E 33 cE]) := below_setRow ((Below.refl _ _).alloc (Nat.le_refl _) _) (Nat.le_refl _) _; have N3 := hid (show SkW Pt w S b k L A1 E w2.heap.size Bx #[.int .i64 (k : Int), .slice A1 NL c1, .slice E 33 cE] I ((w2.alloc (.cells Z 33)).setRow w2.heap.size #[.int .i64 (k : Int), .slice A1 NL c1, .slice E 33 cE]) from ⟨HTT.out.new K2.out.t hb3, K2.out.l.new hb3, K2.out.e.new hb3, setRow_heap _ _ _ _ _ _ (At.new w2 Z 33), by rw [HIE.out]; exact X2.out.new_ hb3, B2.out.trans (hb3.mono B2.out.size)⟩); clear hb3; generalize ((w2.alloc (.cells Z 33)).setRow w2.heap.size #[.int .i64 (k : Int), .slice A1 NL c1, .slice E 33 cE]) = w3 at N3 ⊢; generalize w2.heap.size = M at N3 ⊢; have qc := N3.out.s.cell 0; have qd := N3.out.s.cell 1; rw [HIE.out] at qc qd; simp at qc qd)
            | (go_at_call 40; refine (HMK.out w3 N3.out.below S b N3.out.t).mono ?_; rintro r4 w4 ⟨rfl, hb4⟩; have N4 := hid (N3.out.new HTT.out hb4); clear hb4)
            | (refine wpList_store_row rfl _ (.tmp 11) (.tmp 50) rfl w4.heap.size J rfl rfl 74 JZ (At.new _ _ _) HJS.out HJZ.out HJ1.out ?_; have hb5 : Below w4.heap.size w4 ((w4.alloc (.cells JZ 74)).setRow w4.heap.size J) := below_setRow ((Below.refl _ _).alloc (Nat.le_refl _) _) (Nat.le_refl _) _; have N5 := hid (N4.out.new HTT.out hb5); have P5 := hid (show At ((w4.alloc (.cells JZ 74)).setRow w4.heap.size J) w4.heap.size J 74 from setRow_heap _ _ _ _ _ _ (At.new _ _ _)); clear hb5; generalize ((w4.alloc (.cells JZ 74)).setRow w4.heap.size J) = w5 at N5 P5 ⊢; generalize w4.heap.size = P at P5 ⊢; have qe := N5.out.s.cell 0; have qf := N5.out.s.cell 1; rw [HIE.out] at qe qf; simp at qe qf)
            | (go_at_call 41; refine (HCN.out w5).mono ?_; rintro r6 w6 ⟨rfl, hb6⟩; have N6 := hid (N5.out.new HTT.out hb6); have P6 := hid (P5.out.new_ hb6); have qg := N6.out.s.cell 0; have qh := N6.out.s.cell 1; rw [HIE.out] at qg qh; simp at qg qh; have qp := P6.out.cell 0; have qr := P6.out.cell 1; rw [HJJ.out] at qp qr; simp at qp qr; clear hb6)
            | (go_at_call 42; refine (HRR.out _).mono ?_; rintro r7 w7 ⟨rfl, hw⟩; rw [hw]; clear hw w7)
            | (go_at_call 15; refine (HIS.out _).mono ?_; rintro ri wi ⟨rfl, hwi⟩; rw [← hwi]; clear hwi)
            | (go_at_call 43; refine (HPR.out _).mono ?_; rintro r7 w7 ⟨rfl, hw⟩; rw [hw]; clear hw w7))
          case xa2 => rw [HZE.out]; rfl
          case xa3 => simp [Value.oneCell']
          go_ret
          exact ⟨rfl, N6.out.below⟩
        · have l1 : decide (60 < m) = true := decide_eq_true (by omega)
          have l2 : decide (m ≤ 256) = false := decide_eq_false (by omega)
          clear hLM
          go_enter Tryd.func7, Tryd.ntmps7
          go_wp2_with (first
            | (rw [← hw0]; clear hw0; rw [← HBX.out]; (go_at_call 39; refine HAL.out.mono ?_; rintro r1 w1 ⟨rfl, hb1⟩; have B1 := hid (HB0.out.trans (hb1.mono HB0.out.size)); have X1 := hid (HX0.out.new_ hb1); have qa := X1.out.cell 0; have qb := X1.out.cell 1; simp at qa qb; clear hb1))
            | (go_at_call 12; refine (HBO.out w1 B1.out).mono ?_; rintro r2 w2 ⟨S, b, A1, E, c1, cE, rfl, hk2⟩; simp only [ptr]; have K2 := hid hk2; have B2 := hid (B1.out.trans (hk2.below.mono B1.out.size)); have X2 := hid (X1.out.new_ hk2.below); clear hk2)
            | (refine Great.wpList_allocTo rfl _ rfl _ _ (HAP.out _ _ _ rfl) ?_)
            | (refine Great.wpList_allocTo rfl _ rfl _ _ (HAT.out _ _ _ rfl) ?_)
            | (refine wpList_store_row rfl _ (.tmp 8) (.tmp 33) rfl w2.heap.size #[.int .i64 (k : Int), .slice A1 NL c1, .slice E 33 cE] rfl rfl 33 Z (At.new _ _ _) (HSZ.out _ rfl) ?xb2 ?xb3 ?xb4; rotate_right; have hb3 : Below w2.heap.size w2 ((w2.alloc (.cells Z 33)).setRow w2.heap.size #[.int .i64 (k : Int), .slice A1 NL c1, .slice E 33 cE]) := below_setRow ((Below.refl _ _).alloc (Nat.le_refl _) _) (Nat.le_refl _) _; have N3 := hid (show SkW Pt w S b k L A1 E w2.heap.size Bx #[.int .i64 (k : Int), .slice A1 NL c1, .slice E 33 cE] I ((w2.alloc (.cells Z 33)).setRow w2.heap.size #[.int .i64 (k : Int), .slice A1 NL c1, .slice E 33 cE]) from ⟨HTT.out.new K2.out.t hb3, K2.out.l.new hb3, K2.out.e.new hb3, setRow_heap _ _ _ _ _ _ (At.new w2 Z 33), by rw [HIE.out]; exact X2.out.new_ hb3, B2.out.trans (hb3.mono B2.out.size)⟩); clear hb3; generalize ((w2.alloc (.cells Z 33)).setRow w2.heap.size #[.int .i64 (k : Int), .slice A1 NL c1, .slice E 33 cE]) = w3 at N3 ⊢; generalize w2.heap.size = M at N3 ⊢; have qc := N3.out.s.cell 0; have qd := N3.out.s.cell 1; rw [HIE.out] at qc qd; simp at qc qd)
            | (go_at_call 40; refine (HMK.out w3 N3.out.below S b N3.out.t).mono ?_; rintro r4 w4 ⟨rfl, hb4⟩; have N4 := hid (N3.out.new HTT.out hb4); clear hb4)
            | (refine wpList_store_row rfl _ (.tmp 11) (.tmp 50) rfl w4.heap.size J rfl rfl 74 JZ (At.new _ _ _) HJS.out HJZ.out HJ1.out ?_; have hb5 : Below w4.heap.size w4 ((w4.alloc (.cells JZ 74)).setRow w4.heap.size J) := below_setRow ((Below.refl _ _).alloc (Nat.le_refl _) _) (Nat.le_refl _) _; have N5 := hid (N4.out.new HTT.out hb5); have P5 := hid (show At ((w4.alloc (.cells JZ 74)).setRow w4.heap.size J) w4.heap.size J 74 from setRow_heap _ _ _ _ _ _ (At.new _ _ _)); clear hb5; generalize ((w4.alloc (.cells JZ 74)).setRow w4.heap.size J) = w5 at N5 P5 ⊢; generalize w4.heap.size = P at P5 ⊢; have qe := N5.out.s.cell 0; have qf := N5.out.s.cell 1; rw [HIE.out] at qe qf; simp at qe qf)
            | (go_at_call 41; refine (HCN.out w5).mono ?_; rintro r6 w6 ⟨rfl, hb6⟩; have N6 := hid (N5.out.new HTT.out hb6); have P6 := hid (P5.out.new_ hb6); have qg := N6.out.s.cell 0; have qh := N6.out.s.cell 1; rw [HIE.out] at qg qh; simp at qg qh; have qp := P6.out.cell 0; have qr := P6.out.cell 1; rw [HJJ.out] at qp qr; simp at qp qr; clear hb6)
            | (go_at_call 42; refine (HRR.out _).mono ?_; rintro r7 w7 ⟨rfl, hw⟩; rw [hw]; clear hw w7)
            | (go_at_call 15; refine (HIS.out _).mono ?_; rintro ri wi ⟨rfl, hwi⟩; rw [← hwi]; clear hwi)
            | (go_at_call 43; refine (HPR.out _).mono ?_; rintro r7 w7 ⟨rfl, hw⟩; rw [hw]; clear hw w7))
          case xb2 => rw [HZE.out]; rfl
          case xb3 => simp [Value.oneCell']
          go_ret
          exact ⟨rfl, N6.out.below⟩
      | true =>
        obtain ⟨k', n1, ek, rfl, -, hn1, hn2, hfn⟩ := spanB_parts hg
        obtain rfl : k = k' := by omega
        have hpw : (2 : Nat) ^ k ≤ 2 ^ 32 := Nat.pow_le_pow_right (by omega) hk
        have hLM : n1 ≤ 60 := by omega
        rw [hg] at HPR HRR HCN
        rw [show eB true = .nilIface from rfl, if_pos rfl, if_pos rfl, Int.toNat_natCast, Int.toNat_natCast] at HCN
        have HMK := hid (fun (V : World) (q : Below w.heap.size w V) (S : Nat → Prop) (b : Nat) (p : Pt S V b k L) => pmake11_ok HTT.out q p hL1 f n1 hg)
        have HSD := hid (fun (V : World) => show Calls Tryd.prog 44 #[.int .i64 (k : Int), .int .u64 (f : Int), .int .i64 (n1 : Int)] V (fun r V' => ∃ AL cl AR cr, r = .returned (.tuple #[.slice AL (sidL f k).length cl, .slice AR (sidR (f + n1 - 1) k).length cr]) ∧ Rd V' V'.heap.size AL (sptR (sidL f k)) ∧ Rd V' V'.heap.size AR (sptR (sidR (f + n1 - 1) k)) ∧ Below V.heap.size V V') from by
          refine (sidesR_any k n1 f V hk hn1 (by omega)).mono ?_
          rintro r V' ⟨AL, cl, AR, cr, e, hs⟩
          exact ⟨AL, cl, AR, cr, e, hs.l.rd, hs.r.rd, hs.b⟩)
        have hml := sidL_length f k
        have hmr := sidR_length (f + n1 - 1) k
        have hil : ∀ q ∈ sidL f k, q.1 ≤ 32 ∧ q.2 < 18446744073709551616 := fun q hq => by
          have := sidL_in (f := f) (by omega) k q hq
          omega
        have hir : ∀ q ∈ sidR (f + n1 - 1) k, q.1 ≤ 32 ∧ q.2 < 18446744073709551616 := fun q hq => by
          have := sidR_in (z := f + n1 - 1) (by omega) k q hq
          omega
        obtain ⟨ll, hll⟩ : ∃ l, l = sidL f k := ⟨_, rfl⟩
        obtain ⟨rr, hrr⟩ : ∃ l, l = sidR (f + n1 - 1) k := ⟨_, rfl⟩
        rw [← hll] at HMK HSD HCN hml hil
        rw [← hrr] at HMK HSD HCN hmr hir
        have HMR := hid (fun (s : List (Nat × Nat)) (hs1 : s.length ≤ k) (hs2 : ∀ q ∈ s, q.1 ≤ 32 ∧ q.2 < 18446744073709551616) (V : World) (A1 E Al : Option Addr) (c1 cE cl : Nat) (q : Below w.heap.size w V) (v : Lv V V.heap.size A1 L) (e : Ev V V.heap.size E) (r : Rd V V.heap.size Al (sptR s)) => show Calls Tryd.prog 45 #[.agg #[.int .i64 (k : Int), .slice A1 NL c1, .slice E 33 cE], .slice Al s.length cl] V (fun r w' => ∃ A2 c2, r = .returned (.slice A2 s.length c2) ∧ Rd w' w'.heap.size A2 (ubs (besideS L s)) ∧ Below V.heap.size V w') from by
          rw [hNL]
          exact make11R_any (k : Int) L E A1 cE c1 s Al cl V hgd.ok hL1 v e (hT.below q) (hIB V q) r hs2 (by omega))
        have HHB := hid (fun (s : List (Nat × Nat)) (hs1 : s.length ≤ k) (V : World) (A9 B9 : Option Addr) (c9 d9 : Nat) (a : Rd V V.heap.size A9 (ubs (besideS L s))) (b : Rd V V.heap.size B9 (ubs (besideS L s))) => show Calls Tryd.prog 19 #[.slice A9 s.length c9, .slice B9 s.length d9] V (fun r w' => r = .returned (.bool true) ∧ Below V.heap.size V w') from by
          have := hashes_any s.length _ _ A9 B9 c9 d9 V (besideS_length hgd.ok _) (besideS_length hgd.ok _) a b (by omega)
          rwa [show decide (besideS L s = besideS L s) = true from decide_eq_true rfl] at this)
        have HML := hid (HMR.out ll hml hil)
        have HMS := hid (HMR.out rr hmr hir)
        have HHL := hid (HHB.out ll hml)
        have HHR := hid (HHB.out rr hmr)
        clear HMR HHB
        generalize besideS L ll = bl at HMK HML HHL
        generalize besideS L rr = br at HMK HMS HHR
        generalize ll.length = nl at HMK HSD HCN HML HHL
        generalize rr.length = nr at HMK HSD HCN HMS HHR
        have dl : decide ((nl : Int) = (nl : Int)) = true := by simp
        have dr : decide ((nr : Int) = (nr : Int)) = true := by simp
        have l1 : decide (60 < (n1 : Int)) = false := decide_eq_false (by omega)
        have l1n : decide (60 < n1) = false := decide_eq_false (by omega)
        obtain ⟨Bx, hBx⟩ : ∃ q, q = w.heap.size := ⟨_, rfl⟩
        rw [← hBx] at HX0
        have HBX := hid hBx
        clear HALV hsc ho h1 h2 hf hT hI hZ t hb hk hl hIB hgd hbn hL hL1 hNL hg hLB hb0 hIE hJZ hBx hpw hLM ek hn1 hn2 hfn hll hrr hml hmr hil hir
        go_enter Tryd.func7, Tryd.ntmps7
        go_wp2_with (first
          | (rw [← hw0]; clear hw0; rw [← HBX.out]; (go_at_call 39; refine HAL.out.mono ?_; rintro r1 w1 ⟨rfl, hb1⟩; have B1 := hid (HB0.out.trans (hb1.mono HB0.out.size)); have X1 := hid (HX0.out.new_ hb1); have qa := X1.out.cell 0; have qb := X1.out.cell 1; simp at qa qb; clear hb1))
          | (go_at_call 12; refine (HBO.out w1 B1.out).mono ?_; rintro r2 w2 ⟨S, b, A1, E, c1, cE, rfl, hk2⟩; simp only [ptr]; have K2 := hid hk2; have B2 := hid (B1.out.trans (hk2.below.mono B1.out.size)); have X2 := hid (X1.out.new_ hk2.below); clear hk2)
          | (refine Great.wpList_allocTo rfl _ rfl _ _ (HAP.out _ _ _ rfl) ?_)
          | (refine Great.wpList_allocTo rfl _ rfl _ _ (HAT.out _ _ _ rfl) ?_)
          | (refine wpList_store_row rfl _ (.tmp 8) (.tmp 33) rfl w2.heap.size #[.int .i64 (k : Int), .slice A1 NL c1, .slice E 33 cE] rfl rfl 33 Z (At.new _ _ _) (HSZ.out _ rfl) ?xc2 ?xc3 ?xc4; rotate_right; have hb3 : Below w2.heap.size w2 ((w2.alloc (.cells Z 33)).setRow w2.heap.size #[.int .i64 (k : Int), .slice A1 NL c1, .slice E 33 cE]) := below_setRow ((Below.refl _ _).alloc (Nat.le_refl _) _) (Nat.le_refl _) _; have N3 := hid (show SkW Pt w S b k L A1 E w2.heap.size Bx #[.int .i64 (k : Int), .slice A1 NL c1, .slice E 33 cE] I ((w2.alloc (.cells Z 33)).setRow w2.heap.size #[.int .i64 (k : Int), .slice A1 NL c1, .slice E 33 cE]) from ⟨HTT.out.new K2.out.t hb3, K2.out.l.new hb3, K2.out.e.new hb3, setRow_heap _ _ _ _ _ _ (At.new w2 Z 33), by rw [HIE.out]; exact X2.out.new_ hb3, B2.out.trans (hb3.mono B2.out.size)⟩); clear hb3; generalize ((w2.alloc (.cells Z 33)).setRow w2.heap.size #[.int .i64 (k : Int), .slice A1 NL c1, .slice E 33 cE]) = w3 at N3 ⊢; generalize w2.heap.size = M at N3 ⊢; have qc := N3.out.s.cell 0; have qd := N3.out.s.cell 1; rw [HIE.out] at qc qd; simp at qc qd)
          | (go_at_call 40; refine (HMK.out w3 N3.out.below S b N3.out.t).mono ?_; rintro r4 w4 ⟨P1, d1, P2, d2, rfl, hp1, hp2, hb4⟩; have N4 := hid (N3.out.new HTT.out hb4); have R4 := hid (show Rd w4 w4.heap.size P1 (ubs bl) ∧ Rd w4 w4.heap.size P2 (ubs br) from ⟨hp1, hp2⟩); obtain ⟨J, hJ⟩ : ∃ J : Array Value, J = #[.slice P1 nl d1, .slice P2 nr d2] := ⟨_, rfl⟩; rw [← hJ]; have HJS := hid (show (Tryd.prog.info? 74).map (·.size) = some J.size by rw [hJ]; exact sizePf); have HJ1 := hid (show J.all (·.oneCell') = true by rw [hJ]; simp [Value.oneCell']); have HJZ := hid (show JZ.size = J.size by rw [hJ, HJE.out]; rfl); have HJJ := hid hJ; clear hp1 hp2 hJ; clear hb4)
          | (refine wpList_store_row rfl _ (.tmp 11) (.tmp 50) rfl w4.heap.size J rfl rfl 74 JZ (At.new _ _ _) HJS.out HJZ.out HJ1.out ?_; have hb5 : Below w4.heap.size w4 ((w4.alloc (.cells JZ 74)).setRow w4.heap.size J) := below_setRow ((Below.refl _ _).alloc (Nat.le_refl _) _) (Nat.le_refl _) _; have N5 := hid (N4.out.new HTT.out hb5); have P5 := hid (show At ((w4.alloc (.cells JZ 74)).setRow w4.heap.size J) w4.heap.size J 74 from setRow_heap _ _ _ _ _ _ (At.new _ _ _)); have R5 := hid (show Rd ((w4.alloc (.cells JZ 74)).setRow w4.heap.size J) ((w4.alloc (.cells JZ 74)).setRow w4.heap.size J).heap.size P1 (ubs bl) ∧ Rd ((w4.alloc (.cells JZ 74)).setRow w4.heap.size J) ((w4.alloc (.cells JZ 74)).setRow w4.heap.size J).heap.size P2 (ubs br) from ⟨rd_on R4.out.1 hb5, rd_on R4.out.2 hb5⟩); clear hb5; generalize ((w4.alloc (.cells JZ 74)).setRow w4.heap.size J) = w5 at N5 P5 R5 ⊢; generalize w4.heap.size = P at P5 ⊢; have qe := N5.out.s.cell 0; have qf := N5.out.s.cell 1; rw [HIE.out] at qe qf; simp at qe qf)
          | (go_at_call 41; refine (HCN.out w5).mono ?_; rintro r6 w6 ⟨rfl, hb6⟩; have N6 := hid (N5.out.new HTT.out hb6); have P6 := hid (P5.out.new_ hb6); have R6 := hid (show Rd w6 w6.heap.size P1 (ubs bl) ∧ Rd w6 w6.heap.size P2 (ubs br) from ⟨rd_on R5.out.1 hb6, rd_on R5.out.2 hb6⟩); have qg := N6.out.s.cell 0; have qh := N6.out.s.cell 1; rw [HIE.out] at qg qh; simp at qg qh; clear hb6)
          | (go_at_call 42; refine (HRR.out _).mono ?_; rintro r7 w7 ⟨rfl, hw⟩; rw [hw]; clear hw w7)
          | (go_at_call 44; refine (HSD.out w6).mono ?_; rintro r7 w7 ⟨AL, cl, AR, cr, rfl, hs1, hs2, hb7⟩; have X7 := hid (show SnW11 Pt w S b k L A1 E M Bx P #[.int .i64 (k : Int), .slice A1 NL c1, .slice E 33 cE] I J AL AR P1 P2 ll rr bl br w7 from ⟨N6.out.new HTT.out hb7, P6.out.new_ hb7, hs1, hs2, rd_on R6.out.1 hb7, rd_on R6.out.2 hb7⟩); clear hs1 hs2 hb7))
        case xc2 => rw [HZE.out]; rfl
        case xc3 => simp [Value.oneCell']
        try simp only [Act.put, List.setIfInBounds_toArray, List.set_cons_succ, List.set_cons_zero]
        refine wp_region_facts 43 43 [107, 108, 109, 110, 111, 112, 113, 114, 115, 116, 117, 118, 119, 120, 121, 122, 123, 124, 125, 126, 127, 128, 129, 130, 131, 132, 133, 134, 135, 136, 137, 138, 139, 140, 141, 142, 143, 144, 145, 146, 147, 148, 6] (smF P Bx k nl nr cl cr d1 d2 f n1 #[.int .i64 (k : Int), .slice A1 NL c1, .slice E 33 cE] AL AR P1 P2 bl br) (SnW11 Pt w S b k L A1 E M Bx P #[.int .i64 (k : Int), .slice A1 NL c1, .slice E 33 cE] I J AL AR P1 P2 ll rr bl br) (by kernel_rfl) (by kernel_rfl)
          (fun W W' h hb => h.new HTT.out hb) (fun _ _ _ _ h hb => smF_new h hb) (X7.out.new HTT.out (Below.refl _ _).drew) ?_ ?_
        · intro i hi vals W K hB hn hK
          simp only [frm_cons, frm_nil, List.set_cons_succ, List.set_cons_zero, Nat.reduceAdd] at hK ⊢
          rcases (by omega : i = 0 ∨ i = 1 ∨ i = 2 ∨ i = 3 ∨ i = 4 ∨ i = 5 ∨ i = 6 ∨ i = 7 ∨ i = 8 ∨ i = 9 ∨ i = 10 ∨ i = 11 ∨ i = 12 ∨ i = 13 ∨ i = 14 ∨ i = 15 ∨ i = 16 ∨ i = 17 ∨ i = 18 ∨ i = 19 ∨ i = 20 ∨ i = 21 ∨ i = 22 ∨ i = 23 ∨ i = 24 ∨ i = 25 ∨ i = 26 ∨ i = 27 ∨ i = 28 ∨ i = 29 ∨ i = 30 ∨ i = 31 ∨ i = 32 ∨ i = 33 ∨ i = 34 ∨ i = 35 ∨ i = 36 ∨ i = 37 ∨ i = 38 ∨ i = 39 ∨ i = 40 ∨ i = 41 ∨ i = 42) with rfl | rfl | rfl | rfl | rfl | rfl | rfl | rfl | rfl | rfl | rfl | rfl | rfl | rfl | rfl | rfl | rfl | rfl | rfl | rfl | rfl | rfl | rfl | rfl | rfl | rfl | rfl | rfl | rfl | rfl | rfl | rfl | rfl | rfl | rfl | rfl | rfl | rfl | rfl | rfl | rfl | rfl | rfl
          · refine wpOp_plain rfl rfl (wp_val (w' := W) (v := .nilIface) (by go_simp) ?_)
            exact hK _ _ rfl (Below.refl _ _)
          · have h0 := hn 0 (by decide +kernel)
            simp only [smF] at h0
            simp only [h0] at hK ⊢
            refine wpOp_plain rfl rfl (wp_val (w' := W) (v := .bool true) (by go_simp) ?_)
            exact hK _ _ rfl (Below.refl _ _)
          · have h1 := hn 1 (by decide +kernel)
            simp only [smF] at h1
            simp only [h1] at hK ⊢
            refine wpOp_plain rfl rfl (wp_val (w' := W) (v := .bool true) (by go_simp) ?_)
            exact hK _ _ rfl (Below.refl _ _)
          · have h2 := hn 2 (by decide +kernel)
            simp only [smF] at h2
            simp only [h2] at hK ⊢
            refine wpOp_on rfl (by rfl) (wp_val (w' := W) (v := .nilIface) (by go_simp) ?_)
            exact hK _ _ rfl (Below.refl _ _)
          · have h2 := hn 2 (by decide +kernel)
            have h3 := hn 3 (by decide +kernel)
            simp only [smF] at h2 h3
            simp only [h2, h3] at hK ⊢
            refine wpOp_on rfl (by rfl) (wp_val (w' := W) (v := .bool true) (by go_simp) ?_)
            exact hK _ _ rfl (Below.refl _ _)
          · have h2 := hn 2 (by decide +kernel)
            have h4 := hn 4 (by decide +kernel)
            simp only [smF] at h2 h4
            simp only [h2, h4] at hK ⊢
            refine wpOp_plain rfl rfl (wp_val (w' := W) (v := .bool true) (by go_simp) ?_)
            exact hK _ _ rfl (Below.refl _ _)
          · have h5 := hn 5 (by decide +kernel)
            simp only [smF] at h5
            simp only [h5] at hK ⊢
            refine wpOp_plain rfl rfl (wp_val (w' := W) (v := .bool true) (by go_simp) ?_)
            exact hK _ _ rfl (Below.refl _ _)
          · have h6 := hn 6 (by decide +kernel)
            simp only [smF] at h6
            simp only [h6] at hK ⊢
            refine wpOp_on rfl (by rfl) (wp_val (w' := W) (v := .int .i64 (nl : Int)) (by go_simp) ?_)
            exact hK _ _ rfl (Below.refl _ _)
          · have h6 := hn 6 (by decide +kernel)
            simp only [smF] at h6
            simp only [h6] at hK ⊢
            refine wpOp_on rfl (by rfl) (wp_val (w' := W) (v := .slice AL nl cl) (by go_simp) ?_)
            exact hK _ _ rfl (Below.refl _ _)
          · have h6 := hn 6 (by decide +kernel)
            have h8 := hn 8 (by decide +kernel)
            simp only [smF] at h6 h8
            simp only [h6, h8] at hK ⊢
            refine wpOp_on rfl (by rfl) (wp_val (w' := W) (v := .int .i64 (nl : Int)) (by go_simp) ?_)
            exact hK _ _ rfl (Below.refl _ _)
          · have h6 := hn 6 (by decide +kernel)
            have h7 := hn 7 (by decide +kernel)
            have h9 := hn 9 (by decide +kernel)
            simp only [smF] at h6 h7 h9
            simp only [h6, h7, h9] at hK ⊢
            refine wpOp_on rfl (by rfl) (wp_val (w' := W) (v := .bool true) (by go_simp) ?_)
            exact hK _ _ rfl (Below.refl _ _)
          · have h6 := hn 6 (by decide +kernel)
            have h10 := hn 10 (by decide +kernel)
            simp only [smF] at h6 h10
            simp only [h6, h10] at hK ⊢
            refine wpOp_plain rfl rfl (wp_val (w' := W) (v := .bool true) (by go_simp) ?_)
            exact hK _ _ rfl (Below.refl _ _)
          · have h11 := hn 11 (by decide +kernel)
            simp only [smF] at h11
            simp only [h11] at hK ⊢
            refine wpOp_plain rfl rfl (wp_val (w' := W) (v := .bool true) (by go_simp) ?_)
            exact hK _ _ rfl (Below.refl _ _)
          · have h12 := hn 12 (by decide +kernel)
            simp only [smF] at h12
            simp only [h12] at hK ⊢
            refine wpOp_on rfl (by rfl) (wp_val (w' := W) (v := .int .i64 (nr : Int)) (by go_simp) ?_)
            exact hK _ _ rfl (Below.refl _ _)
          · have h12 := hn 12 (by decide +kernel)
            simp only [smF] at h12
            simp only [h12] at hK ⊢
            refine wpOp_on rfl (by rfl) (wp_val (w' := W) (v := .slice AR nr cr) (by go_simp) ?_)
            exact hK _ _ rfl (Below.refl _ _)
          · have h12 := hn 12 (by decide +kernel)
            have h14 := hn 14 (by decide +kernel)
            simp only [smF] at h12 h14
            simp only [h12, h14] at hK ⊢
            refine wpOp_on rfl (by rfl) (wp_val (w' := W) (v := .int .i64 (nr : Int)) (by go_simp) ?_)
            exact hK _ _ rfl (Below.refl _ _)
          · have h12 := hn 12 (by decide +kernel)
            have h13 := hn 13 (by decide +kernel)
            have h15 := hn 15 (by decide +kernel)
            simp only [smF] at h12 h13 h15
            simp only [h12, h13, h15] at hK ⊢
            refine wpOp_on rfl (by rfl) (wp_val (w' := W) (v := .bool true) (by go_simp) ?_)
            exact hK _ _ rfl (Below.refl _ _)
          · have h12 := hn 12 (by decide +kernel)
            have h16 := hn 16 (by decide +kernel)
            simp only [smF] at h12 h16
            simp only [h12, h16] at hK ⊢
            refine wpOp_plain rfl rfl (wp_val (w' := W) (v := .bool true) (by go_simp) ?_)
            exact hK _ _ rfl (Below.refl _ _)
          · have h17 := hn 17 (by decide +kernel)
            simp only [smF] at h17
            simp only [h17] at hK ⊢
            refine wpOp_plain rfl rfl (wp_val (w' := W) (v := .bool true) (by go_simp) ?_)
            exact hK _ _ rfl (Below.refl _ _)
          · have h18 := hn 18 (by decide +kernel)
            simp only [smF] at h18
            simp only [h18] at hK ⊢
            refine wpOp_on rfl (by rfl) (wp_val (w' := W) (v := .pointer (some ⟨P, 0, none⟩)) (by go_simp) ?_)
            exact hK _ _ rfl (Below.refl _ _)
          · have h18 := hn 18 (by decide +kernel)
            have h19 := hn 19 (by decide +kernel)
            simp only [smF] at h18 h19
            simp only [h18, h19] at hK ⊢
            have q0 := hB.p.cell 0
            rw [HJJ.out] at q0
            simp at q0
            refine wpOp_on rfl (by rfl) (wp_val (w' := W) (v := .slice P1 nl d1) (by go_simp) ?_)
            exact hK _ _ rfl (Below.refl _ _)
          · have h18 := hn 18 (by decide +kernel)
            simp only [smF] at h18
            simp only [h18] at hK ⊢
            refine wpOp_on rfl (by rfl) (wp_val (run_loadTr (.tmp 8) rfl M rfl #[.int .i64 (k : Int), .slice A1 NL c1, .slice E 33 cE] hB.x.m (HSZ.out _ rfl)) ?_)
            exact hK _ _ rfl (Below.refl _ _)
          · have h18 := hn 18 (by decide +kernel)
            simp only [smF] at h18
            simp only [h18] at hK ⊢
            refine wpOp_on rfl (by rfl) (wp_val (w' := W) (v := .slice AL nl cl) (by go_simp) ?_)
            exact hK _ _ rfl (Below.refl _ _)
          · have h18 := hn 18 (by decide +kernel)
            have h21 := hn 21 (by decide +kernel)
            have h22 := hn 22 (by decide +kernel)
            simp only [smF] at h18 h21 h22
            simp only [h18, h21, h22] at hK ⊢
            refine wpOp_on rfl (by rfl) ?_
            go_simp
            go_at_call 45
            refine (HML.out W A1 E AL c1 cE cl hB.x.below hB.x.l hB.x.e hB.al).mono ?_
            rintro e W' ⟨A9, c9, rfl, hr, hb⟩
            exact hK _ _ ⟨A9, c9, rfl, hr⟩ hb
          · have h18 := hn 18 (by decide +kernel)
            have h20 := hn 20 (by decide +kernel)
            have h23 := hn 23 (by decide +kernel)
            simp only [smF] at h18 h20
            obtain ⟨A23, c23, e23, R23⟩ := h23
            simp only [h18, h20, e23] at hK ⊢
            refine wpOp_on rfl (by rfl) ?_
            go_simp
            go_at_call 19
            refine (HHL.out W P1 A23 d1 c23 hB.p1 R23).mono ?_
            rintro e W' ⟨rfl, hb⟩
            exact hK _ _ rfl hb
          · have h18 := hn 18 (by decide +kernel)
            have h24 := hn 24 (by decide +kernel)
            simp only [smF] at h18 h24
            simp only [h18, h24] at hK ⊢
            refine wpOp_plain rfl rfl (wp_val (w' := W) (v := .bool true) (by go_simp) ?_)
            exact hK _ _ rfl (Below.refl _ _)
          · have h25 := hn 25 (by decide +kernel)
            simp only [smF] at h25
            simp only [h25] at hK ⊢
            refine wpOp_plain rfl rfl (wp_val (w' := W) (v := .bool true) (by go_simp) ?_)
            exact hK _ _ rfl (Below.refl _ _)
          · have h26 := hn 26 (by decide +kernel)
            simp only [smF] at h26
            simp only [h26] at hK ⊢
            refine wpOp_on rfl (by rfl) (wp_val (w' := W) (v := .pointer (some ⟨P, 1, none⟩)) (by go_simp) ?_)
            exact hK _ _ rfl (Below.refl _ _)
          · have h26 := hn 26 (by decide +kernel)
            have h27 := hn 27 (by decide +kernel)
            simp only [smF] at h26 h27
            simp only [h26, h27] at hK ⊢
            have q0 := hB.p.cell 1
            rw [HJJ.out] at q0
            simp at q0
            refine wpOp_on rfl (by rfl) (wp_val (w' := W) (v := .slice P2 nr d2) (by go_simp) ?_)
            exact hK _ _ rfl (Below.refl _ _)
          · have h26 := hn 26 (by decide +kernel)
            simp only [smF] at h26
            simp only [h26] at hK ⊢
            refine wpOp_on rfl (by rfl) (wp_val (run_loadTr (.tmp 8) rfl M rfl #[.int .i64 (k : Int), .slice A1 NL c1, .slice E 33 cE] hB.x.m (HSZ.out _ rfl)) ?_)
            exact hK _ _ rfl (Below.refl _ _)
          · have h26 := hn 26 (by decide +kernel)
            simp only [smF] at h26
            simp only [h26] at hK ⊢
            refine wpOp_on rfl (by rfl) (wp_val (w' := W) (v := .slice AR nr cr) (by go_simp) ?_)
            exact hK _ _ rfl (Below.refl _ _)
          · have h26 := hn 26 (by decide +kernel)
            have h29 := hn 29 (by decide +kernel)
            have h30 := hn 30 (by decide +kernel)
            simp only [smF] at h26 h29 h30
            simp only [h26, h29, h30] at hK ⊢
            refine wpOp_on rfl (by rfl) ?_
            go_simp
            go_at_call 45
            refine (HMS.out W A1 E AR c1 cE cr hB.x.below hB.x.l hB.x.e hB.ar).mono ?_
            rintro e W' ⟨A9, c9, rfl, hr, hb⟩
            exact hK _ _ ⟨A9, c9, rfl, hr⟩ hb
          · have h26 := hn 26 (by decide +kernel)
            have h28 := hn 28 (by decide +kernel)
            have h31 := hn 31 (by decide +kernel)
            simp only [smF] at h26 h28
            obtain ⟨A31, c31, e31, R31⟩ := h31
            simp only [h26, h28, e31] at hK ⊢
            refine wpOp_on rfl (by rfl) ?_
            go_simp
            go_at_call 19
            refine (HHR.out W P2 A31 d2 c31 hB.p2 R31).mono ?_
            rintro e W' ⟨rfl, hb⟩
            exact hK _ _ rfl hb
          · have h26 := hn 26 (by decide +kernel)
            have h32 := hn 32 (by decide +kernel)
            simp only [smF] at h26 h32
            simp only [h26, h32] at hK ⊢
            refine wpOp_plain rfl rfl (wp_val (w' := W) (v := .bool true) (by go_simp) ?_)
            exact hK _ _ rfl (Below.refl _ _)
          · have h33 := hn 33 (by decide +kernel)
            simp only [smF] at h33
            simp only [h33] at hK ⊢
            refine wpOp_plain rfl rfl (wp_val (w' := W) (v := .bool true) (by go_simp) ?_)
            exact hK _ _ rfl (Below.refl _ _)
          · have h34 := hn 34 (by decide +kernel)
            simp only [smF] at h34
            simp only [h34] at hK ⊢
            refine wpOp_on rfl (by rfl) (wp_val (w' := W) (v := .int .i64 (k : Int)) (by go_simp) ?_)
            exact hK _ _ rfl (Below.refl _ _)
          · have h34 := hn 34 (by decide +kernel)
            simp only [smF] at h34
            simp only [h34] at hK ⊢
            refine wpOp_on rfl (by rfl) (wp_val (w' := W) (v := .pointer (some ⟨Bx, 0, none⟩)) (by go_simp) ?_)
            exact hK _ _ rfl (Below.refl _ _)
          · have h34 := hn 34 (by decide +kernel)
            have h36 := hn 36 (by decide +kernel)
            simp only [smF] at h34 h36
            simp only [h34, h36] at hK ⊢
            have q0 := hB.x.s.cell 0
            rw [HIE.out] at q0
            simp at q0
            refine wpOp_on rfl (by rfl) (wp_val (w' := W) (v := .int .u64 (f : Int)) (by go_simp) ?_)
            exact hK _ _ rfl (Below.refl _ _)
          · have h34 := hn 34 (by decide +kernel)
            simp only [smF] at h34
            simp only [h34] at hK ⊢
            refine wpOp_on rfl (by rfl) (wp_val (w' := W) (v := .pointer (some ⟨Bx, 1, none⟩)) (by go_simp) ?_)
            exact hK _ _ rfl (Below.refl _ _)
          · have h34 := hn 34 (by decide +kernel)
            have h38 := hn 38 (by decide +kernel)
            simp only [smF] at h34 h38
            simp only [h34, h38] at hK ⊢
            have q0 := hB.x.s.cell 1
            rw [HIE.out] at q0
            simp at q0
            refine wpOp_on rfl (by rfl) (wp_val (w' := W) (v := .int .i64 (n1 : Int)) (by go_simp) ?_)
            exact hK _ _ rfl (Below.refl _ _)
          · have h34 := hn 34 (by decide +kernel)
            have h35 := hn 35 (by decide +kernel)
            have h37 := hn 37 (by decide +kernel)
            have h39 := hn 39 (by decide +kernel)
            simp only [smF] at h34 h35 h37 h39
            simp only [h34, h35, h37, h39] at hK ⊢
            refine wpOp_on rfl (by rfl) ?_
            go_simp
            go_at_call 43
            refine (HPR.out W).mono ?_
            rintro e W' ⟨rfl, hw⟩
            exact hK _ _ rfl (by rw [hw]; exact Below.refl _ _)
          · have h34 := hn 34 (by decide +kernel)
            have h40 := hn 40 (by decide +kernel)
            simp only [smF] at h34 h40
            simp only [h34, h40] at hK ⊢
            refine wpOp_plain rfl rfl (wp_val (w' := W) (v := .bool true) (by go_simp) ?_)
            exact hK _ _ rfl (Below.refl _ _)
          · have h41 := hn 41 (by decide +kernel)
            simp only [smF] at h41
            simp only [h41] at hK ⊢
            refine wpOp_plain rfl rfl (wp_val (w' := W) (v := .bool true) (by go_simp) ?_)
            exact hK _ _ rfl (Below.refl _ _)
        · intro vals W hB hF
          have h42 := hF 42 (by omega)
          simp only [smF] at h42
          simp only [frm_cons, frm_nil, List.set_cons_succ, List.set_cons_zero, Nat.reduceAdd, h42]
          refine wpUpto_done (by decide +kernel) ?_ _
          have H8 := hid hB
          clear hB hF h42
          go_simp
          go_wp2
          go_ret
          exact ⟨rfl, H8.out.x.below⟩

    · have HBO := hid (fun (V : World) (q : Below w.heap.size w V) => both_no t h n A c V q hb)
      rw [← HZE.out] at HBO
      obtain ⟨Bx, hBx⟩ : ∃ q, q = w.heap.size := ⟨_, rfl⟩
      rw [← hBx] at HX0
      have HBX := hid hBx
      clear HALV hsc ho h1 h2 hf hT hI hZ t hb hLB hb0 hIE hJZ hBx
      rcases hLM with hLM | hLM
      · have l1 : decide (60 < m) = false := decide_eq_false (by omega)
        clear hLM
        go_enter Tryd.func7, Tryd.ntmps7
        go_wp2_with (first
          | (rw [← hw0]; clear hw0; rw [← HBX.out]; (go_at_call 39; refine HAL.out.mono ?_; rintro r1 w1 ⟨rfl, hb1⟩; have B1 := hid (HB0.out.trans (hb1.mono HB0.out.size)); have X1 := hid (HX0.out.new_ hb1); have qa := X1.out.cell 0; have qb := X1.out.cell 1; simp at qa qb; clear hb1))
          | (go_at_call 12; refine (HBO.out w1 B1.out).mono ?_; rintro r2 w2 ⟨rfl, hb2⟩; have B2 := hid (B1.out.trans (hb2.mono B1.out.size)); clear hb2)
          | (refine Great.wpList_allocTo rfl _ rfl _ _ (HAT.out _ _ _ rfl) ?_)
          | (refine wpList_store_row rfl _ (.tmp 8) (.tmp 33) rfl w2.heap.size Z rfl rfl 33 Z (At.new _ _ _) HZS.out rfl HZ1.out ?_; have B3 := hid (B2.out.trans ((below_setRow ((Below.refl _ _).alloc (Nat.le_refl _) _) (Nat.le_refl _) _ : Below w2.heap.size w2 ((w2.alloc (.cells Z 33)).setRow w2.heap.size Z)).mono B2.out.size))))
        go_ret
        exact ⟨rfl, B3.out⟩
      · have l1 : decide (60 < m) = true := decide_eq_true (by omega)
        have l2 : decide (m ≤ 256) = false := decide_eq_false (by omega)
        clear hLM
        go_enter Tryd.func7, Tryd.ntmps7
        go_wp2_with (first
          | (rw [← hw0]; clear hw0; rw [← HBX.out]; (go_at_call 39; refine HAL.out.mono ?_; rintro r1 w1 ⟨rfl, hb1⟩; have B1 := hid (HB0.out.trans (hb1.mono HB0.out.size)); have X1 := hid (HX0.out.new_ hb1); have qa := X1.out.cell 0; have qb := X1.out.cell 1; simp at qa qb; clear hb1))
          | (go_at_call 12; refine (HBO.out w1 B1.out).mono ?_; rintro r2 w2 ⟨rfl, hb2⟩; have B2 := hid (B1.out.trans (hb2.mono B1.out.size)); clear hb2)
          | (refine Great.wpList_allocTo rfl _ rfl _ _ (HAT.out _ _ _ rfl) ?_)
          | (refine wpList_store_row rfl _ (.tmp 8) (.tmp 33) rfl w2.heap.size Z rfl rfl 33 Z (At.new _ _ _) HZS.out rfl HZ1.out ?_; have B3 := hid (B2.out.trans ((below_setRow ((Below.refl _ _).alloc (Nat.le_refl _) _) (Nat.le_refl _) _ : Below w2.heap.size w2 ((w2.alloc (.cells Z 33)).setRow w2.heap.size Z)).mono B2.out.size))))
        go_ret
        exact ⟨rfl, B3.out⟩
end Go.Proofs.YtlmecjnlinalkaaDoor
