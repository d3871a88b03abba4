/-
  The law of SpanRoots, over the example.
-/
import Derived.Test.YtlmecjnlinalkaaDoorM4
import Derived.Test.YtlmecjnlinalkaaDoorM2
import Derived.Test.YtlmecjnlinalkaaDoorNg
namespace Go.Proofs.YtlmecjnlinalkaaDoor
open Go.RowKit

/-- Hashes are appended that read as l, or none; where the new slice lies. -/
theorem wpList_append_hr {ops : Array Oper} {rest : List Oper} {o : Oper} {a : Go.Act} {W : World} {Q : Exit → Go.Act → World → Prop} (hw : Region.wanted o (yielded ops a.tmps) = true) (s x : Operand)
    (ho : o.op = .call { callee := .builtin .append, args := #[s, x], argTypes := #[31, 31] })
    (base : Nat) (v : Value) (n : Nat) (bs : List UInt8) (hs : a.eval s = v) (hown : Ah W base v n bs) (B : Nat) (A : Option Addr) (m c : Nat) (l : List UInt8) (hx : a.eval x = .slice A m c) (hr : Rd W B A (ubs l)) (hp : l.length = 32 * m) (hl : n + m ≤ 8589934592) (hbase : base ≤ W.heap.size)
    (h : ∀ A c w', Ah w' base (.slice A (n + m) c) (n + m) (bs ++ l) → W.grownBy w' v.ownBlock → wpList Tryd.prog ops Q rest (a.put o.dst (.slice A (n + m) c)) w') :
    wpList Tryd.prog ops Q (o :: rest) a W := by
  rcases A with _ | ⟨g, q, sp⟩
  · have hn : l = [] := by
      rcases l with _ | ⟨y, ys⟩
      · rfl
      · obtain ⟨_, _, h, _⟩ := hr (by simp [ubs])
        cases h
    subst hn
    obtain rfl : m = 0 := by simp at hp; omega
    refine BigFrame.wpList_want hw fun _ hK => ?_
    obtain ⟨i, hi, hz, hsz, hby⟩ := info_parts infoH
    obtain ⟨A, c', rfl⟩ := hown.form
    have hrun : (Builtin.append_ #[31, 31] o.type #[.slice A n c', .slice none 0 c]).run Tryd.prog W = .ok (.slice A n c') W := by
      rcases hown.2 with ⟨h1, h2⟩ | ⟨g, cap, cur, h1, _, _, hnc, _⟩
      · cases h1
        simp [Builtin.append_, run_underlying Tryd.underlying31, sizeOf, typeInfo, hi, Builtin.lenOf, Builtin.firstCells]
      · cases h1
        simp [Builtin.append_, run_underlying Tryd.underlying31, sizeOf, typeInfo, hi, Builtin.lenOf, Builtin.firstCells, hnc, storeCells]
    have h6 := h A c' W (by rw [List.append_nil]; exact hown) ⟨rfl, rfl, rfl, Nat.le_refl _, fun _ _ _ => rfl⟩
    unfold Oper.wp execOp
    simp only [ho, resolve, invoke, builtin, Sem.run_bind, Sem.run_pure, Result.andThen_ok, List.map_toArray, List.map_cons, List.map_nil, hs, hx, hrun]
    exact hK _ _ h6
  · by_cases hn : l = []
    · subst hn
      obtain rfl : m = 0 := by simp at hp; omega
      refine BigFrame.wpList_want hw fun _ hK => ?_
      obtain ⟨i, hi, hz, hsz, hby⟩ := info_parts infoH
      obtain ⟨v', w', hr', h2, h3, -, -⟩ := run_append_own_at (P := Tryd.prog) W base 31 o.type 25 i _ 32 32 Tryd.underlying31 hi hz hsz hby (by show (ubs n32).toArray.size = 32; rw [List.size_toArray, ubs_length]; exact n32_length) (by omega) v n (ubs bs) hown ⟨g, q, sp⟩ 0 c [] rfl (fun j u hu => by cases hu) (fun u hu => by cases hu) (by unfold maxLen; omega) (by omega) hbase
      have h6 : Ah w' base v' (n + 0) (bs ++ []) := by
        unfold Ah
        rw [ubs_append]
        exact h2
      obtain ⟨A, c', rfl⟩ := h6.form
      have h7 := h A c' w' h6 h3
      unfold Oper.wp execOp
      simp only [ho, resolve, invoke, builtin, Sem.run_bind, Sem.run_pure, Result.andThen_ok, List.map_toArray, List.map_cons, List.map_nil, hs, hx, hr']
      exact hK _ _ h7
    · obtain ⟨g', q', e, -, hc⟩ := hr (by intro e; exact hn (by have := congrArg List.length e; rw [ubs_length] at this; exact List.eq_nil_of_length_eq_zero this))
      cases e
      exact wpList_append_hs hw s x ho base v n bs hs hown g q m c l hx hc hp hl hbase fun A c w' h1 h2 _ => h A c w' h1 h2
def h9x : List UInt8 := 9 :: List.replicate 31 0
theorem run_build_h9x {o : Oper} {a : Go.Act} {W : World} (ho : o.op = .build 25 #[(0, .const (.int .u8 9))]) : (execOp a.eval o).run Tryd.prog W = .ok (.value (.agg (ubs h9x).toArray)) W :=
  run_build_of _ _ ho _ (by kernel_rfl)
theorem ckS_own (h : Int) (f m nl nr : Nat) (lv le ri : List UInt8) : ckS (rootSp h f m nl nr lv le ri) h f m nl nr lv le ri = ebS h f m nl nr := by
  unfold ckS
  split
  · rename_i g
    rw [if_pos rfl, g]
  · rfl
/-- What the law looks at. -/
structure SrX11 (w : World) (three O : Array Value) (own : Value) (P G J n0 : Nat) (b0 root : List UInt8) (W : World) : Prop where
  x : At W w.heap.size three 85
  p : At W P O 74
  own : ∀ A n c, own = .slice A n c → Rd W W.heap.size A (ubs b0)
  g : At W G (ubs root).toArray 25
  j : At W J (ubs root).toArray 25
  below : Below w.heap.size w W
theorem SrX11.new {w : World} {three O : Array Value} {own : Value} {P G J n0 : Nat} {b0 root : List UInt8} {W W' : World} (x : SrX11 w three O own P G J n0 b0 root W) (hb : Below W.heap.size W W') : SrX11 w three O own P G J n0 b0 root W' :=
  ⟨x.x.new_ hb, x.p.new_ hb, fun A n c e => ((x.own A n c e).below hb).mono hb.size, x.g.new_ hb, x.j.new_ hb, x.below.trans (hb.mono x.below.size)⟩
set_option maxRecDepth 100000 in
set_option maxHeartbeats 8000000 in
theorem spanRoots_law {w : World} (HALV : Alive11C w) (h : Int) (f : Nat) (hf : f < 18446744073709551616) (A0 A1 A2 : Option Addr) (n0 n1 n2 c0 c1 c2 : Nat) (b0 b1 b2 : List UInt8) (h0 : Rd w w.heap.size A0 (ubs b0)) (l0 : b0.length = 32 * n0) (h1 : Rd w w.heap.size A1 (ubs b1)) (l1 : b1.length = 32 * n1) (k1 : n1 ≤ c1) (h2 : Rd w w.heap.size A2 (ubs b2)) (l2 : b2.length = 32 * n2) (k2 : n2 ≤ c2) (hT : Tabs w) (hR : Tabr w) (hI : Tab w 1 IV.l) :
    Calls Tryd.prog 8 #[.int .i64 h, .int .u64 (f : Int), .agg #[.slice A0 n0 c0, .slice A1 n1 c1, .slice A2 n2 c2]] w fun r w' => r = .returned (.bool true) ∧ Below w.heap.size w w' := by
  obtain ⟨three, hthree⟩ : ∃ t : Array Value, t = #[.slice A0 n0 c0, .slice A1 n1 c1, .slice A2 n2 c2] := ⟨_, rfl⟩
  obtain ⟨w0, hw0⟩ : ∃ W, W = w.alloc (.cells three 85) := ⟨_, rfl⟩
  have hb0 : Below w.heap.size w w0 := by rw [hw0]; exact (Below.refl _ _).alloc (Nat.le_refl _) _
  have X0 := hid (show At w0 w.heap.size three 85 by rw [hw0]; exact At.new _ _ _)
  have B0 := hid hb0
  have HAL := hid (HALV w0 hb0)
  have HC := hid (fun (V : World) (hx : At V w.heap.size three 85) => show V.cell? ⟨w.heap.size, 0, none⟩ = some (.slice A0 n0 c0) ∧ V.cell? ⟨w.heap.size, 1, none⟩ = some (.slice A1 n1 c1) ∧ V.cell? ⟨w.heap.size, 2, none⟩ = some (.slice A2 n2 c2) from by
    have h0 := hx.cell 0
    have h1 := hx.cell 1
    have h2 := hx.cell 2
    rw [hthree] at h0 h1 h2
    exact ⟨by simpa using h0, by simpa using h1, by simpa using h2⟩)
  rw [hthree] at hw0
  clear hthree
  by_cases hA : 60 < n0
  · have d0 : decide (60 < (n0 : Int)) = true := decide_eq_true (by omega)
    have d0n : decide (60 < n0) = true := decide_eq_true (by omega)
    clear hA HALV h0 l0 h1 l1 k1 h2 l2 k2 hT hR hI hb0 hf
    go_enter Tryd.func8, Tryd.ntmps8
    go_wp2_with (first
      | (rw [← hw0]; clear hw0; go_at_call 39; refine HAL.out.mono ?_; rintro r1 w1 ⟨rfl, hb1⟩; have X1 := hid (X0.out.new_ hb1); have B1 := hid (B0.out.trans (hb1.mono B0.out.size)); have e10 := (HC.out w1 X1.out).1; have e11 := (HC.out w1 X1.out).2.1; have e12 := (HC.out w1 X1.out).2.2; clear hb1))
    go_ret
    exact ⟨rfl, B1.out⟩
  have d0 : decide (60 < (n0 : Int)) = false := decide_eq_false (by omega)
  have d0n : decide (60 < n0) = false := decide_eq_false (by omega)
  by_cases hB : 100 < n1
  · have d1 : decide (100 < (n1 : Int)) = true := decide_eq_true (by omega)
    have d1n : decide (100 < n1) = true := decide_eq_true (by omega)
    clear hA hB HALV h0 l0 h1 l1 k1 h2 l2 k2 hT hR hI hb0 hf
    go_enter Tryd.func8, Tryd.ntmps8
    go_wp2_with (first
      | (rw [← hw0]; clear hw0; go_at_call 39; refine HAL.out.mono ?_; rintro r1 w1 ⟨rfl, hb1⟩; have X1 := hid (X0.out.new_ hb1); have B1 := hid (B0.out.trans (hb1.mono B0.out.size)); have e10 := (HC.out w1 X1.out).1; have e11 := (HC.out w1 X1.out).2.1; have e12 := (HC.out w1 X1.out).2.2; clear hb1))
    go_ret
    exact ⟨rfl, B1.out⟩
  have d1 : decide (100 < (n1 : Int)) = false := decide_eq_false (by omega)
  have d1n : decide (100 < n1) = false := decide_eq_false (by omega)
  by_cases hC : 100 < n2
  · have d2 : decide (100 < (n2 : Int)) = true := decide_eq_true (by omega)
    have d2n : decide (100 < n2) = true := decide_eq_true (by omega)
    clear hA hB hC HALV h0 l0 h1 l1 k1 h2 l2 k2 hT hR hI hb0 hf
    go_enter Tryd.func8, Tryd.ntmps8
    go_wp2_with (first
      | (rw [← hw0]; clear hw0; go_at_call 39; refine HAL.out.mono ?_; rintro r1 w1 ⟨rfl, hb1⟩; have X1 := hid (X0.out.new_ hb1); have B1 := hid (B0.out.trans (hb1.mono B0.out.size)); have e10 := (HC.out w1 X1.out).1; have e11 := (HC.out w1 X1.out).2.1; have e12 := (HC.out w1 X1.out).2.2; clear hb1))
    go_ret
    exact ⟨rfl, B1.out⟩
  have d2 : decide (100 < (n2 : Int)) = false := decide_eq_false (by omega)
  have d2n : decide (100 < n2) = false := decide_eq_false (by omega)
  obtain ⟨root, hroot⟩ : ∃ r, r = rootSp h f n0 n1 n2 b0 b1 b2 := ⟨_, rfl⟩
  obtain ⟨kx, hkx⟩ : ∃ k, k = ebS h f n0 n1 n2 := ⟨_, rfl⟩
  have HRL := hid (show root.length = 32 by rw [hroot]; exact rootSp_length l0 l1 l2)
  obtain ⟨m, hm⟩ : ∃ m, m = n32 := ⟨_, rfl⟩
  have HAH := hid (fun (o : Oper) (a : Go.Act) (W : World) (h : o.op = .alloc 25) => run_alloc_of (o := o) (a := a) (W := W) _ h _ zeroH8)
  have HNL := hid (show m.length = 32 by rw [hm]; exact n32_length)
  rw [← hm] at HAH
  obtain ⟨q, hq⟩ : ∃ q, q = h9x := ⟨_, rfl⟩
  have HBQ := hid (fun (o : Oper) (a : Go.Act) (W : World) (h : o.op = .build 25 #[(0, .const (.int .u8 9))]) => run_build_h9x (o := o) (a := a) (W := W) h)
  have HQL := hid (show q.length = 32 by rw [hq]; rfl)
  rw [← hq] at HBQ
  obtain ⟨ky, hky⟩ : ∃ k, k = ckS q h f n0 n1 n2 b0 b1 b2 := ⟨_, rfl⟩
  have HNUM := hid (fun (k : Nat) V => enum_any k V)
  obtain ⟨O, hO⟩ : ∃ O : Array Value, O = #[.slice A1 n1 c1, .slice A2 n2 c2] := ⟨_, rfl⟩
  obtain ⟨Z, hZ⟩ : ∃ Z : Array Value, Z = #[.slice none 0 0, .slice none 0 0] := ⟨_, rfl⟩
  have HOE := hid (fun (a : Value) (e : a = .agg #[.slice A1 n1 c1, .slice A2 n2 c2]) => show a = .agg O by rw [hO]; exact e)
  have HZE := hid hZ
  have HSO := hid (show (Tryd.prog.info? 74).map (·.size) = some O.size by rw [hO]; exact sizePf)
  have HZO := hid (show Z.size = O.size by rw [hZ, hO]; rfl)
  have HOC := hid (show O.all (·.oneCell') = true by rw [hO]; simp [Value.oneCell'])
  have HRT := hid (fun (V : World) (b : Below w.heap.size w V) (A : Option Addr) (c : Nat) (r : Rd V V.heap.size A (ubs b0)) => show Calls Tryd.prog 46 #[.int .i64 h, .int .u64 (f : Int), .slice A n0 c, .agg O] V (fun r W' => r = .returned (.tuple #[.agg (ubs root).toArray, errV kx]) ∧ Below V.heap.size V W') from by
    rw [hO, hroot, hkx]
    exact proot11_any h f n0 n1 n2 c c1 c2 b0 b1 b2 A A1 A2 V hf k1 k2 l0 l1 l2 r ((h1.below b).mono b.size) ((h2.below b).mono b.size) (hT.below b))
  have HRR := hid (fun (V : World) (b : Below w.heap.size w V) => show Calls Tryd.prog 47 #[.int .i64 h, .int .u64 (f : Int), .slice A0 n0 c0, .slice A1 n1 c1, .slice A2 n2 c2] V (fun r W' => r = .returned (.tuple #[.agg (ubs root).toArray, .int .i64 (kx : Int)]) ∧ Below V.heap.size V W') from by
    rw [hroot, hkx]
    exact root11R_any h f n0 n1 n2 c0 c1 c2 b0 b1 b2 A0 A1 A2 V hf l0 l1 l2 ((h0.below b).mono b.size) ((h1.below b).mono b.size) ((h2.below b).mono b.size) (hR.below b) (Tab.below (x := IV.a) (xs := [IV.b, IV.c, IV.d, IV.e, IV.f, IV.g, IV.h]) hI b))
  have HCO := hid (fun (V : World) (b : Below w.heap.size w V) (A : Option Addr) (c : Nat) (r : Rd V V.heap.size A (ubs b0)) => show Calls Tryd.prog 49 #[.agg (ubs root).toArray, .int .i64 h, .int .u64 (f : Int), .slice A n0 c, .agg O] V (fun r W' => r = .returned (errV kx) ∧ Below V.heap.size V W') from by
    have := pcheck11_any root HRL.out h f n0 n1 n2 c c1 c2 b0 b1 b2 A A1 A2 V hf k1 k2 l0 l1 l2 r ((h1.below b).mono b.size) ((h2.below b).mono b.size) (hT.below b)
    rw [hroot, ckS_own, ← hroot, ← hkx] at this
    rw [hO]
    exact this)
  have HCQ := hid (fun (V : World) (b : Below w.heap.size w V) (A : Option Addr) (c : Nat) (r : Rd V V.heap.size A (ubs b0)) => show Calls Tryd.prog 49 #[.agg (ubs q).toArray, .int .i64 h, .int .u64 (f : Int), .slice A n0 c, .agg O] V (fun r W' => r = .returned (errV ky) ∧ Below V.heap.size V W') from by
    rw [hO, hky]
    exact pcheck11_any q HQL.out h f n0 n1 n2 c c1 c2 b0 b1 b2 A A1 A2 V hf k1 k2 l0 l1 l2 r ((h1.below b).mono b.size) ((h2.below b).mono b.size) (hT.below b))
  have HHA := hid (fun (V : World) (b : Below w.heap.size w V) (A : Option Addr) (c : Nat) (r : Rd V V.heap.size A (ubs b0)) => show Calls Tryd.prog 19 #[.slice A n0 c, .slice A0 n0 c0] V (fun r w' => r = .returned (.bool true) ∧ Below V.heap.size V w') from by
    refine (hashes_any n0 b0 b0 A A0 c c0 V l0 l0 r ((h0.below b).mono b.size) (by omega)).mono ?_
    rintro r w' ⟨h1, h2⟩
    exact ⟨by rw [h1]; simp, h2⟩)
  have HKY := hid (show ky = if kx = 0 then (if root = q then 0 else 5) else kx by rw [hky, hkx, hroot]; rfl)
  have HA0 := hid (fun (V : World) (b : Below w.heap.size w V) => show Rd V V.heap.size A0 (ubs b0) from ((h0.below b).mono b.size))
  have HL0 := hid l0
  have HN0 := hid (show n0 ≤ 60 by omega)
  have dk : decide ((kx : Int) = (kx : Int)) = true := by simp
  clear HALV h0 l0 h1 l1 k1 h2 l2 k2 hT hR hI hb0 hf hA hB hC hroot hkx hm hq hky hO hZ
  go_enter Tryd.func8, Tryd.ntmps8
  go_upto_region 5 with (first
    | (rw [← hw0]; clear hw0; go_at_call 39; refine HAL.out.mono ?_; rintro r1 w1 ⟨rfl, hb1⟩; have X1 := hid (X0.out.new_ hb1); have B1 := hid (B0.out.trans (hb1.mono B0.out.size)); have e10 := (HC.out w1 X1.out).1; have e11 := (HC.out w1 X1.out).2.1; have e12 := (HC.out w1 X1.out).2.2; clear hb1))
  go_upto_region 6 with (first
    | (refine wpList_store_row rfl _ (.tmp 7) (.tmp 36) rfl w1.heap.size O rfl (HOE.out _ rfl) 74 Z (by rw [HZE.out]; exact At.new _ _ _) HSO.out HZO.out HOC.out ?_; rw [← HZE.out]; have hb2 : Below w1.heap.size w1 ((w1.alloc (.cells Z 74)).setRow w1.heap.size O) := below_setRow ((Below.refl _ _).alloc (Nat.le_refl _) _) (Nat.le_refl _) _; have B2 := hid (B1.out.trans (hb2.mono B1.out.size)); have X2 := hid (X1.out.new_ hb2); have P2 := hid (show At ((w1.alloc (.cells Z 74)).setRow w1.heap.size O) w1.heap.size O 74 from setRow_heap _ _ _ _ _ _ (At.new _ _ _)); clear hb2; generalize ((w1.alloc (.cells Z 74)).setRow w1.heap.size O) = w2 at B2 X2 P2 ⊢; generalize w1.heap.size = P at P2 ⊢; clear e10 e11 e12; have e20 := (HC.out w2 X2.out).1; have hb3 : Below w2.heap.size w2 (w2.alloc (.cells #[] 25)) := (Below.refl _ _).alloc (Nat.le_refl _) _; have HO3 := hid (show Ah (w2.alloc (.cells #[] 25)) w2.heap.size (.slice (some ⟨w2.heap.size, 0, none⟩) 0 0) 0 [] from ⟨rfl, .inr ⟨w2.heap.size, 0, #[], rfl, Nat.le_refl _, heap_alloc_new w2 _, Nat.le_refl _, Nat.zero_le _, rfl, rfl⟩⟩); have B3 := hid (B2.out.trans (hb3.mono B2.out.size)); have e30 := (HC.out _ (X2.out.new_ hb3)).1; have D3 := hid hb3; clear hb3))
  go_upto_region 7 with (first
    | (refine wpList_append_hr (by rfl) (.tmp 37) (.tmp 39) rfl w2.heap.size (.slice (some ⟨w2.heap.size, 0, none⟩) 0 0) 0 [] rfl HO3.out _ A0 n0 c0 b0 rfl (HA0.out _ B3.out) HL0.out (by have := HN0.out; omega) D3.out.size ?_; intro A4 c4 w4 h41 h42; simp only [Nat.zero_add, List.nil_append] at h41 ⊢; have hb4 : Below w2.heap.size w2 w4 := D3.out.grown h42 D3.out.size (fun k hk => by cases hk; exact Nat.le_refl _); have R4 := hid (fun (V : World) (hv : Below w4.heap.size w4 V) => show Rd V V.heap.size A4 (ubs b0) from ((h41.rd.below hv).mono hv.size)); have B4 := hid (B2.out.trans (hb4.mono B2.out.size)); have X4 := hid (X2.out.new_ hb4); have P4 := hid (P2.out.new_ hb4); clear h41 h42 hb4 e20 e30))
  go_upto_region 8 with (first
    | (refine wpList_load_row rfl _ (.tmp 7) rfl P rfl 74 O (0, 0) _ P4.out Tryd.underlying74 rfl HSO.out ?_)
    | (go_at_call 46; refine (HRT.out w4 B4.out A4 c4 (R4.out w4 (Below.refl _ _))).mono ?_; rintro r5 w5 ⟨rfl, hb5⟩; have X5 := hid (X4.out.new_ hb5); have P5 := hid (P4.out.new_ hb5); have B5 := hid (B4.out.trans (hb5.mono B4.out.size)); have R5 := hid (R4.out w5 hb5); clear hb5)
    | (refine Great.wpList_allocTo rfl _ rfl _ _ (HAH.out _ _ _ rfl) ?_)
    | (refine wpList_store_row rfl _ (.tmp 9) (.tmp 47) rfl w5.heap.size (ubs root).toArray rfl rfl 25 (ubs m).toArray (At.new _ _ _) (sizeH_of HRL.out) (by simp [ubs_length, HNL.out, HRL.out]) (ubs_all _) ?_; have hb6 : Below w5.heap.size w5 ((w5.alloc (.cells (ubs m).toArray 25)).setRow w5.heap.size (ubs root).toArray) := below_setRow ((Below.refl _ _).alloc (Nat.le_refl _) _) (Nat.le_refl _) _; have B6 := hid (B5.out.trans (hb6.mono B5.out.size)); have X6 := hid (X5.out.new_ hb6); have P6 := hid (P5.out.new_ hb6); have R6 := hid ((R5.out.below hb6).mono hb6.size); have G6 := hid (show At ((w5.alloc (.cells (ubs m).toArray 25)).setRow w5.heap.size (ubs root).toArray) w5.heap.size (ubs root).toArray 25 from setRow_heap _ _ _ _ _ _ (At.new _ _ _)); clear hb6; generalize ((w5.alloc (.cells (ubs m).toArray 25)).setRow w5.heap.size (ubs root).toArray) = w6 at B6 X6 P6 R6 G6 ⊢; generalize w5.heap.size = G at G6 ⊢; have e60 := (HC.out w6 X6.out).1; have e61 := (HC.out w6 X6.out).2.1; have e62 := (HC.out w6 X6.out).2.2))
  go_upto_region 9 with (first
    | (go_at_call 47; refine (HRR.out w6 B6.out).mono ?_; rintro r7 w7 ⟨rfl, hb7⟩; have X7 := hid (X6.out.new_ hb7); have P7 := hid (P6.out.new_ hb7); have B7 := hid (B6.out.trans (hb7.mono B6.out.size)); have R7 := hid ((R6.out.below hb7).mono hb7.size); have G7 := hid (G6.out.new_ hb7); clear hb7 e60 e61 e62)
    | (refine Great.wpList_allocTo rfl _ rfl _ _ (HAH.out _ _ _ rfl) ?_)
    | (refine wpList_store_row rfl _ (.tmp 11) (.tmp 59) rfl w7.heap.size (ubs root).toArray rfl rfl 25 (ubs m).toArray (At.new _ _ _) (sizeH_of HRL.out) (by simp [ubs_length, HNL.out, HRL.out]) (ubs_all _) ?_; have hb8 : Below w7.heap.size w7 ((w7.alloc (.cells (ubs m).toArray 25)).setRow w7.heap.size (ubs root).toArray) := below_setRow ((Below.refl _ _).alloc (Nat.le_refl _) _) (Nat.le_refl _) _; have Y8 := hid (show SrX11 w three O (.slice A4 n0 c4) P G w7.heap.size n0 b0 root ((w7.alloc (.cells (ubs m).toArray 25)).setRow w7.heap.size (ubs root).toArray) from ⟨X7.out.new_ hb8, P7.out.new_ hb8, (fun A n c e => by cases e; exact ((R7.out.below hb8).mono hb8.size)), G7.out.new_ hb8, setRow_heap _ _ _ _ _ _ (At.new _ _ _), B7.out.trans (hb8.mono B7.out.size)⟩); clear hb8; generalize ((w7.alloc (.cells (ubs m).toArray 25)).setRow w7.heap.size (ubs root).toArray) = w8 at Y8 ⊢; generalize w7.heap.size = J at Y8 ⊢; have e80 := (HC.out w8 Y8.out.x).1))
  go_upto_region 12 with (first
    | (go_at_call 48; refine (HNUM.out kx _).mono ?_; rintro r9 w9 ⟨rfl, hw9⟩; rw [← hw9]; clear hw9)
    | (refine wpList_valW (by rfl) (run_loadH (.tmp 9) rfl G 0 rfl root (range_whole Y8.out.g) HRL.out) ?_)
    | (refine wpList_valW (by rfl) (run_loadH (.tmp 11) rfl J 0 rfl root (range_whole Y8.out.j) HRL.out) ?_)
    | (refine wpList_valW (by rfl) (run_neqH _ (.tmp 66) (.tmp 67) rfl root root HRL.out HRL.out rfl rfl false (by simp) w8) ?_)
    | (go_at_call 19; refine (HHA.out w8 Y8.out.below A4 c4 (Y8.out.own _ _ _ rfl)).mono ?_; rintro r9 w9 ⟨rfl, hb9⟩; have Y9 := hid (Y8.out.new hb9); clear hb9 e80))
  clear HAL HRT HRR HHA X0 B0 X1 B1 X2 P2 B2 B3 HO3 D3 B4 X4 P4 R4 X5 P5 B5 R5 X6 P6 B6 R6 G6 X7 P7 B7 R7 G7 Y8 HA0 HL0 HN0 d0 d0n d1 d1n d2 d2n
  obtain ⟨own, hown⟩ : ∃ v : Value, v = .slice A4 n0 c4 := ⟨_, rfl⟩
  rw [← hown] at Y9 ⊢
  have HOWN := hid hown
  clear hown
  rcases (by have := HKY.out; by_cases a : kx = 0 <;> by_cases b : root = q <;> simp [a, b] at this ⊢ <;> omega : (kx = 0 ∧ root = q ∧ ky = 0) ∨ (kx = 0 ∧ ¬ root = q ∧ ky = 5) ∨ (¬ kx = 0 ∧ ky = kx)) with ⟨ha, hbq, hc⟩ | ⟨ha, hbq, hc⟩ | ⟨ha, hc⟩
  · have HE := hid (show (root == q) = !false by simpa using hbq)
    have HKK : ky = 0 := by omega
    rw [HKK] at HCQ
    clear hbq hc HKY HKK
    subst ha
    go_upto_region 14 with (first
      | (refine wpList_valW (by rfl) (run_loadH (.tmp 11) rfl J 0 rfl root (range_whole Y9.out.j) HRL.out) ?_)
      | (refine wpList_valW (by rfl) (HBQ.out _ _ _ rfl) ?_)
      | (refine wpList_valW (by rfl) (run_neqH _ (.tmp 81) (.tmp 82) rfl root q HRL.out HQL.out rfl rfl _ HE.out w9) ?_))
    go_wp2_with (first
      | (refine wpList_valW (by rfl) (run_loadH (.tmp 11) rfl J 0 rfl root (range_whole Y9.out.j) HRL.out) ?_)
      | (refine wpList_valW (by rfl) (run_load_row 74 (.tmp 7) rfl P rfl 74 O _ Y9.out.p Tryd.underlying74 rfl HSO.out) ?_)
      | (refine wpList_valW (by rfl) (HBQ.out _ _ _ rfl) ?_)
      | (rw [HOWN.out]; go_at_call 49; refine (HCO.out w9 Y9.out.below A4 c4 (Y9.out.own _ _ _ HOWN.out)).mono ?_; rintro r10 w10 ⟨rfl, hb10⟩; have Y10 := hid (Y9.out.new hb10); clear hb10 Y9)
      | (refine wpList_valW (by rfl) (run_load_row 74 (.tmp 7) rfl P rfl 74 O _ Y10.out.p Tryd.underlying74 rfl HSO.out) ?_)
      | (go_at_call 49; refine (HCQ.out w10 Y10.out.below A4 c4 (Y10.out.own _ _ _ HOWN.out)).mono ?_; rintro r11 w11 ⟨rfl, hb11⟩; have Y11 := hid (Y10.out.new hb11); clear hb11)
      | (go_at_call 48; refine (HNUM.out _ _).mono ?_; rintro r12 w12 ⟨rfl, hw12⟩; rw [← hw12]; clear hw12))
    go_ret
    exact ⟨rfl, Y11.out.below⟩
  · have HE := hid (show (root == q) = !true by simpa using hbq)
    have HKK : ky = 5 := by omega
    rw [HKK] at HCQ
    clear hbq hc HKY HKK
    subst ha
    go_upto_region 14 with (first
      | (refine wpList_valW (by rfl) (run_loadH (.tmp 11) rfl J 0 rfl root (range_whole Y9.out.j) HRL.out) ?_)
      | (refine wpList_valW (by rfl) (HBQ.out _ _ _ rfl) ?_)
      | (refine wpList_valW (by rfl) (run_neqH _ (.tmp 81) (.tmp 82) rfl root q HRL.out HQL.out rfl rfl _ HE.out w9) ?_))
    go_wp2_with (first
      | (refine wpList_valW (by rfl) (run_loadH (.tmp 11) rfl J 0 rfl root (range_whole Y9.out.j) HRL.out) ?_)
      | (refine wpList_valW (by rfl) (run_load_row 74 (.tmp 7) rfl P rfl 74 O _ Y9.out.p Tryd.underlying74 rfl HSO.out) ?_)
      | (refine wpList_valW (by rfl) (HBQ.out _ _ _ rfl) ?_)
      | (rw [HOWN.out]; go_at_call 49; refine (HCO.out w9 Y9.out.below A4 c4 (Y9.out.own _ _ _ HOWN.out)).mono ?_; rintro r10 w10 ⟨rfl, hb10⟩; have Y10 := hid (Y9.out.new hb10); clear hb10 Y9)
      | (refine wpList_valW (by rfl) (run_load_row 74 (.tmp 7) rfl P rfl 74 O _ Y10.out.p Tryd.underlying74 rfl HSO.out) ?_)
      | (go_at_call 49; refine (HCQ.out w10 Y10.out.below A4 c4 (Y10.out.own _ _ _ HOWN.out)).mono ?_; rintro r11 w11 ⟨rfl, hb11⟩; have Y11 := hid (Y10.out.new hb11); clear hb11)
      | (go_at_call 48; refine (HNUM.out _ _).mono ?_; rintro r12 w12 ⟨rfl, hw12⟩; rw [← hw12]; clear hw12))
    go_ret
    exact ⟨rfl, Y11.out.below⟩
  · have z1 : decide ((kx : Int) = 0) = false := by simp [ha]
    have z2 : decide (kx = 0) = false := by simp [ha]
    have z3 : ((kx : Int) == 0) = false := by simp [ha]
    have z4 : (kx == 0) = false := by simp [ha]
    have HKK : ky = kx := by omega
    rw [HKK] at HCQ
    clear hc HKY HKK
    go_upto_region 14 with (first
      | (refine wpList_valW (by rfl) (run_loadH (.tmp 11) rfl J 0 rfl root (range_whole Y9.out.j) HRL.out) ?_)
      | (refine wpList_valW (by rfl) (HBQ.out _ _ _ rfl) ?_)
      | (refine wpList_valW (by rfl) (run_neqH _ (.tmp 81) (.tmp 82) rfl root q HRL.out HQL.out rfl rfl _ HE.out w9) ?_))
    go_wp2_with (first
      | (refine wpList_valW (by rfl) (run_loadH (.tmp 11) rfl J 0 rfl root (range_whole Y9.out.j) HRL.out) ?_)
      | (refine wpList_valW (by rfl) (run_load_row 74 (.tmp 7) rfl P rfl 74 O _ Y9.out.p Tryd.underlying74 rfl HSO.out) ?_)
      | (refine wpList_valW (by rfl) (HBQ.out _ _ _ rfl) ?_)
      | (rw [HOWN.out]; go_at_call 49; refine (HCO.out w9 Y9.out.below A4 c4 (Y9.out.own _ _ _ HOWN.out)).mono ?_; rintro r10 w10 ⟨rfl, hb10⟩; have Y10 := hid (Y9.out.new hb10); clear hb10 Y9)
      | (refine wpList_valW (by rfl) (run_load_row 74 (.tmp 7) rfl P rfl 74 O _ Y10.out.p Tryd.underlying74 rfl HSO.out) ?_)
      | (go_at_call 49; refine (HCQ.out w10 Y10.out.below A4 c4 (Y10.out.own _ _ _ HOWN.out)).mono ?_; rintro r11 w11 ⟨rfl, hb11⟩; have Y11 := hid (Y10.out.new hb11); clear hb11)
      | (go_at_call 48; refine (HNUM.out _ _).mono ?_; rintro r12 w12 ⟨rfl, hw12⟩; rw [← hw12]; clear hw12))
    go_ret
    exact ⟨rfl, Y11.out.below⟩
end Go.Proofs.YtlmecjnlinalkaaDoor
