/-
  ProofBinds of layer 10.
-/
import Derived.Test.YthkbmpocfpbkoaaDoorBc
import Derived.Test.YthkbmpocfpbkoaaDoorRn
import Derived.Test.YthkbmpocfpbkoaaDoorJ5
namespace Go.Proofs.YthkbmpocfpbkoaaDoor
open Go.RowKit

/-- What holds between the calls. -/
structure PbW (w : World) (four : Array Value) (G H : Nat) (r1 r2 : List UInt8) (V : World) : Prop where
  x : At V w.heap.size four 96
  g : At V G (ubs r1).toArray 35
  h : At V H (ubs r2).toArray 35
  below : Below w.heap.size w V
theorem PbW.new {w V V' : World} {four : Array Value} {G H : Nat} {r1 r2 : List UInt8} (x : PbW w four G H r1 r2 V) (hb : Below V.heap.size V V') : PbW w four G H r1 r2 V' :=
  ⟨x.x.new_ hb, x.g.new_ hb, x.h.new_ hb, x.below.trans (hb.mono x.below.size)⟩
set_option maxRecDepth 100000 in
set_option maxHeartbeats 16000000 in
theorem proofBinds_law {w : World} (HALV : Alive10C w) (h : Int) (l : List Nat) (A : Option Addr) (c : Nat) (hr : Nu w w.heap.size A l) (hc : l.length ≤ c)
    (b0 b1 b2 b3 : List UInt8) (A0 A1 A2 A3 : Option Addr) (n0 c0 n1 c1 n2 c2 n3 c3 : Nat) (h0 : Rd w w.heap.size A0 (ubs b0)) (h1 : Rd w w.heap.size A1 (ubs b1)) (h2 : Rd w w.heap.size A2 (ubs b2)) (h3 : Rd w w.heap.size A3 (ubs b3)) (k0 : n0 ≤ c0) (k1 : n1 ≤ c1) (k2 : n2 ≤ c2) (k3 : n3 ≤ c3)
    (l0 : b0.length = 32 * n0) (l1 : b1.length = 32 * n1) (l2 : b2.length = 32 * n2) (l3 : b3.length = 32 * n3) (hT : Tabs w) :
    Calls Tryd.prog 11 #[.int .i64 h, .slice A l.length c, .agg #[.slice A0 n0 c0, .slice A1 n1 c1, .slice A2 n2 c2, .slice A3 n3 c3]] w fun r w' => r = .returned (.bool true) ∧ Below w.heap.size w w' := by
  obtain ⟨four, hfour⟩ : ∃ t : Array Value, t = #[.slice A0 n0 c0, .slice A1 n1 c1, .slice A2 n2 c2, .slice A3 n3 c3] := ⟨_, rfl⟩
  obtain ⟨w0, hw0⟩ : ∃ W, W = w.alloc (.cells four 96) := ⟨_, rfl⟩
  have hb0 : Below w.heap.size w w0 := by rw [hw0]; exact (Below.refl _ _).alloc (Nat.le_refl _) _
  have X0 := hid (show At w0 w.heap.size four 96 by rw [hw0]; exact At.new _ _ _)
  have B0 := hid hb0
  obtain ⟨n, hn⟩ : ∃ n, n = l.length := ⟨_, rfl⟩
  obtain ⟨m, hm⟩ : ∃ m, m = n32 := ⟨_, rfl⟩
  have HAH := hid (fun (o : Oper) (a : Go.Act) (W : World) (h : o.op = .alloc 35) => run_alloc_of (o := o) (a := a) (W := W) _ h _ zeroH8)
  have HNL := hid (show m.length = 32 by rw [hm]; exact n32_length)
  rw [← hm] at HAH
  have HAL := hid (HALV w0 hb0)
  have HLG := hid (fun nl nb A1 A2 c1 c2 V => large_any n nl nb A A1 A2 c c1 c2 V)
  have HC := hid (fun (V : World) (hx : At V w.heap.size four 96) => show V.cell? ⟨w.heap.size, 0, none⟩ = some (.slice A0 n0 c0) ∧ V.cell? ⟨w.heap.size, 1, none⟩ = some (.slice A1 n1 c1) ∧ V.cell? ⟨w.heap.size, 2, none⟩ = some (.slice A2 n2 c2) ∧ V.cell? ⟨w.heap.size, 3, none⟩ = some (.slice A3 n3 c3) from by
    have h0 := hx.cell 0
    have h1 := hx.cell 1
    have h2 := hx.cell 2
    have h3 := hx.cell 3
    rw [hfour] at h0 h1 h2 h3
    exact ⟨by simpa using h0, by simpa using h1, by simpa using h2, by simpa using h3⟩)
  obtain ⟨r1, hr1⟩ : ∃ r, r = rootS h l n0 n1 b0 b1 := ⟨_, rfl⟩
  obtain ⟨r2, hr2⟩ : ∃ r, r = rootS h l n2 n3 b2 b3 := ⟨_, rfl⟩
  obtain ⟨x1, hx1⟩ : ∃ k, k = ccB h l n0 n1 := ⟨_, rfl⟩
  obtain ⟨x2, hx2⟩ : ∃ k, k = ccB h l n2 n3 := ⟨_, rfl⟩
  obtain ⟨t1, ht1⟩ : ∃ k, k = textsS h l n0 n1 b0 b1 := ⟨_, rfl⟩
  obtain ⟨t2, ht2⟩ : ∃ k, k = textsS h l n2 n3 b2 b3 := ⟨_, rfl⟩
  have HR1 := hid (show r1.length = 32 by rw [hr1]; exact rootS_length l0 l1)
  have HR2 := hid (show r2.length = 32 by rw [hr2]; exact rootS_length l2 l3)
  have HRT1 := hid (fun (V : World) (b : Below w.heap.size w V) => show Calls Tryd.prog 45 #[.int .i64 h, .slice A n c, .slice A0 n0 c0, .slice A1 n1 c1] V (fun r W' => r = .returned (.tuple #[.agg (ubs r1).toArray, errV x1]) ∧ Below V.heap.size V W') from by
    rw [hn, hr1, hx1]
    exact proot_any h l b0 b1 A A0 A1 c n0 c0 n1 c1 V (hr.new b) hc ((h0.below b).mono b.size) ((h1.below b).mono b.size) k0 k1 l0 l1 (hT.below b))
  have HRT2 := hid (fun (V : World) (b : Below w.heap.size w V) => show Calls Tryd.prog 45 #[.int .i64 h, .slice A n c, .slice A2 n2 c2, .slice A3 n3 c3] V (fun r W' => r = .returned (.tuple #[.agg (ubs r2).toArray, errV x2]) ∧ Below V.heap.size V W') from by
    rw [hn, hr2, hx2]
    exact proot_any h l b2 b3 A A2 A3 c n2 c2 n3 c3 V (hr.new b) hc ((h2.below b).mono b.size) ((h3.below b).mono b.size) k2 k3 l2 l3 (hT.below b))
  have HTX1 := hid (fun (V : World) (b : Below w.heap.size w V) => show Calls Tryd.prog 46 #[.int .i64 h, .slice A n c, .slice A0 n0 c0, .slice A1 n1 c1] V (fun r W' => ∃ Ax cx ps, r = .returned (.tuple #[.slice Ax (List.length ps) cx, errV x1]) ∧ ps.map (·.bs) = t1 ∧ Apt W' V.heap.size (.slice Ax ps.length cx) ps ∧ Below V.heap.size V W') from by
    rw [hn, hx1, ht1]
    exact ptexts10_any h l b0 b1 A A0 A1 c n0 c0 n1 c1 V (hr.new b) hc ((h0.below b).mono b.size) ((h1.below b).mono b.size) k0 k1 l0 l1 (hT.below b))
  have HTX2 := hid (fun (V : World) (b : Below w.heap.size w V) => show Calls Tryd.prog 46 #[.int .i64 h, .slice A n c, .slice A2 n2 c2, .slice A3 n3 c3] V (fun r W' => ∃ Ax cx ps, r = .returned (.tuple #[.slice Ax (List.length ps) cx, errV x2]) ∧ ps.map (·.bs) = t2 ∧ Apt W' V.heap.size (.slice Ax ps.length cx) ps ∧ Below V.heap.size V W') from by
    rw [hn, hx2, ht2]
    exact ptexts10_any h l b2 b3 A A2 A3 c n2 c2 n3 c3 V (hr.new b) hc ((h2.below b).mono b.size) ((h3.below b).mono b.size) k2 k3 l2 l3 (hT.below b))
  rw [← hn]
  rw [hfour] at hw0
  have q00 := (HC.out w0 X0.out).1
  clear q00 hb0
  cases hL1 : largeB n n0 n1 with
  | true =>
    have HL1 := hid hL1
    clear HALV hr hc h0 h1 h2 h3 k0 k1 k2 k3 l0 l1 l2 l3 hT hfour hn hm hr1 hr2 hx1 hx2 ht1 ht2
    go_enter Tryd.func11, Tryd.ntmps11
    go_wp2_with (first
      | (rw [← hw0]; clear hw0; go_at_call 36; refine HAL.out.mono ?_; rintro ra w1 ⟨rfl, hb1⟩; have X1 := hid (X0.out.new_ hb1); have B1 := hid (B0.out.trans (hb1.mono B0.out.size)); have e10 := (HC.out w1 X1.out).1; have e11 := (HC.out w1 X1.out).2.1; have e12 := (HC.out w1 X1.out).2.2.1; have e13 := (HC.out w1 X1.out).2.2.2; clear hb1)
      | (go_at_call 37; refine (HLG.out _ _ _ _ _ _ _).mono ?_; rintro rl wl ⟨rfl, hwl⟩; rw [hwl]; clear hwl; first | rw [HL1.out] | rw [HL2.out]))
    go_ret
    exact ⟨rfl, B1.out⟩
  | false =>
    cases hL2 : largeB n n2 n3 with
    | true =>
      have HL1 := hid hL1
      have HL2 := hid hL2
      clear HALV hr hc h0 h1 h2 h3 k0 k1 k2 k3 l0 l1 l2 l3 hT hfour hn hm hr1 hr2 hx1 hx2 ht1 ht2
      go_enter Tryd.func11, Tryd.ntmps11
      go_wp2_with (first
        | (rw [← hw0]; clear hw0; go_at_call 36; refine HAL.out.mono ?_; rintro ra w1 ⟨rfl, hb1⟩; have X1 := hid (X0.out.new_ hb1); have B1 := hid (B0.out.trans (hb1.mono B0.out.size)); have e10 := (HC.out w1 X1.out).1; have e11 := (HC.out w1 X1.out).2.1; have e12 := (HC.out w1 X1.out).2.2.1; have e13 := (HC.out w1 X1.out).2.2.2; clear hb1)
        | (go_at_call 37; refine (HLG.out _ _ _ _ _ _ _).mono ?_; rintro rl wl ⟨rfl, hwl⟩; rw [hwl]; clear hwl; first | rw [HL1.out] | rw [HL2.out]))
      go_ret
      exact ⟨rfl, B1.out⟩
    | false =>
      have HL1 := hid hL1
      have HL2 := hid hL2
      by_cases h40 : 40 < n
      · have d40 : decide ((40 : Int) < (n : Int)) = true := by simp; omega
        have d40n : decide (40 < n) = true := by simpa using h40
        clear HALV hr hc h0 h1 h2 h3 k0 k1 k2 k3 l0 l1 l2 l3 hT hfour hn hm hr1 hr2 hx1 hx2 ht1 ht2
        go_enter Tryd.func11, Tryd.ntmps11
        go_wp2_with (first
          | (rw [← hw0]; clear hw0; go_at_call 36; refine HAL.out.mono ?_; rintro ra w1 ⟨rfl, hb1⟩; have X1 := hid (X0.out.new_ hb1); have B1 := hid (B0.out.trans (hb1.mono B0.out.size)); have e10 := (HC.out w1 X1.out).1; have e11 := (HC.out w1 X1.out).2.1; have e12 := (HC.out w1 X1.out).2.2.1; have e13 := (HC.out w1 X1.out).2.2.2; clear hb1)
          | (go_at_call 37; refine (HLG.out _ _ _ _ _ _ _).mono ?_; rintro rl wl ⟨rfl, hwl⟩; rw [hwl]; clear hwl; first | rw [HL1.out] | rw [HL2.out]))
        go_ret
        exact ⟨rfl, B1.out⟩
      · have d40 : decide ((40 : Int) < (n : Int)) = false := by simp; omega
        have d40n : decide (40 < n) = false := by simpa using h40
        have HTW := hid (fun (z1 : x1 = 0) (z2 : x2 = 0) (er : r1 = r2) (hne : b0 ≠ b2 ∨ b1 ≠ b3) => show Twin (t1 ++ t2) from by
          rw [ht1, ht2]
          exact roots_bind (hx1.symm.trans z1) (hx2.symm.trans z2) l0 l1 l2 l3 (by rw [← hr1, ← hr2]; exact er) hne)
        have HLN := hid (show t1.length ≤ 4294967296 ∧ t2.length ≤ 4294967296 from ⟨by rw [ht1]; exact textsS_length, by rw [ht2]; exact textsS_length⟩)
        have HTL := hid (show ∀ t ∈ t1 ++ t2, t.length ≤ 1000 from fun t ht => by
          rcases List.mem_append.1 ht with ht | ht
          · have := texts_len l0 l1 t (by rw [← ht1]; exact ht)
            omega
          · have := texts_len l2 l3 t (by rw [← ht2]; exact ht)
            omega)
        have HTB := hid (fun (V : World) (b : Below w.heap.size w V) => hT.below b)
        have HZZ := hid (fun (z1 : x1 = 0) (z2 : x2 = 0) => show n2 = n0 ∧ n3 = n1 ∧ n1 ≤ 100000 ∧ n0 ≤ 100000 by
          obtain ⟨hg, f0, f1⟩ := ccB_zero (hx1.symm.trans z1)
          obtain ⟨-, f2, f3⟩ := ccB_zero (hx2.symm.trans z2)
          obtain ⟨k, rfl⟩ := rgtB_nat hg
          have := spots_thousand hg
          rw [Int.toNat_natCast] at f1 f3
          omega)
        have HH02 := hid (fun (z : n0 ≤ 100000) (l2' : b2.length = 32 * n0) (V : World) (b : Below w.heap.size w V) => show Calls Tryd.prog 24 #[.slice A0 n0 c0, .slice A2 n0 c2] V (fun r w' => r = .returned (.bool (decide (b0 = b2))) ∧ Below V.heap.size V w') from hashes_any n0 b0 b2 A0 A2 c0 c2 V l0 l2' ((h0.below b).mono b.size) ((h2.below b).mono b.size) z)
        have HH13 := hid (fun (z : n1 ≤ 100000) (l3' : b3.length = 32 * n1) (V : World) (b : Below w.heap.size w V) => show Calls Tryd.prog 24 #[.slice A1 n1 c1, .slice A3 n1 c3] V (fun r w' => r = .returned (.bool (decide (b1 = b3))) ∧ Below V.heap.size V w') from hashes_any n1 b1 b3 A1 A3 c1 c3 V l1 l3' ((h1.below b).mono b.size) ((h3.below b).mono b.size) z)
        have HL2' := hid l2
        have HL3' := hid l3
        clear HALV hr hc h0 h1 h2 h3 k0 k1 k2 k3 l0 l1 l2 l3 hT hfour hn hm hr1 hr2 hx1 hx2 ht1 ht2
        go_enter Tryd.func11, Tryd.ntmps11
        go_upto_region 7 with (first
          | (rw [← hw0]; clear hw0; go_at_call 36; refine HAL.out.mono ?_; rintro ra w1 ⟨rfl, hb1⟩; have X1 := hid (X0.out.new_ hb1); have B1 := hid (B0.out.trans (hb1.mono B0.out.size)); have e10 := (HC.out w1 X1.out).1; have e11 := (HC.out w1 X1.out).2.1; have e12 := (HC.out w1 X1.out).2.2.1; have e13 := (HC.out w1 X1.out).2.2.2; clear hb1)
          | (go_at_call 37; refine (HLG.out _ _ _ _ _ _ _).mono ?_; rintro rl wl ⟨rfl, hwl⟩; rw [hwl]; clear hwl; first | rw [HL1.out] | rw [HL2.out])
          | (refine wpList_store_row rfl _ (.tmp 9) (.tmp 52) rfl w4.heap.size (ubs r2).toArray rfl rfl 35 (ubs m).toArray (At.new _ _ _) (sizeH_of HR2.out) (by simp [ubs_length, HNL.out, HR2.out]) (ubs_all _) ?_; have hb5 : Below w4.heap.size w4 ((w4.alloc (.cells (ubs m).toArray 35)).setRow w4.heap.size (ubs r2).toArray) := below_setRow ((Below.refl _ _).alloc (Nat.le_refl _) _) (Nat.le_refl _) _; have Y5 := hid (show PbW w four G w4.heap.size r1 r2 ((w4.alloc (.cells (ubs m).toArray 35)).setRow w4.heap.size (ubs r2).toArray) from ⟨X4.out.new_ hb5, G4.out.new_ hb5, setRow_heap _ _ _ _ _ _ (At.new _ _ _), B4.out.trans (hb5.mono B4.out.size)⟩); clear hb5; generalize ((w4.alloc (.cells (ubs m).toArray 35)).setRow w4.heap.size (ubs r2).toArray) = w5 at Y5 ⊢; generalize w4.heap.size = H at Y5 ⊢; have X5 := hid Y5.out.x; have e50 := (HC.out w5 X5.out).1; have e51 := (HC.out w5 X5.out).2.1; have e52 := (HC.out w5 X5.out).2.2.1; have e53 := (HC.out w5 X5.out).2.2.2)
          | (go_at_call 45; refine (HRT2.out w3 B3.out).mono ?_; rintro r4x w4 ⟨rfl, hb4⟩; have X4 := hid (X3.out.new_ hb4); have B4 := hid (B3.out.trans (hb4.mono B3.out.size)); have G4 := hid (G3.out.new_ hb4); clear hb4; clear e30 e31 e32 e33)
          | (refine wpList_store_row rfl _ (.tmp 7) (.tmp 42) rfl w2.heap.size (ubs r1).toArray rfl rfl 35 (ubs m).toArray (At.new _ _ _) (sizeH_of HR1.out) (by simp [ubs_length, HNL.out, HR1.out]) (ubs_all _) ?_; have hb3 : Below w2.heap.size w2 ((w2.alloc (.cells (ubs m).toArray 35)).setRow w2.heap.size (ubs r1).toArray) := below_setRow ((Below.refl _ _).alloc (Nat.le_refl _) _) (Nat.le_refl _) _; have B3 := hid (B2.out.trans (hb3.mono B2.out.size)); have X3 := hid (X2.out.new_ hb3); have G3 := hid (show At ((w2.alloc (.cells (ubs m).toArray 35)).setRow w2.heap.size (ubs r1).toArray) w2.heap.size (ubs r1).toArray 35 from setRow_heap _ _ _ _ _ _ (At.new _ _ _)); clear hb3; generalize ((w2.alloc (.cells (ubs m).toArray 35)).setRow w2.heap.size (ubs r1).toArray) = w3 at B3 X3 G3 ⊢; generalize w2.heap.size = G at G3 ⊢; have e30 := (HC.out w3 X3.out).1; have e31 := (HC.out w3 X3.out).2.1; have e32 := (HC.out w3 X3.out).2.2.1; have e33 := (HC.out w3 X3.out).2.2.2)
          | (go_at_call 45; refine (HRT1.out w1 B1.out).mono ?_; rintro r2x w2 ⟨rfl, hb2⟩; have X2 := hid (X1.out.new_ hb2); have B2 := hid (B1.out.trans (hb2.mono B1.out.size)); clear hb2; clear e10 e11 e12 e13)
          | (refine Great.wpList_allocTo rfl _ rfl _ _ (HAH.out _ _ _ rfl) ?_))
        clear HRT1 HRT2 HAH HLG HAL
        by_cases e1 : x1 = 0
        · subst e1
          simp only [errV_zero]
          by_cases e2 : x2 = 0
          · subst e2
            simp only [errV_zero]
            rw [errV_zero] at HTX1 HTX2
            obtain ⟨g02, g13, z1, z0⟩ := HZZ.out rfl rfl
            subst g02 g13
            have HA02 := hid (HH02.out z0 HL2'.out)
            have HA13 := hid (HH13.out z1 HL3'.out)
            by_cases er : r1 = r2
            · have HE := hid (show (r1 == r2) = !false by simpa using er)
              have HTV := hid (HTW.out rfl rfl er)
              clear er HTW HZZ HH02 HH13 z0 z1
              by_cases u0 : b0 = b2
              · rw [decide_eq_true u0] at HA02
                by_cases u1 : b1 = b3
                · rw [decide_eq_true u1] at HA13
                  clear u0 u1
                  go_wp2_with (first
                    | (refine wpList_valW (by rfl) (run_loadH (.tmp 7) rfl G 0 rfl r1 (range_whole Y5.out.g) HR1.out) ?_)
                    | (refine wpList_valW (by rfl) (run_loadH (.tmp 9) rfl H 0 rfl r2 (range_whole Y5.out.h) HR2.out) ?_)
                    | (refine wpList_valW (by rfl) (run_neqH _ (.tmp 61) (.tmp 62) rfl r1 r2 HR1.out HR2.out rfl rfl false HE.out w5) ?_; go_wp2_with (first | (go_at_call 24; refine (HA13.out w6 Y6.out.below).mono ?_; rintro r7x w7 ⟨rfl, hb7⟩; have Y7 := hid (Y6.out.new hb7); have X7 := hid Y7.out.x; clear hb7; clear e60 e61 e62 e63; have e70 := (HC.out w7 X7.out).1; have e71 := (HC.out w7 X7.out).2.1; have e72 := (HC.out w7 X7.out).2.2.1; have e73 := (HC.out w7 X7.out).2.2.2) | (go_at_call 24; refine (HA02.out w5 Y5.out.below).mono ?_; rintro r6x w6 ⟨rfl, hb6⟩; have Y6 := hid (Y5.out.new hb6); have X6 := hid Y6.out.x; clear hb6; clear e50 e51 e52 e53; have e60 := (HC.out w6 X6.out).1; have e61 := (HC.out w6 X6.out).2.1; have e62 := (HC.out w6 X6.out).2.2.1; have e63 := (HC.out w6 X6.out).2.2.2))))
                  go_ret
                  exact ⟨rfl, Y7.out.below⟩
                · rw [decide_eq_false u1] at HA13
                  have HTWN := hid (HTV.out (.inr u1))
                  clear u0 u1
                  go_wp2_with (first
                    | (refine wpList_valW (by rfl) (run_loadH (.tmp 7) rfl G 0 rfl r1 (range_whole Y5.out.g) HR1.out) ?_)
                    | (refine wpList_valW (by rfl) (run_loadH (.tmp 9) rfl H 0 rfl r2 (range_whole Y5.out.h) HR2.out) ?_)
                    | (refine wpList_valW (by rfl) (run_neqH _ (.tmp 61) (.tmp 62) rfl r1 r2 HR1.out HR2.out rfl rfl false HE.out w5) ?_; go_wp2_with (first | (go_at_call 24; refine (HA13.out w6 Y6.out.below).mono ?_; rintro r7x w7 ⟨rfl, hb7⟩; have Y7 := hid (Y6.out.new hb7); have X7 := hid Y7.out.x; clear hb7; clear e60 e61 e62 e63; have e70 := (HC.out w7 X7.out).1; have e71 := (HC.out w7 X7.out).2.1; have e72 := (HC.out w7 X7.out).2.2.1; have e73 := (HC.out w7 X7.out).2.2.2) | (go_at_call 24; refine (HA02.out w5 Y5.out.below).mono ?_; rintro r6x w6 ⟨rfl, hb6⟩; have Y6 := hid (Y5.out.new hb6); have X6 := hid Y6.out.x; clear hb6; clear e50 e51 e52 e53; have e60 := (HC.out w6 X6.out).1; have e61 := (HC.out w6 X6.out).2.1; have e62 := (HC.out w6 X6.out).2.2.1; have e63 := (HC.out w6 X6.out).2.2.2) | (go_at_call 46; refine (HTX2.out w8 Y8.out.below).mono ?_; rintro r9x w9 ⟨Ay, cy, qs, rfl, hp9, ha9, hb9⟩; have Y9 := hid (Y8.out.new hb9); have P9 := hid (P8.out.kept hb9); have Q9 := hid ha9; have M9 := hid hp9; have S9 := hid hb9.size; clear hb9 hp9 ha9; clear e80 e81 e82 e83) | (go_at_call 46; refine (HTX1.out w7 Y7.out.below).mono ?_; rintro r8x w8 ⟨Ax, cx, ps, rfl, hp8, ha8, hb8⟩; have Y8 := hid (Y7.out.new hb8); have X8 := hid Y8.out.x; have P8 := hid ha8; have M8 := hid hp8; have S8 := hid hb8.size; clear hb8 hp8 ha8; clear e70 e71 e72 e73; have e80 := (HC.out w8 X8.out).1; have e81 := (HC.out w8 X8.out).2.1; have e82 := (HC.out w8 X8.out).2.2.1; have e83 := (HC.out w8 X8.out).2.2.2) | (refine wpList_append_pt (by rfl) (.tmp 106) (.tmp 107) rfl (.slice Ax ps.length cx) (.slice Ay qs.length cy) rfl rfl P9.out Q9.out S8.out (fun q hq k hk e => by have a1 := (Q9.out.2 q hq).2 k hk; have a2 := (P8.out.lt k e).2; omega) (by have a1 := congrArg List.length M8.out; have a2 := congrArg List.length M9.out; rw [List.length_map] at a1 a2; have := HLN.out; omega) (by have a1 := S8.out; have a2 := S9.out; omega) ?_; intro A10 c10 w10 j1 j2 j3; have B10 := hid (show Below w.heap.size w w10 from Y9.out.below.grown j2 Y9.out.below.size (fun k hk => by have a1 := (P9.out.lt k hk).1; have a2 := Y7.out.below.size; omega)); have T10 := hid (show Trd w10 A10 (t1 ++ t2) from Trd.of j1 (by rw [List.map_append, M8.out, M9.out])); have N10 := hid (show ps.length + qs.length = (t1 ++ t2).length by rw [← M8.out, ← M9.out, ← List.map_append, List.length_map, List.length_append]); clear j1 j2 j3) | (go_at_call 55; rw [N10.out]; refine (collide_yes (t1 ++ t2) A10 c10 w10 T10.out HTL.out (by rw [List.length_append]; have := HLN.out; omega) (HTB.out w10 B10.out) HTWN.out).mono ?_; rintro r11x w11 ⟨rfl, hb11⟩; have B11 := hid (B10.out.trans (hb11.mono B10.out.size)); clear hb11))))
                  go_ret
                  exact ⟨rfl, B11.out⟩
              · rw [decide_eq_false u0] at HA02
                have HTWN := hid (HTV.out (.inl u0))
                clear u0
                go_wp2_with (first
                  | (refine wpList_valW (by rfl) (run_loadH (.tmp 7) rfl G 0 rfl r1 (range_whole Y5.out.g) HR1.out) ?_)
                  | (refine wpList_valW (by rfl) (run_loadH (.tmp 9) rfl H 0 rfl r2 (range_whole Y5.out.h) HR2.out) ?_)
                  | (refine wpList_valW (by rfl) (run_neqH _ (.tmp 61) (.tmp 62) rfl r1 r2 HR1.out HR2.out rfl rfl false HE.out w5) ?_; go_wp2_with (first | (go_at_call 24; refine (HA02.out w5 Y5.out.below).mono ?_; rintro r6x w6 ⟨rfl, hb6⟩; have Y6 := hid (Y5.out.new hb6); have X6 := hid Y6.out.x; clear hb6; clear e50 e51 e52 e53; have e60 := (HC.out w6 X6.out).1; have e61 := (HC.out w6 X6.out).2.1; have e62 := (HC.out w6 X6.out).2.2.1; have e63 := (HC.out w6 X6.out).2.2.2) | (go_at_call 46; refine (HTX2.out w8 Y8.out.below).mono ?_; rintro r9x w9 ⟨Ay, cy, qs, rfl, hp9, ha9, hb9⟩; have Y9 := hid (Y8.out.new hb9); have P9 := hid (P8.out.kept hb9); have Q9 := hid ha9; have M9 := hid hp9; have S9 := hid hb9.size; clear hb9 hp9 ha9; clear e80 e81 e82 e83) | (go_at_call 46; refine (HTX1.out w6 Y6.out.below).mono ?_; rintro r8x w8 ⟨Ax, cx, ps, rfl, hp8, ha8, hb8⟩; have Y8 := hid (Y6.out.new hb8); have X8 := hid Y8.out.x; have P8 := hid ha8; have M8 := hid hp8; have S8 := hid hb8.size; clear hb8 hp8 ha8; clear e60 e61 e62 e63; have e80 := (HC.out w8 X8.out).1; have e81 := (HC.out w8 X8.out).2.1; have e82 := (HC.out w8 X8.out).2.2.1; have e83 := (HC.out w8 X8.out).2.2.2) | (refine wpList_append_pt (by rfl) (.tmp 106) (.tmp 107) rfl (.slice Ax ps.length cx) (.slice Ay qs.length cy) rfl rfl P9.out Q9.out S8.out (fun q hq k hk e => by have a1 := (Q9.out.2 q hq).2 k hk; have a2 := (P8.out.lt k e).2; omega) (by have a1 := congrArg List.length M8.out; have a2 := congrArg List.length M9.out; rw [List.length_map] at a1 a2; have := HLN.out; omega) (by have a1 := S8.out; have a2 := S9.out; omega) ?_; intro A10 c10 w10 j1 j2 j3; have B10 := hid (show Below w.heap.size w w10 from Y9.out.below.grown j2 Y9.out.below.size (fun k hk => by have a1 := (P9.out.lt k hk).1; have a2 := Y6.out.below.size; omega)); have T10 := hid (show Trd w10 A10 (t1 ++ t2) from Trd.of j1 (by rw [List.map_append, M8.out, M9.out])); have N10 := hid (show ps.length + qs.length = (t1 ++ t2).length by rw [← M8.out, ← M9.out, ← List.map_append, List.length_map, List.length_append]); clear j1 j2 j3) | (go_at_call 55; rw [N10.out]; refine (collide_yes (t1 ++ t2) A10 c10 w10 T10.out HTL.out (by rw [List.length_append]; have := HLN.out; omega) (HTB.out w10 B10.out) HTWN.out).mono ?_; rintro r11x w11 ⟨rfl, hb11⟩; have B11 := hid (B10.out.trans (hb11.mono B10.out.size)); clear hb11))))
                go_ret
                exact ⟨rfl, B11.out⟩
            · have HE := hid (show (r1 == r2) = !true by simpa using er)
              clear er HTW HZZ HH02 HH13 z0 z1
              go_wp2_with (first
                | (refine wpList_valW (by rfl) (run_loadH (.tmp 7) rfl G 0 rfl r1 (range_whole Y5.out.g) HR1.out) ?_)
                | (refine wpList_valW (by rfl) (run_loadH (.tmp 9) rfl H 0 rfl r2 (range_whole Y5.out.h) HR2.out) ?_)
                | (refine wpList_valW (by rfl) (run_neqH _ (.tmp 61) (.tmp 62) rfl r1 r2 HR1.out HR2.out rfl rfl true HE.out w5) ?_; go_wp2))
              go_ret
              exact ⟨rfl, Y5.out.below⟩
          · have e2' : errV x2 = .iface 47 (.int .i64 (x2 : Int)) := errV_pos e2
            rw [e2']
            clear e2 e2'
            go_wp2
            go_ret
            exact ⟨rfl, Y5.out.below⟩
        · have e1' : errV x1 = .iface 47 (.int .i64 (x1 : Int)) := errV_pos e1
          rw [e1']
          clear e1 e1'
          go_wp2
          go_ret
          exact ⟨rfl, Y5.out.below⟩
end Go.Proofs.YthkbmpocfpbkoaaDoor
