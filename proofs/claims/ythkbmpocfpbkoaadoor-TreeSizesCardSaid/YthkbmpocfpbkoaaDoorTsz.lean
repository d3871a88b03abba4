/-
  TreeSizes of layer 9, over what the program's trees are to answer.
-/
import Derived.Test.YthkbmpocfpbkoaaDoorTn
import Derived.Test.YthkbmpocfpbkoaaDoorTv
namespace Go.Proofs.YthkbmpocfpbkoaaDoor
open Go.RowKit

set_option maxRecDepth 100000 in
set_option maxHeartbeats 4000000 in
theorem treeSizes_law {Pt : PtT} {w : World} (t : T9 Pt w) (h : Int) (sc : List Act9) (A : Option Addr) (c : Nat) (hsc : Av w w.heap.size A sc) (ho : okA sc) (h1 : -9223372036854775808 ≤ h) (h2 : h < 9223372036854775808) (bl : Nat) (hbl : bl < 18446744073709551616) (hT : Tabr w) (hI : Tab w 1 IV.l) :
    Calls Tryd.prog 5 #[.int .i64 h, .slice A sc.length c, .int .u64 (bl : Int)] w fun r w' => r = .returned (.bool true) ∧ Below w.heap.size w w' := by
  have HAL := hid (alive9_any t.toT9c)
  have HBW := hid (Below.refl w.heap.size w)
  have HAT := hid (fun (o : Oper) (a : Go.Act) (W : World) (h : o.op = .alloc 28) => run_alloc_of (o := o) (a := a) (W := W) _ h _ zeroTr)
  obtain ⟨Z, hZ⟩ : ∃ Z : Array Value, Z = #[.int .i64 0, .slice none 0 0, .slice none 0 0] := ⟨_, rfl⟩
  have HZS := hid (sizeTr_of Z (by rw [hZ]; rfl))
  have HZE := hid hZ
  have HZ1 := hid (show Z.all (·.oneCell') = true by rw [hZ]; simp [Value.oneCell'])
  have HSZ := hid (fun (cs : Array Value) (e : cs.size = 3) => sizeTr_of cs e)
  rw [← hZ] at HAT
  obtain ⟨n, hnn⟩ : ∃ n, n = sc.length := ⟨_, rfl⟩
  have HLN := hid hnn
  rw [← hnn]
  clear hnn
  have HTZ := hid t
  obtain ⟨hn, hhn⟩ : ∃ m, m = highN bl := ⟨_, rfl⟩
  by_cases hb : bothB h n
  · rw [HLN.out] at hb
    obtain ⟨k, rfl⟩ : ∃ k : Nat, h = (k : Int) := ⟨h.toNat, by unfold bothB at hb; omega⟩
    have hk : k ≤ 32 := by unfold bothB at hb; omega
    have hl : sc.length ≤ 25 := by unfold bothB at hb; omega
    have HTT := hid t.toT9c
    have HT9 := hid t
    have HIB := hid (fun (V : World) (q : Below w.heap.size w V) => Tab.below (x := IV.a) (xs := [IV.b, IV.c, IV.d, IV.e, IV.f, IV.g, IV.h]) hI q)
    have HTR := hid (fun (V : World) (q : Below w.heap.size w V) => hT.below q)
    have HSC := hid (fun (V : World) (q : Below w.heap.size w V) => (show Av V w.heap.size A sc from hsc.below q))
    have HBO := hid (fun (V : World) (q : Below w.heap.size w V) => both_ok t.toT9c k sc A c V q ((hsc.below q).mono q.size) ho hl hk (hT.below q) (HIB.out V q))
    have HIS := hid (fun (V : World) (q : Below w.heap.size w V) (S : Nat → Prop) (b h : Nat) (L : List (Nat × List UInt8)) (A1 E : Option Addr) (c1 cE : Nat) (hp : Pt S V b h L) (hl : Lv V V.heap.size A1 L) (he : Ev V V.heap.size E) (hlen : L.length ≤ 1000) => is9_any t b h L A1 E c1 cE V q hp hl he hlen (HTR.out V q) (HIB.out V q))
    have HOA := hid ho
    have HKK := hid hk
    have HLL := hid hl
    have HGD := hid (Gd.acts hk ho)
    have HBN := hid (Gd.bnd (h := k) sc)
    have HDA := hid (drops_all hk ho)
    obtain ⟨L, hL⟩ : ∃ L, L = acts9 k sc := ⟨_, rfl⟩
    rw [← hL] at HBO HGD HBN HDA
    obtain ⟨NL, hNL⟩ : ∃ m, m = L.length := ⟨_, rfl⟩
    have HNL := hid hNL
    rw [← hNL] at HBO
    rw [← HLN.out] at HBO
    clear hb hL hNL hk hl hT hI hsc ho h1 h2 t hZ
    cases hg : highOk bl with
    | true =>
      have HHG := hid (fun (V : World) (q : Below w.heap.size w V) => show Calls Tryd.prog 26 #[.int .u64 (bl : Int)] V (fun r W' => r = .returned (.tuple #[.int .i64 (hn : Int), .nilIface]) ∧ Below V.heap.size V W') from by
        have := HTZ.out.highOkk V bl q hbl
        rw [hg, if_pos rfl, ← hhn] at this
        exact this)
      have HRH := hid (fun (V : World) => show Calls Tryd.prog 27 #[.int .u64 (bl : Int)] V (fun r W' => r = .returned (.tuple #[.int .i64 (hn : Int), .bool true]) ∧ W' = V) from by
        have := highR_any bl V
        rw [hg, if_pos rfl, ← hhn] at this
        exact this)
      have HRZ := hid (fun (V : World) (q : Below w.heap.size w V) (S : Nat → Prop) (b : Nat) (p : Pt S V b k L) => show Calls Tryd.prog 28 #[.pointer (some ⟨b, 0, none⟩), .int .u64 (bl : Int)] V (fun r W' => ∃ S' b', r = .returned (.tuple #[.pointer (some ⟨b', 0, none⟩), .nilIface]) ∧ Pt S' W' b' hn (cutS bl L) ∧ (∀ j, S' j → V.heap.size ≤ j) ∧ Below V.heap.size V W') from by
        have := HT9.out.resizeOk bl q p (by have := HBN.out; have := HLL.out; omega) hg hbl
        rw [← hhn] at this
        exact this)
      have HRR := hid (fun (V : World) (A1 E : Option Addr) (c1 cE : Nat) (v : Lv V V.heap.size A1 L) (e : Ev V V.heap.size E) => show Calls Tryd.prog 29 #[.agg #[.int .i64 (k : Int), .slice A1 NL c1, .slice E 33 cE], .int .u64 (bl : Int)] V (fun r w' => ∃ A2 c2, r = .returned (.agg #[.int .i64 (hn : Int), .slice A2 (cutS bl L).length c2, .slice E 33 cE]) ∧ Lv w' w'.heap.size A2 (cutS bl L) ∧ Ev w' w'.heap.size E ∧ Below V.heap.size V w' ∧ ∀ g o, A2 = some ⟨g, o, none⟩ → V.heap.size ≤ g) from by
        obtain ⟨gE, oE, rfl, _, _⟩ := e.hash (k := 0) (by omega)
        have := resizeR_any (k : Int) bl L (some ⟨gE, oE, none⟩) A1 cE c1 V HGD.out.ok (by have := HBN.out; have := HLL.out; omega) v e
        rw [hg, if_pos rfl, ← hhn, ← HNL.out] at this
        exact this)
      have HCL := hid (show (cutS bl L).length ≤ 1000 by have := cutS_le bl L; have := HBN.out; have := HLL.out; omega)
      generalize cutS bl L = LC at HRZ HRR HCL
      clear hg hhn hbl HTZ
      go_enter Tryd.func5, Tryd.ntmps5
      go_wp2_with (first
        | (go_at_call 12; refine (HAL.out w HBW.out).mono ?_; rintro r1 w1 ⟨rfl, hb1⟩; have B1 := hid hb1; clear hb1)
        | (go_at_call 26; refine (HHG.out w1 B1.out).mono ?_; rintro rh wh ⟨rfl, hbh⟩; have BH := hid (B1.out.trans (hbh.mono B1.out.size)); clear hbh)
        | (go_at_call 27; refine (HRH.out _).mono ?_; rintro rq wq ⟨rfl, rfl⟩)
        | (go_at_call 13; refine (HBO.out _ BH.out).mono ?_; rintro r2 w2 ⟨S, b, A1, E, c1, cE, rfl, hk2⟩; simp only [ptr]; have K2 := hid hk2; have B2 := hid (BH.out.trans (hk2.below.mono BH.out.size)); clear hk2)
        | (refine Great.wpList_allocTo rfl _ rfl _ _ (HAT.out _ _ _ rfl) ?_)
        | (refine wpList_store_row rfl _ (.tmp 12) (.tmp 51) rfl w2.heap.size #[.int .i64 (k : Int), .slice A1 NL c1, .slice E 33 cE] rfl rfl 28 Z (At.new _ _ _) (HSZ.out _ rfl) ?x11 ?x12 ?x13; rotate_right; have hb3 : Below w2.heap.size w2 ((w2.alloc (.cells Z 28)).setRow w2.heap.size #[.int .i64 (k : Int), .slice A1 NL c1, .slice E 33 cE]) := below_setRow ((Below.refl _ _).alloc (Nat.le_refl _) _) (Nat.le_refl _) _; have M3 := hid (show At ((w2.alloc (.cells Z 28)).setRow w2.heap.size #[.int .i64 (k : Int), .slice A1 NL c1, .slice E 33 cE]) w2.heap.size #[.int .i64 (k : Int), .slice A1 NL c1, .slice E 33 cE] 28 from setRow_heap _ _ _ _ _ _ (At.new w2 Z 28)); have K3 := hid (K2.out.new HTT.out hb3); have B3 := hid (B2.out.trans (hb3.mono B2.out.size)); clear hb3; generalize ((w2.alloc (.cells Z 28)).setRow w2.heap.size #[.int .i64 (k : Int), .slice A1 NL c1, .slice E 33 cE]) = w3 at M3 K3 B3 ⊢; generalize w2.heap.size = M at M3 ⊢)
        | (go_at_call 28; refine (HRZ.out w3 B3.out S b K3.out.t).mono ?_; rintro r4 w4 ⟨S', b', rfl, p4, f4, hb4⟩; have P4 := hid p4; have M4 := hid (M3.out.new_ hb4); have K4 := hid (K3.out.new HTT.out hb4); have B4 := hid (B3.out.trans (hb4.mono B3.out.size)); clear p4 f4 hb4)
        | (refine wpList_valW (by rfl) (run_loadTr (.tmp 12) rfl M rfl _ M4.out (HSZ.out _ rfl)) ?_)
        | (go_at_call 29; refine (HRR.out w4 A1 E c1 cE K4.out.l K4.out.e).mono ?_; rintro r5 w5 ⟨A2, c2, rfl, hl5, he5, hb5, -⟩; have M5 := hid (M4.out.new_ hb5); have K5 := hid (K4.out.new HTT.out hb5); have B5 := hid (B4.out.trans (hb5.mono B4.out.size)); have I5 := hid (HIS.out w5 B5.out S' b' hn LC A2 E c2 cE (HTT.out.new P4.out hb5) hl5 he5 HCL.out); clear hl5 he5 hb5)
        | (go_at_call 15; refine I5.out.mono ?_; rintro r6 w6 ⟨rfl, hb6⟩; have M6 := hid (M5.out.new_ hb6); have K6 := hid (K5.out.new HTT.out hb6); have B6 := hid (B5.out.trans (hb6.mono B5.out.size)); have I6 := hid (show Calls Tryd.prog 15 #[.pointer (some ⟨b, 0, none⟩), .agg #[.int .i64 (k : Int), .slice A1 NL c1, .slice E 33 cE]] w6 (fun r w' => r = .returned (.bool true) ∧ Below w6.heap.size w6 w') from by rw [HNL.out]; exact HIS.out w6 B6.out S b k L A1 E c1 cE K6.out.t K6.out.l K6.out.e (by have := HBN.out; have := HLL.out; omega)); clear hb6 I5)
        | (refine wpList_valW (by rfl) (run_loadTr (.tmp 12) rfl M rfl _ M6.out (HSZ.out _ rfl)) ?_)
        | (go_at_call 15; refine I6.out.mono ?_; rintro r7 w7 ⟨rfl, hb7⟩; have B7 := hid (B6.out.trans (hb7.mono B6.out.size)); clear hb7 I6))
      case x11 => rw [HZE.out]; rfl
      case x12 => simp [Value.oneCell']
      go_ret
      exact ⟨rfl, B7.out⟩
    | false =>
      have HHG := hid (fun (V : World) (q : Below w.heap.size w V) => show Calls Tryd.prog 26 #[.int .u64 (bl : Int)] V (fun r W' => r = .returned (.tuple #[.int .i64 0, .iface 47 (.int .i64 1)]) ∧ Below V.heap.size V W') from by
        have := HTZ.out.highOkk V bl q hbl
        rw [hg] at this
        exact this)
      have HRH := hid (fun (V : World) => show Calls Tryd.prog 27 #[.int .u64 (bl : Int)] V (fun r W' => r = .returned (.tuple #[.int .i64 0, .bool false]) ∧ W' = V) from by
        have := highR_any bl V
        rw [hg] at this
        exact this)
      have HISE := hid (fun V => show Calls Tryd.prog 20 #[.iface 47 (.int .i64 1), .int .i64 1] V (fun e w' => e = .returned (.bool true) ∧ V = w') from by
        have := eis_any 1 1 V
        exact this)
      have HRZ := hid (fun (V : World) (q : Below w.heap.size w V) (S : Nat → Prop) (b : Nat) (p : Pt S V b k L) => show Calls Tryd.prog 28 #[.pointer (some ⟨b, 0, none⟩), .int .u64 (bl : Int)] V (fun r W' => r = .returned (.tuple #[.pointer none, .iface 47 (.int .i64 1)]) ∧ Below V.heap.size V W') from HT9.out.resizeNo bl q p (by have := HBN.out; have := HLL.out; omega) hg hbl)
      clear hg hhn hbl HTZ
      go_enter Tryd.func5, Tryd.ntmps5
      go_wp2_with (first
        | (go_at_call 12; refine (HAL.out w HBW.out).mono ?_; rintro r1 w1 ⟨rfl, hb1⟩; have B1 := hid hb1; clear hb1)
        | (go_at_call 26; refine (HHG.out w1 B1.out).mono ?_; rintro rh wh ⟨rfl, hbh⟩; have BH := hid (B1.out.trans (hbh.mono B1.out.size)); clear hbh)
        | (go_at_call 27; refine (HRH.out _).mono ?_; rintro rq wq ⟨rfl, rfl⟩)
        | (go_at_call 20; refine (HISE.out _).mono ?_; rintro ri wi ⟨rfl, rfl⟩)
        | (go_at_call 13; refine (HBO.out _ BH.out).mono ?_; rintro r2 w2 ⟨S, b, A1, E, c1, cE, rfl, hk2⟩; simp only [ptr]; have K2 := hid hk2; have B2 := hid (BH.out.trans (hk2.below.mono BH.out.size)); clear hk2)
        | (refine Great.wpList_allocTo rfl _ rfl _ _ (HAT.out _ _ _ rfl) ?_)
        | (refine wpList_store_row rfl _ (.tmp 12) (.tmp 51) rfl w2.heap.size #[.int .i64 (k : Int), .slice A1 NL c1, .slice E 33 cE] rfl rfl 28 Z (At.new _ _ _) (HSZ.out _ rfl) ?x21 ?x22 ?x23; rotate_right; have hb3 : Below w2.heap.size w2 ((w2.alloc (.cells Z 28)).setRow w2.heap.size #[.int .i64 (k : Int), .slice A1 NL c1, .slice E 33 cE]) := below_setRow ((Below.refl _ _).alloc (Nat.le_refl _) _) (Nat.le_refl _) _; have M3 := hid (show At ((w2.alloc (.cells Z 28)).setRow w2.heap.size #[.int .i64 (k : Int), .slice A1 NL c1, .slice E 33 cE]) w2.heap.size #[.int .i64 (k : Int), .slice A1 NL c1, .slice E 33 cE] 28 from setRow_heap _ _ _ _ _ _ (At.new w2 Z 28)); have K3 := hid (K2.out.new HTT.out hb3); have B3 := hid (B2.out.trans (hb3.mono B2.out.size)); clear hb3; generalize ((w2.alloc (.cells Z 28)).setRow w2.heap.size #[.int .i64 (k : Int), .slice A1 NL c1, .slice E 33 cE]) = w3 at M3 K3 B3 ⊢; generalize w2.heap.size = M at M3 ⊢)
        | (go_at_call 28; refine (HRZ.out w3 B3.out S b K3.out.t).mono ?_; rintro r4 w4 ⟨rfl, hb4⟩; have B4 := hid (B3.out.trans (hb4.mono B3.out.size)); clear hb4))
      case x21 => rw [HZE.out]; rfl
      case x22 => simp [Value.oneCell']
      go_ret
      exact ⟨rfl, B4.out⟩
  · have HBO := hid (fun (V : World) (q : Below w.heap.size w V) => both_no t.toT9c h n A c V q hb)
    rw [← hZ] at HBO
    clear hb hT hI hsc ho h1 h2 t hZ
    cases hg : highOk bl with
    | true =>
      have HHG := hid (fun (V : World) (q : Below w.heap.size w V) => show Calls Tryd.prog 26 #[.int .u64 (bl : Int)] V (fun r W' => r = .returned (.tuple #[.int .i64 (hn : Int), .nilIface]) ∧ Below V.heap.size V W') from by
        have := HTZ.out.highOkk V bl q hbl
        rw [hg, if_pos rfl, ← hhn] at this
        exact this)
      have HRH := hid (fun (V : World) => show Calls Tryd.prog 27 #[.int .u64 (bl : Int)] V (fun r W' => r = .returned (.tuple #[.int .i64 (hn : Int), .bool true]) ∧ W' = V) from by
        have := highR_any bl V
        rw [hg, if_pos rfl, ← hhn] at this
        exact this)
      clear hg hhn hbl HTZ
      go_enter Tryd.func5, Tryd.ntmps5
      go_wp2_with (first
        | (go_at_call 12; refine (HAL.out w HBW.out).mono ?_; rintro r1 w1 ⟨rfl, hb1⟩; have B1 := hid hb1; clear hb1)
        | (go_at_call 26; refine (HHG.out w1 B1.out).mono ?_; rintro rh wh ⟨rfl, hbh⟩; have BH := hid (B1.out.trans (hbh.mono B1.out.size)); clear hbh)
        | (go_at_call 27; refine (HRH.out _).mono ?_; rintro rq wq ⟨rfl, rfl⟩)
        | (go_at_call 13; refine (HBO.out _ BH.out).mono ?_; rintro r2 w2 ⟨rfl, hb2⟩; have B2 := hid (BH.out.trans (hb2.mono BH.out.size)); clear hb2)
        | (refine Great.wpList_allocTo rfl _ rfl _ _ (HAT.out _ _ _ rfl) ?_)
        | (refine wpList_store_row rfl _ (.tmp 12) (.tmp 51) rfl w2.heap.size Z rfl rfl 28 Z (At.new _ _ _) HZS.out rfl HZ1.out ?_; have B3 := hid (B2.out.trans ((below_setRow ((Below.refl _ _).alloc (Nat.le_refl _) _) (Nat.le_refl _) _ : Below w2.heap.size w2 ((w2.alloc (.cells Z 28)).setRow w2.heap.size Z)).mono B2.out.size))))
      go_ret
      exact ⟨rfl, B3.out⟩
    | false =>
      have HHG := hid (fun (V : World) (q : Below w.heap.size w V) => show Calls Tryd.prog 26 #[.int .u64 (bl : Int)] V (fun r W' => r = .returned (.tuple #[.int .i64 0, .iface 47 (.int .i64 1)]) ∧ Below V.heap.size V W') from by
        have := HTZ.out.highOkk V bl q hbl
        rw [hg] at this
        exact this)
      have HRH := hid (fun (V : World) => show Calls Tryd.prog 27 #[.int .u64 (bl : Int)] V (fun r W' => r = .returned (.tuple #[.int .i64 0, .bool false]) ∧ W' = V) from by
        have := highR_any bl V
        rw [hg] at this
        exact this)
      have HISE := hid (fun V => show Calls Tryd.prog 20 #[.iface 47 (.int .i64 1), .int .i64 1] V (fun e w' => e = .returned (.bool true) ∧ V = w') from by
        have := eis_any 1 1 V
        exact this)
      clear hg hhn hbl HTZ
      go_enter Tryd.func5, Tryd.ntmps5
      go_wp2_with (first
        | (go_at_call 12; refine (HAL.out w HBW.out).mono ?_; rintro r1 w1 ⟨rfl, hb1⟩; have B1 := hid hb1; clear hb1)
        | (go_at_call 26; refine (HHG.out w1 B1.out).mono ?_; rintro rh wh ⟨rfl, hbh⟩; have BH := hid (B1.out.trans (hbh.mono B1.out.size)); clear hbh)
        | (go_at_call 27; refine (HRH.out _).mono ?_; rintro rq wq ⟨rfl, rfl⟩)
        | (go_at_call 20; refine (HISE.out _).mono ?_; rintro ri wi ⟨rfl, rfl⟩)
        | (go_at_call 13; refine (HBO.out _ BH.out).mono ?_; rintro r2 w2 ⟨rfl, hb2⟩; have B2 := hid (BH.out.trans (hb2.mono BH.out.size)); clear hb2)
        | (refine Great.wpList_allocTo rfl _ rfl _ _ (HAT.out _ _ _ rfl) ?_)
        | (refine wpList_store_row rfl _ (.tmp 12) (.tmp 51) rfl w2.heap.size Z rfl rfl 28 Z (At.new _ _ _) HZS.out rfl HZ1.out ?_; have B3 := hid (B2.out.trans ((below_setRow ((Below.refl _ _).alloc (Nat.le_refl _) _) (Nat.le_refl _) _ : Below w2.heap.size w2 ((w2.alloc (.cells Z 28)).setRow w2.heap.size Z)).mono B2.out.size))))
      go_ret
      exact ⟨rfl, B3.out⟩
end Go.Proofs.YthkbmpocfpbkoaaDoor
