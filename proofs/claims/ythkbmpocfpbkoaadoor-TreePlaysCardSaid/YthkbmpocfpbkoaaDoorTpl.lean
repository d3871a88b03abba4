/-
  TreePlays of layer 9, over what the program's trees are to answer.
-/
import Derived.Test.YthkbmpocfpbkoaaDoorTn
import Derived.Test.YthkbmpocfpbkoaaDoorTv
namespace Go.Proofs.YthkbmpocfpbkoaaDoor
open Go.RowKit

set_option maxRecDepth 100000 in
set_option maxHeartbeats 4000000 in
theorem treePlays_law {Pt : PtT} {w : World} (t : T9 Pt w) (h : Int) (sc : List Act9) (A : Option Addr) (c : Nat) (hsc : Av w w.heap.size A sc) (ho : okA sc) (h1 : -9223372036854775808 ≤ h) (h2 : h < 9223372036854775808) (hT : Tabr w) (hI : Tab w 1 IV.l) :
    Calls Tryd.prog 3 #[.int .i64 h, .slice A sc.length c] w fun r w' => r = .returned (.bool true) ∧ Below w.heap.size w w' := by
  have HAL := hid (alive9_any t.toT9c)
  have HBW := hid (Below.refl w.heap.size w)
  have HAT := hid (fun (o : Oper) (a : Go.Act) (W : World) (h : o.op = .alloc 28) => run_alloc_of (o := o) (a := a) (W := W) _ h _ zeroTr)
  obtain ⟨Z, hZ⟩ : ∃ Z : Array Value, Z = #[.int .i64 0, .slice none 0 0, .slice none 0 0] := ⟨_, rfl⟩
  have HZS := hid (sizeTr_of Z (by rw [hZ]; rfl))
  have HZE := hid hZ
  have HZ1 := hid (show Z.all (·.oneCell') = true by rw [hZ]; simp [Value.oneCell'])
  have HSZ := hid (fun (cs : Array Value) (e : cs.size = 3) => sizeTr_of cs e)
  rw [← hZ] at HAT
  obtain ⟨n, hn⟩ : ∃ n, n = sc.length := ⟨_, rfl⟩
  have HLN := hid hn
  rw [← hn]
  by_cases hb : bothB h n
  · rw [hn] at hb
    obtain ⟨k, rfl⟩ : ∃ k : Nat, h = (k : Int) := ⟨h.toNat, by unfold bothB at hb; omega⟩
    have hk : k ≤ 32 := by unfold bothB at hb; omega
    have hl : sc.length ≤ 25 := by unfold bothB at hb; omega
    have HTT := hid t.toT9c
    have HT9 := hid t
    have HIB := hid (fun (V : World) (q : Below w.heap.size w V) => Tab.below (x := IV.a) (xs := [IV.b, IV.c, IV.d, IV.e, IV.f, IV.g, IV.h]) hI q)
    have HTR := hid (fun (V : World) (q : Below w.heap.size w V) => hT.below q)
    have HSC := hid (fun (V : World) (q : Below w.heap.size w V) => (show Av V w.heap.size A sc from hsc.below q))
    have HBO := hid (fun (V : World) (q : Below w.heap.size w V) => both_ok t.toT9c k sc A c V q ((hsc.below q).mono q.size) ho hl hk (hT.below q) (HIB.out V q))
    have HIS := hid (fun (V : World) (q : Below w.heap.size w V) (S : Nat → Prop) (b h : Nat) (L : List (Nat × List UInt8)) (A1 E : Option Addr) (c1 cE : Nat) (hp : Pt S V b h L) (hl : Lv V V.heap.size A1 L) (he : Ev V V.heap.size E) (hlen : L.length ≤ 1000) => is9_any t b h L A1 E c1 cE V q hp hl he hlen (HTR.out V q) (HIB.out V q))
    have HOA := hid ho
    have HKK := hid hk
    have HLL := hid hl
    have HGD := hid (Gd.acts hk ho)
    have HBN := hid (Gd.bnd (h := k) sc)
    have HDA := hid (drops_all hk ho)
    obtain ⟨L, hL⟩ : ∃ L, L = acts9 k sc := ⟨_, rfl⟩
    rw [← hL] at HBO HGD HBN HDA
    obtain ⟨NL, hNL⟩ : ∃ m, m = L.length := ⟨_, rfl⟩
    have HNL := hid hNL
    rw [← hNL] at HBO
    rw [← hn] at HBO
    clear hb hL hNL hk hl hT hI hsc ho h1 h2 t hn hZ
    go_enter Tryd.func3, Tryd.ntmps3
    go_wp2_with (first
      | (go_at_call 12; refine (HAL.out w HBW.out).mono ?_; rintro r1 w1 ⟨rfl, hb1⟩; have B1 := hid hb1; clear hb1)
      | (go_at_call 13; refine (HBO.out w1 B1.out).mono ?_; rintro r2 w2 ⟨S, b, A1, E, c1, cE, rfl, hk2⟩; simp only [ptr]; have K2 := hid hk2; have B2 := hid (B1.out.trans (hk2.below.mono B1.out.size)); clear hk2)
      | (refine Great.wpList_allocTo rfl _ rfl _ _ (HAT.out _ _ _ rfl) ?_)
      | (refine wpList_store_row rfl _ (.tmp 6) (.tmp 19) rfl w2.heap.size #[.int .i64 (k : Int), .slice A1 NL c1, .slice E 33 cE] rfl rfl 28 Z (At.new _ _ _) (HSZ.out _ rfl) ?x1 ?x2 ?x3; rotate_right; have hb3 : Below w2.heap.size w2 ((w2.alloc (.cells Z 28)).setRow w2.heap.size #[.int .i64 (k : Int), .slice A1 NL c1, .slice E 33 cE]) := below_setRow ((Below.refl _ _).alloc (Nat.le_refl _) _) (Nat.le_refl _) _; have M3 := hid (show At ((w2.alloc (.cells Z 28)).setRow w2.heap.size #[.int .i64 (k : Int), .slice A1 NL c1, .slice E 33 cE]) w2.heap.size #[.int .i64 (k : Int), .slice A1 NL c1, .slice E 33 cE] 28 from setRow_heap _ _ _ _ _ _ (At.new w2 Z 28)); have K3 := hid (K2.out.new HTT.out hb3); have B3 := hid (B2.out.trans (hb3.mono B2.out.size)); clear hb3; generalize ((w2.alloc (.cells Z 28)).setRow w2.heap.size #[.int .i64 (k : Int), .slice A1 NL c1, .slice E 33 cE]) = w3 at M3 K3 B3 ⊢; generalize w2.heap.size = M at M3 ⊢)
      | (go_at_call 14; refine (HT9.out.copyOk B3.out K3.out.t (by have := HBN.out; have := HLL.out; omega)).mono ?_; rintro r4 w4 ⟨S', b', rfl, p4, f4, hb4⟩; simp only [ptr]; have P4 := hid p4; have F4 := hid f4; have C4 := hid hb4; have M4 := hid (M3.out.new_ hb4); have K4 := hid (K3.out.new HTT.out hb4); have B4 := hid (B3.out.trans (hb4.mono B3.out.size)); have I4 := hid (show Calls Tryd.prog 15 #[.pointer (some ⟨b, 0, none⟩), .agg #[.int .i64 (k : Int), .slice A1 NL c1, .slice E 33 cE]] w4 (fun r w' => r = .returned (.bool true) ∧ Below w4.heap.size w4 w') from by rw [HNL.out]; exact HIS.out w4 B4.out S b k L A1 E c1 cE K4.out.t K4.out.l K4.out.e (by have := HBN.out; have := HLL.out; omega)); clear p4 f4 hb4)
      | (refine wpList_valW (by rfl) (run_loadTr (.tmp 6) rfl M rfl _ M4.out (HSZ.out _ rfl)) ?_)
      | (go_at_call 15; refine I4.out.mono ?_; rintro r5 w5 ⟨rfl, hb5⟩; have M5 := hid (M4.out.new_ hb5); have K5 := hid (K4.out.new HTT.out hb5); have P5 := hid (HTT.out.new P4.out hb5); have B5 := hid (B4.out.trans (hb5.mono B4.out.size)); have C5 := hid (C4.out.trans (hb5.mono C4.out.size)); have I5 := hid (show Calls Tryd.prog 15 #[.pointer (some ⟨b', 0, none⟩), .agg #[.int .i64 (k : Int), .slice A1 NL c1, .slice E 33 cE]] w5 (fun r w' => r = .returned (.bool true) ∧ Below w5.heap.size w5 w') from by rw [HNL.out]; exact HIS.out w5 B5.out S' b' k L A1 E c1 cE P5.out K5.out.l K5.out.e (by have := HBN.out; have := HLL.out; omega)); clear hb5 I4)
      | (refine wpList_valW (by rfl) (run_loadTr (.tmp 6) rfl M rfl _ M5.out (HSZ.out _ rfl)) ?_)
      | (go_at_call 15; refine I5.out.mono ?_; rintro r6 w6 ⟨rfl, hb6⟩; have P6 := hid (HTT.out.new P5.out hb6); have C6 := hid (C5.out.trans (hb6.mono C5.out.size)); clear hb6 I5))
    case x1 => rw [HZE.out]; rfl
    case x2 => simp [Value.oneCell']
    have PS := hid P6.out
    have B3' := hid B3.out
    clear M4 K4 B4 M5 K5 B5 P4 P5 C4 C5
    go_loopw [43] (fun v wr => ∃ (j : Nat) (S2 : Nat → Prop), j ≤ n ∧ v = .int .i64 (j : Int) ∧ Pt S2 wr b' k (drops9 k L (sc.take j)) ∧ (∀ q, S2 q → w3.heap.size ≤ q) ∧ Below w3.heap.size w3 wr) (fun v _ => n - (intOf v).toNat)
    case atStart => exact ⟨0, S', by omega, rfl, by rw [drops9_zero]; exact PS.out, F4.out, C6.out⟩
    case round =>
      clear PS P6 C6 F4 S'
      obtain ⟨j, S2, hj, rfl, hP, hlo, hB⟩ := hrel
      by_cases hlt : j < n
      · have hd : decide ((j : Int) < (n : Int)) = true := by simp; omega
        have hjl : j < sc.length := by rw [← HLN.out]; exact hlt
        have hbw : Below w.heap.size w wr := B3.out.trans (hB.mono B3.out.size)
        obtain ⟨a, ha⟩ : ∃ a, a = sc[j] := ⟨_, rfl⟩
        obtain ⟨q, o, eA, hq, hra⟩ := (HSC.out wr hbw).act HOA.out hjl
        rw [← ha] at hra
        have hoa : a.1 < 18446744073709551616 ∧ a.2.1.length = 32 := by rw [ha]; exact HOA.out.get hjl
        obtain ⟨x, hx⟩ : ∃ x, x = o + j * 34 := ⟨_, rfl⟩
        have hra' : wr.rangeAt q x (actV a) := by rw [hx, show o + j * 34 = o + 34 * j by omega]; exact hra
        have HNX := hid (show drops9 k L (sc.take (j + 1)) = (if hasB k 0 a.1 then setT a.1 (emptyL 0) (drops9 k L (sc.take j)) else drops9 k L (sc.take j)) by rw [ha]; exact drops9_next k L sc j hjl)
        have HLD := hid (show (drops9 k L (sc.take j)).length ≤ 1000 by have := drops9_le k L sc j (by omega); have := HBN.out; have := HLL.out; omega)
        obtain ⟨j1, hj1⟩ : ∃ m, m = j + 1 := ⟨_, rfl⟩
        rw [← hj1] at HNX
        have HJL := hid (show j1 ≤ n by omega)
        have HMS := hid (show n - j1 < n - j by omega)
        have e2 : (j : Int) + 1 = (j1 : Int) := by omega
        have ew : IntKind.i64.wrap (j1 : Int) = (j1 : Int) := by rw [IntKind.wrap_i64] <;> have := HLL.out <;> have := HLN.out <;> omega
        have ik : (j : Int) < (n : Int) := by omega
        have e3 : o + j * 34 = x := hx.symm
        generalize drops9 k L (sc.take j) = LD at HNX HLD hP
        have HP := hid hP
        have HLO := hid hlo
        have HB := hid hB
        have HRA := hid hra'
        have HAL2 := hid hoa.2
        have HAI := hid hoa.1
        have HAA := hid (fun (o : Oper) (a : Go.Act) (W : World) (h : o.op = .alloc 37) => run_alloc_of (o := o) (a := a) (W := W) _ h _ zeroAc)
        subst eA
        clear hjl hbw ha hq hra hoa hra' hx hj1 hP hlo hB hlt hj
        go_wp2_with (first
          | (refine wpList_valW (by rfl) (run_loadAc (.tmp 45) rfl q x rfl a HRA.out HAL2.out) ?_)
          | (refine Great.wpList_allocTo rfl _ rfl _ _ (HAA.out _ _ _ rfl) ?_)
          | (refine wpList_store_row rfl _ (.tmp 11) (.tmp 46) rfl wr.heap.size (actV a).toArray rfl rfl 37 (actV (0, n32, false)).toArray (heap_alloc_new _ _) (sizeAc_of HAL2.out) ?y1 (actV_one _) ?y2; rotate_right; have hb8 : Below wr.heap.size wr ((wr.alloc (.cells (actV (0, n32, false)).toArray 37)).setRow wr.heap.size (actV a).toArray) := below_setRow ((Below.refl _ _).alloc (Nat.le_refl _) _) (Nat.le_refl _) _; have P8 := hid (HTT.out.new HP.out hb8); have B8 := hid (HB.out.trans (hb8.mono HB.out.size)); have c80 := at_act0 (show At ((wr.alloc (.cells (actV (0, n32, false)).toArray 37)).setRow wr.heap.size (actV a).toArray) wr.heap.size (actV a).toArray 37 from setRow_heap _ _ _ _ _ _ (At.new wr _ _)); clear hb8; generalize ((wr.alloc (.cells (actV (0, n32, false)).toArray 37)).setRow wr.heap.size (actV a).toArray) = w8 at P8 B8 c80 ⊢; generalize wr.heap.size = Q at c80 ⊢)
          | (go_at_call 16; refine (HTT.out.dropOk a.1 (B3.out.trans (B8.out.mono B3.out.size)) P8.out HLD.out HAI.out).mono ?_; rintro r9 w9 ⟨rfl, S9, p9, f9, fr9⟩; have P9 := hid p9; have L9 := hid (show ∀ q, S9 q → w3.heap.size ≤ q from fun q hq => (f9 q hq).elim (HLO.out q) (fun z => Nat.le_trans B8.out.size z)); have B9 := hid (B8.out.trans (fr9.below HLO.out B8.out.size)); clear p9 f9 fr9 c80))
        case y1 => rw [List.size_toArray, List.size_toArray, actV_length HAL2.out, actV_length (a := (0, n32, false)) n32_length]
        go_roundw
        case rel => exact ⟨j1, S9, HJL.out, rfl, by rw [HNX.out]; exact P9.out, L9.out, B9.out⟩
        case measure =>
          show n - ((j1 : Int)).toNat < n - (j : Int).toNat
          rw [Int.toNat_natCast, Int.toNat_natCast]
          exact HMS.out
      · obtain rfl : j = n := by omega
        have hd : decide ((j : Int) < (j : Int)) = false := by simp
        have hfull : sc.take j = sc := List.take_of_length_le (by rw [← HLN.out]; exact Nat.le_refl _)
        rw [hfull, HDA.out] at hP
        have HP := hid hP
        have HB := hid hB
        have HM := hid (M3.out.new_ hB)
        have HK := hid (K3.out.new HTT.out hB)
        have HBB := hid (B3.out.trans (hB.mono B3.out.size))
        have IT := hid (show Calls Tryd.prog 15 #[.pointer (some ⟨b, 0, none⟩), .agg #[.int .i64 (k : Int), .slice A1 NL c1, .slice E 33 cE]] wr (fun r w' => r = .returned (.bool true) ∧ Below wr.heap.size wr w') from by rw [HNL.out]; exact HIS.out wr HBB.out S b k L A1 E c1 cE HK.out.t HK.out.l HK.out.e (by have := HBN.out; have := HLL.out; omega))
        clear hfull hP hB hlo
        go_wp2_with (first
          | (refine wpList_valW (by rfl) (run_loadTr (.tmp 6) rfl M rfl _ HM.out (HSZ.out _ rfl)) ?_)
          | (go_at_call 15; refine IT.out.mono ?_; rintro r8 w8 ⟨rfl, hb8⟩; have P8 := hid (HTT.out.new HP.out hb8); have B8 := hid (HBB.out.trans (hb8.mono HBB.out.size)); clear hb8)
          | (go_at_call 17; refine (HT9.out.lenOk B8.out P8.out (by simp)).mono ?_; rintro r9 w9 ⟨rfl, hb9⟩; have B9 := hid (B8.out.trans (hb9.mono B8.out.size)); clear hb9))
        go_ret
        exact ⟨by simp, B9.out⟩
  · have HBO := hid (fun (V : World) (q : Below w.heap.size w V) => both_no t.toT9c h n A c V q hb)
    rw [← hZ] at HBO
    clear hb hT hI hsc ho h1 h2 t hn hZ
    go_enter Tryd.func3, Tryd.ntmps3
    go_wp2_with (first
      | (go_at_call 12; refine (HAL.out w HBW.out).mono ?_; rintro r1 w1 ⟨rfl, hb1⟩; have B1 := hid hb1; clear hb1)
      | (go_at_call 13; refine (HBO.out w1 B1.out).mono ?_; rintro r2 w2 ⟨rfl, hb2⟩; have B2 := hid (B1.out.trans (hb2.mono B1.out.size)); clear hb2)
      | (refine Great.wpList_allocTo rfl _ rfl _ _ (HAT.out _ _ _ rfl) ?_)
      | (refine wpList_store_row rfl _ (.tmp 6) (.tmp 19) rfl w2.heap.size Z rfl rfl 28 Z (At.new _ _ _) HZS.out rfl HZ1.out ?_; have B3 := hid (B2.out.trans ((below_setRow ((Below.refl _ _).alloc (Nat.le_refl _) _) (Nat.le_refl _) _ : Below w2.heap.size w2 ((w2.alloc (.cells Z 28)).setRow w2.heap.size Z)).mono B2.out.size))))
    go_ret
    exact ⟨rfl, B3.out⟩
end Go.Proofs.YthkbmpocfpbkoaaDoor
