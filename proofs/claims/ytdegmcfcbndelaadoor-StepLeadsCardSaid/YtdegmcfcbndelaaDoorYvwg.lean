/-
  Layer 12: StepLeads, one of its ways.
-/
import Derived.Test.YtdegmcfcbndelaaDoorLI
namespace Go.Proofs.YtdegmcfcbndelaaDoor
open Go.RowKit

set_option maxRecDepth 100000 in
set_option maxHeartbeats 8000000 in
theorem stepLeads_wg {Pt : PtT} {w : World} (t : T12 Pt w) (HALV : Alive12C w) (was blocks : Nat) (l0 l1 : List Act9) (A0 A1 : Option Addr) (c0 c1 : Nat) (hwl : was < 18446744073709551616) (hbl : blocks < 18446744073709551616) (h0 : Av w w.heap.size A0 l0) (h1 : Av w w.heap.size A1 l1) (o0 : okA l0) (o1 : okA l1) (hT : Tabs w) (hq0 : ¬ 20 < l0.length) (hq1 : ¬ 20 < l1.length) (hg : highOk was = true) (hz : sortS (idxW was l1) ≠ []) (he : highOk blocks = true) (hle : was ≤ blocks) :
    Calls Tryd.prog 11 #[.int .u64 (was : Int), .agg #[.slice A0 l0.length c0, .slice A1 l1.length c1], .int .u64 (blocks : Int)] w fun r w' => r = .returned (.bool true) ∧ Below w.heap.size w w' := by
  obtain ⟨n0, hn0⟩ : ∃ n, n = l0.length := ⟨_, rfl⟩
  obtain ⟨n1, hn1⟩ : ∃ n, n = l1.length := ⟨_, rfl⟩
  rw [← hn0, ← hn1]
  obtain ⟨O, hO⟩ : ∃ O : Array Value, O = #[.slice A0 n0 c0, .slice A1 n1 c1] := ⟨_, rfl⟩
  have K0 := hid (LdB.start (w := w) (O := O))
  have HOC := hid (fun (V : World) (x : LdB w O V) => show V.cell? ⟨w.heap.size, 0, none⟩ = some (.slice A0 n0 c0) ∧ V.cell? ⟨w.heap.size, 1, none⟩ = some (.slice A1 n1 c1) from by
    rw [x.g.cell, x.g.cell, hO]
    exact ⟨rfl, rfl⟩)
  have HAL := hid (fun (V : World) (b : Below w.heap.size w V) => HALV V b)
  rw [← hO]
  have d0 : decide ((20 : Int) < (n0 : Int)) = false := by simp; omega
  have d0n : decide (20 < n0) = false := by simp; omega
  have d1 : decide ((20 : Int) < (n1 : Int)) = false := by simp; omega
  have d1n : decide (20 < n1) = false := by simp; omega
  obtain ⟨k, hk⟩ : ∃ k, k = highN was := ⟨_, rfl⟩
  have hwb : 1 ≤ was ∧ was ≤ 4294967296 := by unfold highOk at hg; simp at hg; omega
  obtain ⟨hs1, hk32, -⟩ := highN_spec (b := was) hwb.2
  rw [← hk] at hs1 hk32
  have HTT := hid t
  have HHT := hid (fun (V : World) => show Calls Tryd.prog 54 #[.int .u64 (was : Int)] V (fun r W' => r = .returned (.tuple #[.int .i64 (k : Int), .nilIface]) ∧ W' = V) from by
    have := t.heightN V was hwl
    rw [hg, if_pos rfl, ← hk] at this
    exact this)
  have HNW := hid (fun (V : World) (q : Below w.heap.size w V) => show Calls Tryd.prog 22 #[.int .i64 (k : Int)] V (fun r W' => ∃ S b, r = .returned (.tuple #[.pointer (some ⟨b, 0, none⟩), .nilIface]) ∧ Pt S W' b k [] ∧ (∀ j, S j → V.heap.size ≤ j) ∧ Below V.heap.size V W') from t.newOk V k q hk32)
  have HS0 := hid (fun (V : World) (q : Below w.heap.size w V) => (show Av V w.heap.size A0 l0 from h0.below q))
  have HS1 := hid (fun (V : World) (q : Below w.heap.size w V) => (show Av V w.heap.size A1 l1 from h1.below q))
  have HO0 := hid o0
  have HO1 := hid o1
  have HL0 := hid (show n0 ≤ 20 ∧ n0 = l0.length from ⟨by omega, hn0⟩)
  have HL1 := hid (show n1 ≤ 20 ∧ n1 = l1.length from ⟨by omega, hn1⟩)
  have HGD := hid (fun j hj => setsW_good (l := l0) hk32 hs1 o0 j hj)
  have HLE := hid (fun j hj => setsW_le was l0 j hj)
  have HKW := hid (show k = highN was ∧ was ≤ 2 ^ k ∧ k ≤ 32 from ⟨hk, hs1, hk32⟩)
  have HWB := hid (show highOk was = true ∧ was < 18446744073709551616 ∧ blocks < 18446744073709551616 from ⟨hg, hwl, hbl⟩)
  have HAA := hid (fun (o : Oper) (a : Go.Act) (W : World) (h : o.op = .alloc 27) => run_alloc_of (o := o) (a := a) (W := W) _ h _ zeroAc)
  obtain ⟨m, hm⟩ : ∃ m, m = n32 := ⟨_, rfl⟩
  have HAH := hid (fun (o : Oper) (a : Go.Act) (W : World) (h : o.op = .alloc 25) => run_alloc_of (o := o) (a := a) (W := W) _ h _ zeroH8)
  have HNL := hid (show m.length = 32 by rw [hm]; exact n32_length)
  rw [← hm] at HAH
  have HTB := hid (fun (V : World) (q : Below w.heap.size w V) => hT.below q)
  have HZ := hid hz
  clear hn0 hn1 hO hq0 hq1 HALV t hwl hbl hg h0 h1 o0 o1 hT hk hwb hs1 hk32 hm
  clear hz
  have HE := hid (show highOk blocks = true ∧ was ≤ blocks from ⟨he, hle⟩)
  have db : decide ((was : Int) ≤ (blocks : Int)) = true := by simp; omega
  have dbn : decide (was ≤ blocks) = true := by simp; omega
  clear he hle
  go_enter Tryd.func11, Tryd.ntmps11
  go_upto_region 12 with (first
    | (generalize (w.alloc (.cells O 97)) = w0 at K0 ⊢; go_at_call 40; refine (HAL.out w0 K0.out.bl).mono ?_; rintro r1 w1 ⟨rfl, hb1⟩; have K1 := hid (K0.out.new hb1); clear hb1; obtain ⟨q0, q1⟩ := HOC.out _ K1.out)
    | (go_at_call 54; refine (HHT.out w1).mono ?_; rintro r2 w2 ⟨rfl, hw⟩; rw [hw]; clear hw)
    | (go_at_call 22; refine (HNW.out w1 K1.out.bl).mono ?_; rintro r3 w3 ⟨S1, b1, rfl, p3, f3, hb3⟩; have X3 := hid (show LdT Pt w O S1 b1 k [] w3 from ⟨p3, fun j hj => Nat.lt_of_lt_of_le K1.out.g.lt (f3 j hj), K1.out.new hb3⟩); clear p3 f3 hb3 q0 q1; obtain ⟨q0, q1⟩ := HOC.out _ X3.out.x))
  go_loopw [58] (fun v wr => ∃ (j : Nat) (S1 : Nat → Prop), j ≤ n0 ∧ v = .int .i64 (j : Int) ∧ Hid (LdT Pt w O S1 b1 k (setsW was (l0.take j)) wr)) (fun v _ => n0 - (intOf v).toNat)
  case atStart => exact ⟨0, S1, by omega, rfl, by rw [setsW_zero]; exact X3⟩
  case round =>
    clear X3 S1 K1 q0 q1
    obtain ⟨j, S1, hj, rfl, HX⟩ := hrel
    by_cases hlt : j < n0
    · have hd : decide ((j : Int) < (n0 : Int)) = true := by simp; omega
      have hjl : j < l0.length := by rw [← HL0.out.2]; exact hlt
      obtain ⟨a, ha⟩ : ∃ a, a = l0[j] := ⟨_, rfl⟩
      obtain ⟨q, o, eA, hq, hra⟩ := (HS0.out wr HX.out.x.bl).act HO0.out hjl
      rw [← ha] at hra
      have hoa : a.1 < 18446744073709551616 ∧ a.2.1.length = 32 := by rw [ha]; exact HO0.out.get hjl
      obtain ⟨x, hx⟩ : ∃ x, x = o + j * 34 := ⟨_, rfl⟩
      have hra' : wr.rangeAt q x (actV a) := by rw [hx, show o + j * 34 = o + 34 * j by omega]; exact hra
      have hnx := setsW_next was l0 j hjl
      rw [← ha] at hnx
      obtain ⟨j1, hj1⟩ : ∃ m, m = j + 1 := ⟨_, rfl⟩
      rw [← hj1] at hnx
      have HJL := hid (show j1 ≤ n0 by omega)
      have HMS := hid (show n0 - j1 < n0 - j by omega)
      have HLD := hid (show (setsW was (l0.take j)).length ≤ 1000 by have := HLE.out j (by omega); have := HL0.out; omega)
      have e2 : (j : Int) + 1 = (j1 : Int) := by omega
      have ew : IntKind.i64.wrap (j1 : Int) = (j1 : Int) := by rw [IntKind.wrap_i64] <;> have := HL0.out <;> omega
      have ik : (j : Int) < (n0 : Int) := by omega
      have e3 : o + j * 34 = x := hx.symm
      generalize setsW was (l0.take j) = LD at hnx HLD HX
      have HRA := hid hra'
      have HAL2 := hid hoa.2
      have HAI := hid hoa.1
      subst eA
      clear hjl ha hq hra hoa hra' hx hj1 hlt hj
      by_cases hb : a.1 < was
      · rw [if_pos hb] at hnx
        have hhb : hasB k 0 a.1 = true := by have := HKW.out.2.1; unfold hasB; simp; omega
        have bw : decide ((a.1 : Int) < (was : Int)) = true := by simp; omega
        have bwn : decide (a.1 < was) = true := by simp; omega
        have HST := hid (fun (V : World) (S : Nat → Prop) (p : Pt S V b1 k LD) (q : Below w.heap.size w V) => show Calls Tryd.prog 23 #[.pointer (some ⟨b1, 0, none⟩), .int .u64 (a.1 : Int), .agg (ubs a.2.1).toArray] V (fun r W' => r = .returned .nilIface ∧ ∃ S', Pt S' W' b1 k (setT a.1 a.2.1 LD) ∧ (∀ k, S' k → S k ∨ V.heap.size ≤ k) ∧ Fr S V W') from by
          have := HTT.out.setOk a.1 a.2.1 q p HLD.out HAI.out HAL2.out
          rw [hhb] at this
          exact this)
        have HNX := hid hnx
        clear hb hnx hhb
        go_wp2_with (first
          | (refine wpList_valW (by rfl) (run_loadAc (.tmp 60) rfl q x rfl a HRA.out HAL2.out) ?_)
          | (refine Great.wpList_allocTo rfl _ rfl _ _ (HAA.out _ _ _ rfl) ?_)
          | (refine wpList_store_row rfl _ (.tmp 11) (.tmp 61) rfl wr.heap.size (actV a).toArray rfl rfl 27 (actV (0, n32, false)).toArray (heap_alloc_new _ _) (sizeAc_of HAL2.out) ?ya1 (actV_one _) ?yb1; rotate_right; have hb8 : Below wr.heap.size wr ((wr.alloc (.cells (actV (0, n32, false)).toArray 27)).setRow wr.heap.size (actV a).toArray) := below_setRow ((Below.refl _ _).alloc (Nat.le_refl _) _) (Nat.le_refl _) _; have A8 := hid (show At ((wr.alloc (.cells (actV (0, n32, false)).toArray 27)).setRow wr.heap.size (actV a).toArray) wr.heap.size (actV a).toArray 27 from setRow_heap _ _ _ _ _ _ (At.new wr _ _)); have X8 := hid (HX.out.new HTT.out.toT9c hb8); have c80 := at_act0 A8.out; clear hb8; generalize ((wr.alloc (.cells (actV (0, n32, false)).toArray 27)).setRow wr.heap.size (actV a).toArray) = w8 at X8 A8 c80 ⊢; generalize wr.heap.size = Q at A8 c80 ⊢)
          | (refine wpList_valW (by rfl) (run_loadH (.tmp 69) rfl Q 1 rfl a.2.1 (at_act1 A8.out) HAL2.out) ?_)
          | (go_at_call 23; refine (HST.out w8 S1 X8.out.t X8.out.x.bl).mono ?_; rintro r9 w9 ⟨rfl, S9, p9, f9, fr9⟩; have X9 := hid (X8.out.set p9 f9 fr9); clear p9 f9 fr9 c80))
        case ya1 => rw [List.size_toArray, List.size_toArray, actV_length HAL2.out, actV_length (a := (0, n32, false)) n32_length]
        go_roundw
        case rel => exact ⟨j1, S9, HJL.out, rfl, by rw [HNX.out]; exact X9⟩
        case measure =>
          show n0 - ((j1 : Int)).toNat < n0 - (j : Int).toNat
          rw [Int.toNat_natCast, Int.toNat_natCast]
          exact HMS.out
      · rw [if_neg hb] at hnx
        have bw : decide ((a.1 : Int) < (was : Int)) = false := by simp; omega
        have bwn : decide (a.1 < was) = false := by simp; omega
        have HNX := hid hnx
        clear hb hnx
        go_wp2_with (first
          | (refine wpList_valW (by rfl) (run_loadAc (.tmp 60) rfl q x rfl a HRA.out HAL2.out) ?_)
          | (refine Great.wpList_allocTo rfl _ rfl _ _ (HAA.out _ _ _ rfl) ?_)
          | (refine wpList_store_row rfl _ (.tmp 11) (.tmp 61) rfl wr.heap.size (actV a).toArray rfl rfl 27 (actV (0, n32, false)).toArray (heap_alloc_new _ _) (sizeAc_of HAL2.out) ?ya2 (actV_one _) ?yb2; rotate_right; have hb8 : Below wr.heap.size wr ((wr.alloc (.cells (actV (0, n32, false)).toArray 27)).setRow wr.heap.size (actV a).toArray) := below_setRow ((Below.refl _ _).alloc (Nat.le_refl _) _) (Nat.le_refl _) _; have A8 := hid (show At ((wr.alloc (.cells (actV (0, n32, false)).toArray 27)).setRow wr.heap.size (actV a).toArray) wr.heap.size (actV a).toArray 27 from setRow_heap _ _ _ _ _ _ (At.new wr _ _)); have X8 := hid (HX.out.new HTT.out.toT9c hb8); have c80 := at_act0 A8.out; clear hb8; generalize ((wr.alloc (.cells (actV (0, n32, false)).toArray 27)).setRow wr.heap.size (actV a).toArray) = w8 at X8 A8 c80 ⊢; generalize wr.heap.size = Q at A8 c80 ⊢))
        case ya2 => rw [List.size_toArray, List.size_toArray, actV_length HAL2.out, actV_length (a := (0, n32, false)) n32_length]
        go_roundw
        case rel => exact ⟨j1, S1, HJL.out, rfl, by rw [HNX.out]; exact X8⟩
        case measure =>
          show n0 - ((j1 : Int)).toNat < n0 - (j : Int).toNat
          rw [Int.toNat_natCast, Int.toNat_natCast]
          exact HMS.out
    · obtain rfl : j = n0 := by omega
      have hd : decide ((j : Int) < (j : Int)) = false := by simp
      have hfull : l0.take j = l0 := List.take_of_length_le (by rw [← HL0.out.2]; exact Nat.le_refl _)
      rw [hfull] at HX
      have HL := hid (show (setsW was l0).length ≤ 20 ∧ (Gd k (setsW was l0)) ∧ ∀ p ∈ setsW was l0, p.1 < was from by
        have h1 := HLE.out l0.length (Nat.le_refl _)
        have h2 := HGD.out l0.length (Nat.le_refl _)
        rw [List.take_length] at h1 h2
        have := HL0.out
        exact ⟨by omega, h2.1, h2.2⟩)
      generalize setsW was l0 = L at HX HL
      rename World => V1
      clear hfull hlt hj HLE HGD HO0 HS0 HL0 HNW HHT
      obtain ⟨q0, q1⟩ := HOC.out _ HX.out.x
      have HSM := hid (HX.out.lt HTT.out.toT9c)
      have HGM := hid HX.out.x.g.lt
      have HONE := hid (fun (V : World) (n : Nat) (i : Nat) (u : Value) (h : (nus [n])[i]? = some u) => show (V.alloc (.cells #[.int .u64 (n : Int)] 23)).cell? ((⟨V.heap.size, 0, none⟩ : Addr).add i) = some u from by
        rw [add_plain, Nat.zero_add, (At.new V _ _).cell, ← h]
        simp [nus])
      go_upto_region 19 with fail
      go_loopw [12, 76] (fun v u wr => ∃ (j ml : Nat) (Al : Option Addr) (cl : Nat), j ≤ n1 ∧ u = .int .i64 (j : Int) ∧ v = .slice Al ml cl ∧ Hid (ml = (idxW was (l1.take j)).length) ∧ Hid (LdT Pt w O S1 b1 k L wr) ∧ Hid (Un wr V1.heap.size (.slice Al ml cl) ml (idxW was (l1.take j))) ∧ Hid (V1.heap.size ≤ wr.heap.size)) (fun _ u _ => n1 - (intOf u).toNat)
      case atStart => exact ⟨0, 0, none, 0, by omega, rfl, rfl, by rw [idxW_zero]; exact hid rfl, HX, by rw [idxW_zero]; exact hid (Un.nil _ _), hid (Nat.le_refl _)⟩
      case round =>
        clear HX q0 q1
        obtain ⟨j, ml, Al, cl, hj, rfl, rfl, HM, HY, HU, HW⟩ := hrel
        by_cases hlt : j < n1
        · have hd : decide ((j : Int) < (n1 : Int)) = true := by simp; omega
          have hjl : j < l1.length := by rw [← HL1.out.2]; exact hlt
          obtain ⟨a, ha⟩ : ∃ a, a = l1[j] := ⟨_, rfl⟩
          obtain ⟨q, o, eA, hq, hra⟩ := (HS1.out wr HY.out.x.bl).act HO1.out hjl
          rw [← ha] at hra
          have hoa : a.1 < 18446744073709551616 ∧ a.2.1.length = 32 := by rw [ha]; exact HO1.out.get hjl
          obtain ⟨x, hx⟩ : ∃ x, x = o + j * 34 := ⟨_, rfl⟩
          have hra' : wr.rangeAt q x (actV a) := by rw [hx, show o + j * 34 = o + 34 * j by omega]; exact hra
          have hnx := idxW_next was l1 j hjl
          rw [← ha] at hnx
          obtain ⟨j1, hj1⟩ : ∃ m, m = j + 1 := ⟨_, rfl⟩
          rw [← hj1] at hnx
          have HJL := hid (show j1 ≤ n1 by omega)
          have HMS := hid (show n1 - j1 < n1 - j by omega)
          have HLD := hid (show (idxW was (l1.take j)).length ≤ 20 by have := idxW_le was (l1.take j); rw [List.length_take] at this; have := HL1.out; omega)
          have e2 : (j : Int) + 1 = (j1 : Int) := by omega
          have ew : IntKind.i64.wrap (j1 : Int) = (j1 : Int) := by rw [IntKind.wrap_i64] <;> have := HL1.out <;> omega
          have ik : (j : Int) < (n1 : Int) := by omega
          have e3 : o + j * 34 = x := hx.symm
          generalize idxW was (l1.take j) = IL at hnx HLD HM HU
          have HRA := hid hra'
          have HAL2 := hid hoa.2
          have HAI := hid hoa.1
          subst eA
          clear hjl ha hq hra hoa hra' hx hj1 hlt hj
          by_cases hb : a.1 < was
          · rw [if_pos hb] at hnx
            have bw : decide ((a.1 : Int) < (was : Int)) = true := by simp; omega
            have bwn : decide (a.1 < was) = true := by simp; omega
            obtain ⟨m1, hm1⟩ : ∃ m, m = ml + 1 := ⟨_, rfl⟩
            have em : ml + 1 = m1 := hm1.symm
            have HNX := hid hnx
            have HM1 := hid (show m1 = (IL ++ [a.1]).length by rw [List.length_append, ← HM.out]; exact hm1)
            clear hb hnx hm1
            go_wp2_with (first
              | (refine wpList_valW (by rfl) (run_loadAc (.tmp 78) rfl q x rfl a HRA.out HAL2.out) ?_)
              | (refine Great.wpList_allocTo rfl _ rfl _ _ (HAA.out _ _ _ rfl) ?_)
              | (refine wpList_store_row rfl _ (.tmp 14) (.tmp 79) rfl wr.heap.size (actV a).toArray rfl rfl 27 (actV (0, n32, false)).toArray (heap_alloc_new _ _) (sizeAc_of HAL2.out) ?ya3 (actV_one _) ?yb3; rotate_right; have hb8 : Below wr.heap.size wr ((wr.alloc (.cells (actV (0, n32, false)).toArray 27)).setRow wr.heap.size (actV a).toArray) := below_setRow ((Below.refl _ _).alloc (Nat.le_refl _) _) (Nat.le_refl _) _; have A8 := hid (show At ((wr.alloc (.cells (actV (0, n32, false)).toArray 27)).setRow wr.heap.size (actV a).toArray) wr.heap.size (actV a).toArray 27 from setRow_heap _ _ _ _ _ _ (At.new wr _ _)); have X8 := hid (HY.out.new HTT.out.toT9c hb8); have c80 := at_act0 A8.out; have U8 := hid (HU.out.kept hb8); have S8 := hid (show V1.heap.size ≤ ((wr.alloc (.cells (actV (0, n32, false)).toArray 27)).setRow wr.heap.size (actV a).toArray).heap.size from Nat.le_trans HW.out hb8.size); clear hb8; generalize ((wr.alloc (.cells (actV (0, n32, false)).toArray 27)).setRow wr.heap.size (actV a).toArray) = w8 at X8 A8 c80 U8 S8 ⊢; generalize wr.heap.size = Q at A8 c80 ⊢)
              | (refine wpList_valW (by rfl) (run_buildU1 (.tmp 86) rfl a.1 rfl) ?_)
              | (refine wpList_append_ux (by rfl) (.tmp 84) (.tmp 87) rfl V1.heap.size (.slice Al ml cl) ml IL rfl (U8.out.kept ((Below.refl _ _).alloc (Nat.le_refl _) _)) ⟨w8.heap.size, 0, none⟩ 1 1 [a.1] rfl (HONE.out w8 a.1) rfl (by have := HM.out; have := HLD.out; omega) (Nat.le_trans S8.out (by simp)) ?_; intro A9 c9 w9 h9 g9; have Bx := hid (show Below V1.heap.size w8 w9 from ((Below.refl V1.heap.size w8).alloc S8.out _).grown g9 (Nat.le_trans S8.out (by simp)) (un_lt U8.out)); have X9 := hid (X8.out.far HTT.out.toT9c Bx.out HSM.out HGM.out); have U9 := hid (show Un w9 V1.heap.size (.slice A9 m1 c9) m1 (IL ++ [a.1]) from by rw [← em]; exact h9); have S9 := hid (Nat.le_trans S8.out Bx.out.size); clear h9 g9 Bx c80))
            case ya3 => rw [List.size_toArray, List.size_toArray, actV_length HAL2.out, actV_length (a := (0, n32, false)) n32_length]
            go_roundw
            case rel => exact ⟨j1, m1, A9, c9, HJL.out, rfl, rfl, by rw [HNX.out]; exact HM1, X9, by rw [HNX.out]; exact U9, S9⟩
            case measure =>
              show n1 - ((j1 : Int)).toNat < n1 - (j : Int).toNat
              rw [Int.toNat_natCast, Int.toNat_natCast]
              exact HMS.out
          · rw [if_neg hb] at hnx
            have bw : decide ((a.1 : Int) < (was : Int)) = false := by simp; omega
            have bwn : decide (a.1 < was) = false := by simp; omega
            have HNX := hid hnx
            clear hb hnx
            go_wp2_with (first
              | (refine wpList_valW (by rfl) (run_loadAc (.tmp 78) rfl q x rfl a HRA.out HAL2.out) ?_)
              | (refine Great.wpList_allocTo rfl _ rfl _ _ (HAA.out _ _ _ rfl) ?_)
              | (refine wpList_store_row rfl _ (.tmp 14) (.tmp 79) rfl wr.heap.size (actV a).toArray rfl rfl 27 (actV (0, n32, false)).toArray (heap_alloc_new _ _) (sizeAc_of HAL2.out) ?ya4 (actV_one _) ?yb4; rotate_right; have hb8 : Below wr.heap.size wr ((wr.alloc (.cells (actV (0, n32, false)).toArray 27)).setRow wr.heap.size (actV a).toArray) := below_setRow ((Below.refl _ _).alloc (Nat.le_refl _) _) (Nat.le_refl _) _; have A8 := hid (show At ((wr.alloc (.cells (actV (0, n32, false)).toArray 27)).setRow wr.heap.size (actV a).toArray) wr.heap.size (actV a).toArray 27 from setRow_heap _ _ _ _ _ _ (At.new wr _ _)); have X8 := hid (HY.out.new HTT.out.toT9c hb8); have c80 := at_act0 A8.out; have U8 := hid (HU.out.kept hb8); have S8 := hid (show V1.heap.size ≤ ((wr.alloc (.cells (actV (0, n32, false)).toArray 27)).setRow wr.heap.size (actV a).toArray).heap.size from Nat.le_trans HW.out hb8.size); clear hb8; generalize ((wr.alloc (.cells (actV (0, n32, false)).toArray 27)).setRow wr.heap.size (actV a).toArray) = w8 at X8 A8 c80 U8 S8 ⊢; generalize wr.heap.size = Q at A8 c80 ⊢))
            case ya4 => rw [List.size_toArray, List.size_toArray, actV_length HAL2.out, actV_length (a := (0, n32, false)) n32_length]
            go_roundw
            case rel => exact ⟨j1, ml, Al, cl, HJL.out, rfl, rfl, by rw [HNX.out]; exact HM, X8, by rw [HNX.out]; exact U8, S8⟩
            case measure =>
              show n1 - ((j1 : Int)).toNat < n1 - (j : Int).toNat
              rw [Int.toNat_natCast, Int.toNat_natCast]
              exact HMS.out
        · obtain rfl : j = n1 := by omega
          have hd : decide ((j : Int) < (j : Int)) = false := by simp
          have hfull : l1.take j = l1 := List.take_of_length_le (by rw [← HL1.out.2]; exact Nat.le_refl _)
          rw [hfull] at HM HU
          clear hfull hlt hj HO1 HS1 HAA HONE
          obtain ⟨IL, hIL⟩ : ∃ l, l = idxW was l1 := ⟨_, rfl⟩
          rw [← hIL] at HM HU
          have HIL := hid (show IL.length ≤ 20 ∧ ∀ x ∈ IL, x < was from by
            rw [hIL]
            have h1 := idxW_le was l1
            have h2 := HL1.out
            exact ⟨by omega, fun x hx => idxW_lt hx⟩)
          obtain ⟨s, hs⟩ : ∃ s, s = sortS IL := ⟨_, rfl⟩
          have HSS := hid (show s = sortS IL from hs)
          have HSE := hid (show s = sortS (idxW was l1) by rw [hs, hIL])
          obtain ⟨ns, hns⟩ : ∃ n, n = s.length := ⟨_, rfl⟩
          have HNS := hid (show ns = s.length ∧ ns ≤ 20 from ⟨hns, by
            rw [hns, hs]
            have h1 := sortS_length IL IL.length (Nat.le_refl _)
            rw [List.take_length] at h1
            have h2 := HIL.out.1
            omega⟩)
          have HSO := hid (fun (V : World) (hr : Nu V V.heap.size Al IL) => show Calls Tryd.prog 35 #[.slice Al ml cl] V (fun r W' => ∃ A2 c2, r = .returned (.slice A2 ns c2) ∧ ns ≤ c2 ∧ Nu W' W'.heap.size A2 s ∧ Below V.heap.size V W' ∧ ∀ g o, A2 = some ⟨g, o, none⟩ → V.heap.size ≤ g) from by
            have h1 := HM.out
            have h2 := HIL.out.1
            rw [h1, hns, hs]
            exact pSort_new IL Al cl V (by omega) hr)
          obtain ⟨q, hq⟩ : ∃ q, q = nodeS k 0 L := ⟨_, rfl⟩
          have HQ := hid (show q = nodeS k 0 L from hq)
          have HQL := hid (show q.length = 32 by rw [hq]; exact nodeS_length k 0 L HL.out.2.1.ok)
          have HRT := hid (fun (V : World) (x : LdT Pt w O S1 b1 k L V) => show Calls Tryd.prog 24 #[.pointer (some ⟨b1, 0, none⟩)] V (fun r W' => r = .returned (.agg (ubs q).toArray) ∧ Below V.heap.size V W') from by
            rw [hq]
            exact HTT.out.rootOk x.x.bl x.t (by have := HL.out.1; omega))
          clear hIL hs hns hq
          go_upto_region 25 with (first
            | (go_at_call 35; refine (HSO.out wr HU.out.rd).mono ?_; rintro r3 w3 ⟨A2, c2, rfl, hc3, hn3, hb3, ha3⟩; have X3 := hid (HY.out.new HTT.out.toT9c hb3); have N3 := hid hn3; have C3 := hid hc3; have F3 := hid (fun g o (e : A2 = some ⟨g, o, none⟩) => show V1.heap.size ≤ g from Nat.le_trans HW.out (ha3 g o e)); have S3 := hid (show V1.heap.size ≤ w3.heap.size from Nat.le_trans HW.out hb3.size); clear hn3 hc3 hb3 ha3))
          go_upto_region 26 with (first
            | (go_at_call 24; refine (HRT.out w3 X3.out).mono ?_; rintro r4 w4 ⟨rfl, hb4⟩; have X4 := hid (X3.out.new HTT.out.toT9c hb4); have N4 := hid (rd_later12 N3.out hb4); have S4 := hid (Nat.le_trans S3.out hb4.size); clear hb4)
            | (refine Great.wpList_allocTo rfl _ rfl _ _ (HAH.out _ _ _ rfl) ?_)
            | (refine wpList_store_row rfl _ (.tmp 15) (.tmp 93) rfl w4.heap.size (ubs q).toArray rfl rfl 25 (ubs m).toArray (At.new _ _ _) (sizeH_of HQL.out) (by simp [ubs_length, HNL.out, HQL.out]) (ubs_all _) ?_; have Bx := hid (show Below w4.heap.size w4 ((w4.alloc (.cells (ubs m).toArray 25)).setRow w4.heap.size (ubs q).toArray) from below_setRow ((Below.refl _ _).alloc (Nat.le_refl _) _) (Nat.le_refl _) _); have R5 := hid (show At ((w4.alloc (.cells (ubs m).toArray 25)).setRow w4.heap.size (ubs q).toArray) w4.heap.size (ubs q).toArray 25 from setRow_heap _ _ _ _ _ _ (At.new w4 (ubs m).toArray 25)); have X5 := hid (X4.out.new HTT.out.toT9c Bx.out); have N5 := hid (rd_later12 N4.out Bx.out); have G5 := hid (show V1.heap.size ≤ w4.heap.size from S4.out); clear Bx; generalize ((w4.alloc (.cells (ubs m).toArray 25)).setRow w4.heap.size (ubs q).toArray) = w5 at R5 X5 N5 G5 ⊢; generalize w4.heap.size = G15 at R5 X5 N5 G5 ⊢))
          have S15 := hid (show ¬ S1 G15 from fun h => by have h1 := HSM.out _ h; have h2 := G5.out; omega)
          have W15 := hid (show w.heap.size < G15 from Nat.lt_of_lt_of_le HGM.out G5.out)
          have F5 := hid (fun g o (e : A2 = some ⟨g, o, none⟩) => show ¬ S1 g from fun h => by have h1 := HSM.out _ h; have h2 := F3.out g o e; omega)
          clear HSO HRT HY HU HM HW X3 X4 N3 N4 S3 S4 F3
          have hz1 : s ≠ [] := fun e => HZ.out (HSE.out.symm.trans e)
          have z1 : 0 < ns := by rw [HNS.out.1]; exact List.length_pos_iff.2 hz1
          have dz : decide ((0 : Int) < (ns : Int)) = true := by simp; omega
          have dzn : decide (0 < ns) = true := by simp; omega
          obtain ⟨hrg, hpw, hlt9, hlw⟩ := lead_write2 HL.out.2.1 HKW.out.2.1 HIL.out.2 HSS.out HNS.out.1 HNS.out.2 hz1
          rw [← HQ.out] at hlw
          have HLT := hid hlt9
          have HPW := hid hpw
          obtain ⟨nb, hnb⟩ : ∃ n, n = (spotsS s k 0).length := ⟨_, rfl⟩
          obtain ⟨bs, hbs⟩ : ∃ l, l = besideS L (spotsS s k 0) := ⟨_, rfl⟩
          obtain ⟨ls, hls⟩ : ∃ l, l = leavesS L s := ⟨_, rfl⟩
          rw [← hnb, ← hbs, ← hls] at hlw
          have HLW := hid hlw
          have HBL := hid (show bs.length = 32 * nb ∧ ls.length = 32 * ns from ⟨by rw [hbs, hnb]; exact besideS_length HL.out.2.1.ok _, by rw [hls, HNS.out.1]; exact leavesS_length HL.out.2.1.ok _⟩)
          have HMW := hid (fun (V : World) (x : LdT Pt w O S1 b1 k L V) (r : Nu V V.heap.size A2 s) => show Calls Tryd.prog 52 #[.pointer (some ⟨b1, 0, none⟩), .slice A2 ns c2] V (fun r W' => ∃ Ba ca Bb cb Bc cc, r = .returned (.tuple #[.agg #[.slice Ba ns ca, .slice Bb ns cb, .slice Bc nb cc], .nilIface]) ∧ (Nu W' W'.heap.size Ba s ∧ ns ≤ ca ∧ ∀ g o, Ba = some ⟨g, o, none⟩ → V.heap.size ≤ g) ∧ (Rd W' W'.heap.size Bb (ubs ls) ∧ ns ≤ cb ∧ ∀ g o, Bb = some ⟨g, o, none⟩ → V.heap.size ≤ g) ∧ (Rd W' W'.heap.size Bc (ubs bs) ∧ nb ≤ cc ∧ ∀ g o, Bc = some ⟨g, o, none⟩ → V.heap.size ≤ g) ∧ Below V.heap.size V W') from by
            have h1 := C3.out
            have h2 := HL.out.1
            rw [hnb, hbs, hls, HNS.out.1]
            exact pmakeWrite_new HTT.out.toT9c x.x.bl x.t (by omega) s A2 c2 r (by rw [← HNS.out.1]; exact h1) hrg)
          obtain ⟨Q0, hQ0⟩ : ∃ Q : Array Value, Q = #[.slice none 0 0, .slice none 0 0, .slice none 0 0] := ⟨_, rfl⟩
          have HAW := hid (fun (o : Oper) (a : Go.Act) (W : World) (h : o.op = .alloc 72) => show (execOp a.eval o).run Tryd.prog W = .ok (.value (.pointer (some ⟨W.heap.size, 0, none⟩))) (W.alloc (.cells Q0 72)) from by rw [hQ0]; exact run_alloc_of (o := o) (a := a) (W := W) _ h _ zeroWrite12)
          have HQS := hid (show Q0.size = 3 by rw [hQ0]; rfl)
          have HSW := hid sizeWriteO12
          clear hz1 z1 hrg hpw hlt9 hlw hnb hbs hls hQ0 C3
          go_upto_region 32 with (first
            | (go_at_call 52; refine (HMW.out w5 X5.out N5.out).mono ?_; rintro r6 w6 ⟨Ba, ca, Bb, cb, Bc, cc, rfl, ⟨ha1, ha2, ha3⟩, ⟨hb1, hb2, hb3⟩, ⟨hc1, hc2, hc3⟩, hb6⟩; have X6 := hid (X5.out.new HTT.out.toT9c hb6); have N6 := hid (rd_later12 N5.out hb6); have R6 := hid (show At w6 G15 (ubs q).toArray 25 from R5.out.new_ hb6); have I6 := hid ha1; have J6 := hid hb1; have K6 := hid hc1; have HCP := hid (show ns ≤ ca ∧ ns ≤ cb ∧ nb ≤ cc from ⟨ha2, hb2, hc2⟩); have FA := hid (show ∀ g o, Ba = some ⟨g, o, none⟩ → ¬ S1 g from fun g o e h => absurd (X5.out.lt HTT.out.toT9c g h) (Nat.not_lt.2 (ha3 g o e))); have FB := hid (show ∀ g o, Bb = some ⟨g, o, none⟩ → ¬ S1 g from fun g o e h => absurd (X5.out.lt HTT.out.toT9c g h) (Nat.not_lt.2 (hb3 g o e))); have FC := hid (show ∀ g o, Bc = some ⟨g, o, none⟩ → ¬ S1 g from fun g o e h => absurd (X5.out.lt HTT.out.toT9c g h) (Nat.not_lt.2 (hc3 g o e))); clear ha1 ha2 ha3 hb1 hb2 hb3 hc1 hc2 hc3 hb6)
            | (refine Great.wpList_allocTo rfl _ rfl _ _ (HAW.out _ _ _ rfl) ?_)
            | (refine wpList_store_row rfl _ (.tmp 16) (.tmp 101) rfl w6.heap.size #[.slice Ba ns ca, .slice Bb ns cb, .slice Bc nb cc] rfl rfl 72 Q0 (At.new _ _ _) HSW.out HQS.out (three_one _ _ _ _ _ _ _ _ _) ?_; have Bx := hid (show Below w6.heap.size w6 ((w6.alloc (.cells Q0 72)).setRow w6.heap.size #[.slice Ba ns ca, .slice Bb ns cb, .slice Bc nb cc]) from below_setRow ((Below.refl _ _).alloc (Nat.le_refl _) _) (Nat.le_refl _) _); have W7 := hid (show LdW ((w6.alloc (.cells Q0 72)).setRow w6.heap.size #[.slice Ba ns ca, .slice Bb ns cb, .slice Bc nb cc]) w6.heap.size Ba Bb Bc ns ca cb nb cc s ls bs from ⟨setRow_heap _ _ _ _ _ _ (At.new w6 Q0 72), rd_later12 I6.out Bx.out, rd_later12 J6.out Bx.out, rd_later12 K6.out Bx.out⟩); have X7 := hid (X6.out.new HTT.out.toT9c Bx.out); have N7 := hid (rd_later12 N6.out Bx.out); have R7 := hid (show At ((w6.alloc (.cells Q0 72)).setRow w6.heap.size #[.slice Ba ns ca, .slice Bb ns cb, .slice Bc nb cc]) G15 (ubs q).toArray 25 from R6.out.new_ Bx.out); have S7 := hid (show ¬ S1 w6.heap.size from fun h => absurd (X6.out.lt HTT.out.toT9c _ h) (Nat.lt_irrefl _)); clear Bx; generalize ((w6.alloc (.cells Q0 72)).setRow w6.heap.size #[.slice Ba ns ca, .slice Bb ns cb, .slice Bc nb cc]) = w7 at W7 X7 N7 R7 ⊢; generalize w6.heap.size = GW at W7 S7 ⊢))
          clear HMW HAW HQS HSW X5 R5 N5 X6 N6 R6 I6 J6 K6
          have HW7 := hid (show w.heap.size < w7.heap.size from X7.out.x.g.lt)
          go_loopw [18, 107] (fun v u wr => ∃ (j : Nat) (S9 : Nat → Prop), j ≤ ns ∧ u = .int .i64 (j : Int) ∧ Hid (LdL Pt w O w7 S1 S9 b1 k (setL12 L s j) v j wr)) (fun _ u _ => ns - (intOf u).toNat)
          case atStart => exact ⟨0, S1, by omega, rfl, hid ⟨X7.out, Fr.refl _ _, fun _ _ h => h, Ah.nil _ _, fun _ h => nomatch h⟩⟩
          case round =>
            obtain ⟨j, S9, hj, rfl, HX⟩ := hrel
            obtain ⟨Al, cl, rfl⟩ := HX.out.a.form
            by_cases hlt : j < ns
            · have hd : decide ((j : Int) < (ns : Int)) = true := by simp; omega
              have hjl : j < s.length := by rw [← HNS.out.1]; exact hlt
              obtain ⟨x, hx⟩ : ∃ x, x = s[j] := ⟨_, rfl⟩
              obtain ⟨q9, o9, eA, hq9, hra⟩ := Nu.at (show Nu wr wr.heap.size A2 s from (Rd.fr N7.out HX.out.fr F5.out).mono HX.out.fr.size) hjl
              rw [← hx] at hra
              have hxw : x < was := by rw [hx]; exact HLT.out _ (List.getElem_mem _)
              have hx64 : x < 18446744073709551616 := Nat.lt_trans hxw HWB.out.2.1
              have hnx := setL12_next L s j hjl
              rw [← hx] at hnx
              have hld : (setL12 L s j).length ≤ 1000 := by
                have h1 := setL12_le L s j (Nat.le_of_lt hjl)
                have h2 := HL.out.1
                have h3 := HNS.out.2
                omega
              obtain ⟨j1, hj1⟩ : ∃ m, m = j + 1 := ⟨_, rfl⟩
              rw [← hj1] at hnx
              have HJL := hid (show j1 ≤ ns by omega)
              have HMS := hid (show ns - j1 < ns - j by omega)
              have hj20 : j < 20 := by have := HNS.out.2; omega
              obtain ⟨y, hy⟩ : ∃ y, y = wv12 j := ⟨_, rfl⟩
              rw [← hy] at hnx
              have HYL := hid (show y.length = 32 by rw [hy]; exact wv12_length j)
              have HYE := hid hy
              have HBD := hid (fun (o : Oper) (a : Go.Act) (W : World) (x : Operand) (ho : o.op = .build 25 #[(0, x), (1, .const (.int .u8 1))]) (hx : a.eval x = .int .u8 (j : Int)) => show (execOp a.eval o).run Tryd.prog W = .ok (.value (.agg (ubs y).toArray)) W from by
                rw [hy]
                exact run_build_wv12 x ho (by omega) hx)
              have e2 : (j : Int) + 1 = (j1 : Int) := by omega
              have ew : IntKind.i64.wrap (j1 : Int) = (j1 : Int) := by rw [IntKind.wrap_i64] <;> omega
              have e8 : (j : Int) % 256 = (j : Int) := by omega
              have e8w : IntKind.u8.wrap (j : Int) = (j : Int) := by simp [IntKind.wrap, IntKind.signed, IntKind.bits]; omega
              have ik : (j : Int) < (ns : Int) := by omega
              have em : j + 1 = j1 := hj1.symm
              have HJB := hid (show j ≤ 8589934592 by omega)
              have hhb : hasB k 0 x = true := by have := HKW.out.2.1; unfold hasB; simp; omega
              generalize setL12 L s j = LD at hnx hld HX
              have HST := hid (fun (V : World) (S : Nat → Prop) (p : Pt S V b1 k LD) (q : Below w.heap.size w V) => show Calls Tryd.prog 23 #[.pointer (some ⟨b1, 0, none⟩), .int .u64 (x : Int), .agg (ubs y).toArray] V (fun r W' => r = .returned .nilIface ∧ ∃ S', Pt S' W' b1 k (setT x y LD) ∧ (∀ k, S' k → S k ∨ V.heap.size ≤ k) ∧ Fr S V W') from by
                have := HTT.out.setOk x y q p hld hx64 HYL.out
                rw [hhb] at this
                exact this)
              have HNX := hid hnx
              subst eA
              clear hjl hx hq9 hxw hx64 hnx hld hj1 hj20 hy hhb hlt hj
              go_wp2_with (first
                | (refine wpList_valW (by rfl) (run_loadH (.tmp 21) rfl Q8 0 rfl y (range_whole H9.out) HYL.out) ?_)
                | (refine wpList_valW (by rfl) (run_loadH (.tmp 21) rfl Q8 0 rfl y (range_whole H8.out) HYL.out) ?_)
                | (refine wpList_valW (by rfl) (HBD.out _ _ _ (.tmp 113) rfl rfl) ?_)
                | (refine Great.wpList_allocTo rfl _ rfl _ _ (HAH.out _ _ _ rfl) ?_)
                | (refine wpList_store_row rfl _ (.tmp 21) (.tmp 114) rfl wr.heap.size (ubs y).toArray rfl rfl 25 (ubs m).toArray (At.new _ _ _) (sizeH_of HYL.out) (by simp [ubs_length, HNL.out, HYL.out]) (ubs_all _) ?_; have Bx := hid (show Below wr.heap.size wr ((wr.alloc (.cells (ubs m).toArray 25)).setRow wr.heap.size (ubs y).toArray) from below_setRow ((Below.refl _ _).alloc (Nat.le_refl _) _) (Nat.le_refl _) _); have H8 := hid (show At ((wr.alloc (.cells (ubs m).toArray 25)).setRow wr.heap.size (ubs y).toArray) wr.heap.size (ubs y).toArray 25 from setRow_heap _ _ _ _ _ _ (At.new wr (ubs m).toArray 25)); have X8 := hid (HX.out.new HTT.out.toT9c Bx.out); have AO8 := hid (fun i (e : (Value.slice Al j cl).ownBlock = some i) => show i ≠ wr.heap.size from Nat.ne_of_lt (HX.out.a.lt i e).2); have SZ8 := hid (show w7.heap.size ≤ ((wr.alloc (.cells (ubs m).toArray 25)).setRow wr.heap.size (ubs y).toArray).heap.size from Nat.le_trans HX.out.fr.size Bx.out.size); clear Bx; generalize ((wr.alloc (.cells (ubs m).toArray 25)).setRow wr.heap.size (ubs y).toArray) = w8 at H8 X8 AO8 SZ8 ⊢; generalize wr.heap.size = Q8 at H8 X8 AO8 SZ8 ⊢)
                | (refine wpList_valW (by rfl) (run_buildH (.tmp 116) rfl y HYL.out rfl) ?_)
                | (refine wpList_append_hn (by rfl) (.tmp 115) (.tmp 117) rfl w7.heap.size (.slice Al j cl) j (wvs12 j) rfl (X8.out.a.kept ((Below.refl _ _).alloc (Nat.le_refl _) _)) w8.heap.size y rfl (At.new _ _ _) HYL.out HJB.out (Nat.le_trans SZ8.out (by simp)) ?_; intro A9 c9 w9 h9 g9 k9; have X9 := hid (show LdL Pt w O w7 S1 S9 b1 k LD (.slice A9 j1 c9) j1 w9 from by (rw [← em]; rw [HYE.out] at h9; exact LdL.push HTT.out.toT9c HW7.out (X8.out.new HTT.out.toT9c ((Below.refl _ _).alloc (Nat.le_refl _) _)) h9 g9 k9)); have H9 := hid (show At w9 Q8 (ubs y).toArray 25 from At.grown (H8.out.alloc _) g9 (fun e => AO8.out Q8 e rfl)); clear h9 g9 k9)
                | (go_at_call 23; refine (HST.out w9 S9 X9.out.t.t X9.out.t.x.bl).mono ?_; rintro r10 w10 ⟨rfl, S10, p10, f10, fr10⟩; have X10 := hid (X9.out.set p10 f10 fr10); clear p10 f10 fr10))
              go_roundw
              case rel => exact ⟨j1, S10, HJL.out, rfl, by rw [HNX.out]; exact X10⟩
              case measure =>
                show ns - ((j1 : Int)).toNat < ns - (j : Int).toNat
                rw [Int.toNat_natCast, Int.toNat_natCast]
                exact HMS.out
            · obtain rfl : j = ns := by omega
              have hd : decide ((j : Int) < (j : Int)) = false := by simp
              obtain ⟨M, hM⟩ : ∃ M, M = setL12 L s j := ⟨_, rfl⟩
              rw [← hM] at HX
              have hlw := HLW.out
              rw [← hM] at hlw
              obtain ⟨q2, hq2⟩ : ∃ q, q = nodeS k 0 M := ⟨_, rfl⟩
              rw [← hq2] at hlw
              have HM3 := hid (show M.length ≤ 1000 ∧ Gd k M ∧ ∀ p ∈ M, p.1 < was from by
                have h1 := setL12_le L s j (by rw [HNS.out.1]; exact Nat.le_refl _)
                have h2 := HL.out.1
                have h3 := HNS.out.2
                have h4 := setL12_good HL.out.2.1 HKW.out.2.1 HLT.out HL.out.2.2 j (by rw [HNS.out.1]; exact Nat.le_refl _)
                rw [← hM] at h1 h4
                exact ⟨by omega, h4.1, h4.2⟩)
              have HQ2 := hid hq2
              have HQ2L := hid (show q2.length = 32 by rw [hq2]; exact nodeS_length k 0 M HM3.out.2.1.ok)
              have X9 := hid (show LdT Pt w O S9 b1 k M wr from HX.out.t)
              have W9 := hid (W7.out.fr HX.out.fr S7.out FA.out FB.out FC.out)
              have R9 := hid (show At wr G15 (ubs q).toArray 25 from R7.out.fr HX.out.fr S15.out)
              have L9 := hid (show Rd wr wr.heap.size Al (ubs (wvs12 j)) ∧ j ≤ cl from ⟨HX.out.a.rd, HX.out.a.cap⟩)
              have S10 := hid (show ¬ S9 G15 from fun h => S15.out (HX.out.ne G15 R7.out.lt h))
              have HWA := hid (fun (V : World) (b : Below w.heap.size w V) (x : LdW V GW Ba Bb Bc j ca cb nb cc s ls bs) (r : Rd V V.heap.size Al (ubs (wvs12 j))) => show Calls Tryd.prog 42 #[.agg #[.slice Ba j ca, .slice Bb j cb, .slice Bc nb cc], .agg (ubs q).toArray, .int .i64 (k : Int), .slice Al j cl] V (fun r W' => r = .returned (.tuple #[.agg (ubs q2).toArray, .nilIface]) ∧ Below V.heap.size V W') from by
                have h0 := HNS.out.1
                obtain ⟨c1, c2, c3⟩ := HCP.out
                have := pwriteAfter_any q HQL.out (k : Int) s ls bs (wvs12 j) Ba Bb Bc Al ca j cb nb cc j cl V x.i (by rw [← h0]; exact c1) x.o x.b r c2 c3 L9.out.2 HBL.out.2 HBL.out.1 (wvs12_length j) (HTB.out V b)
                rw [hlw.1, hlw.2, ← h0] at this
                exact this)
              have HRT := hid (fun (V : World) (x : LdT Pt w O S9 b1 k M V) => show Calls Tryd.prog 24 #[.pointer (some ⟨b1, 0, none⟩)] V (fun r W' => r = .returned (.agg (ubs q2).toArray) ∧ Below V.heap.size V W') from by
                rw [hq2]
                exact HTT.out.rootOk x.x.bl x.t HM3.out.1)
              clear hM hlw hq2 hlt hj HX X7 W7 R7 N7 HLW
              go_upto_region 40 with (first
                | (refine wpList_valW (by rfl) (run_loadW12 (.tmp 16) rfl GW rfl [.slice Ba j ca, .slice Bb j cb, .slice Bc nb cc] W9.out.g rfl) ?_)
                | (refine wpList_valW (by rfl) (run_loadH (.tmp 15) rfl G15 0 rfl q (range_whole R9.out) HQL.out) ?_)
                | (go_at_call 42; refine (HWA.out wr X9.out.x.bl W9.out L9.out.1).mono ?_; rintro r10 w10 ⟨rfl, hb10⟩; have X10 := hid (X9.out.new HTT.out.toT9c hb10); have R10 := hid (show At w10 G15 (ubs q).toArray 25 from R9.out.new_ hb10); clear hb10)
                | (refine wpList_store_row rfl _ (.tmp 15) (.tmp 131) rfl G15 (ubs q2).toArray rfl rfl 25 (ubs q).toArray R10.out (sizeH_of HQ2L.out) (by simp [ubs_length, HQL.out, HQ2L.out]) (ubs_all _) ?_; have E11 := hid (show LdF Pt w O S9 b1 k M G15 q2 (w10.setRow G15 (ubs q2).toArray) from ⟨X10.out.put HTT.out.toT9c W15.out S10.out _, setRow_heap _ _ _ _ _ _ R10.out⟩); generalize (w10.setRow G15 (ubs q2).toArray) = w11 at E11 ⊢))
              try simp only [Act.put, List.setIfInBounds_toArray, List.set_cons_succ, List.set_cons_zero]
              refine wp_region_facts 8 8 [133, 134, 135, 136, 137, 138, 139, 140] (fun j v9 _ => v9 = lw12 q2 b1 j) (LdF Pt w O S9 b1 k M G15 q2) (by kernel_rfl) (by kernel_rfl)
                (fun V V' h hb => h.new HTT.out.toT9c hb) (fun _ _ _ _ h _ => h) (E11.out.new HTT.out.toT9c (Below.refl _ _).drew) ?_ ?_
              · intro j hj vals W1 K hB hn hK
                simp only [frm_cons, frm_nil, List.set_cons_succ, List.set_cons_zero, Nat.reduceAdd] at hK ⊢
                rcases (by omega : j = 0 ∨ j = 1 ∨ j = 2 ∨ j = 3 ∨ j = 4 ∨ j = 5 ∨ j = 6 ∨ j = 7) with rfl | rfl | rfl | rfl | rfl | rfl | rfl | rfl
                · refine wpOp_plain rfl rfl (wp_val (w' := W1) (v := .nilIface) (by go_simp) ?_)
                  exact hK _ _ rfl (Below.refl _ _)
                · have h0 := hn 0 (by decide +kernel)
                  simp only [lw12] at h0
                  simp only [h0] at hK ⊢
                  refine wpOp_plain rfl rfl (wp_val (w' := W1) (v := .bool false) (by go_simp) ?_)
                  exact hK _ _ rfl (Below.refl _ _)
                · have h1 := hn 1 (by decide +kernel)
                  simp only [lw12] at h1
                  simp only [h1] at hK ⊢
                  refine wpOp_plain rfl rfl (wp_val (w' := W1) (v := .bool false) (by go_simp) ?_)
                  exact hK _ _ rfl (Below.refl _ _)
                · have h2 := hn 2 (by decide +kernel)
                  simp only [lw12] at h2
                  simp only [h2] at hK ⊢
                  refine wpOp_on rfl (by rfl) (wp_val (run_loadH (.tmp 15) rfl G15 0 rfl q2 (range_whole hB.g) HQ2L.out) ?_)
                  exact hK _ _ rfl (Below.refl _ _)
                · have h2 := hn 2 (by decide +kernel)
                  simp only [lw12] at h2
                  simp only [h2] at hK ⊢
                  refine wpOp_on rfl (by rfl) (wp_val (w' := W1) (v := .pointer (some ⟨b1, 0, none⟩)) (by go_simp) ?_)
                  exact hK _ _ rfl (Below.refl _ _)
                · have h2 := hn 2 (by decide +kernel)
                  have h4 := hn 4 (by decide +kernel)
                  simp only [lw12] at h2 h4
                  simp only [h2, h4] at hK ⊢
                  refine wpOp_on rfl (by rfl) ?_
                  go_simp
                  go_at_call 24
                  refine (HRT.out W1 hB.x).mono ?_
                  rintro e W' ⟨rfl, hb⟩
                  exact hK _ _ rfl hb
                · have h2 := hn 2 (by decide +kernel)
                  have h3 := hn 3 (by decide +kernel)
                  have h5 := hn 5 (by decide +kernel)
                  simp only [lw12] at h2 h3 h5
                  simp only [h2, h3, h5] at hK ⊢
                  refine wpOp_on rfl (by rfl) (wp_val (run_neqH _ (.tmp 136) (.tmp 138) rfl q2 q2 HQ2L.out HQ2L.out rfl rfl false (by simp) W1) ?_)
                  exact hK _ _ rfl (Below.refl _ _)
                · have h2 := hn 2 (by decide +kernel)
                  have h6 := hn 6 (by decide +kernel)
                  simp only [lw12] at h2 h6
                  simp only [h2, h6] at hK ⊢
                  refine wpOp_plain rfl rfl (wp_val (w' := W1) (v := .bool false) (by go_simp) ?_)
                  exact hK _ _ rfl (Below.refl _ _)
              · intro vals wz hB hF
                have h7 := hF 7 (by omega)
                simp only [lw12] at h7
                simp only [frm_cons, frm_nil, List.set_cons_succ, List.set_cons_zero, Nat.reduceAdd, h7]
                refine wpUpto_done (by decide +kernel) ?_ _
                have XZ := hid hB.x
                have RZ := hid hB.g
                clear hB hF h7
                go_simp
                have hle := lead_grow (L := M) HWB.out.1 HE.out.1 HE.out.2 HM3.out.2.2
                rw [← HKW.out.1, ← HQ2.out] at hle
                obtain ⟨N, hN⟩ : ∃ N, N = cutS blocks M := ⟨_, rfl⟩
                obtain ⟨n2, hn2⟩ : ∃ n, n = highN blocks := ⟨_, rfl⟩
                rw [← hN, ← hn2] at hle
                obtain ⟨z, hz⟩ : ∃ z, z = nodeS n2 0 N := ⟨_, rfl⟩
                rw [← hz] at hle
                have hNl : N.length ≤ 1000 := by
                  rw [hN]
                  unfold cutS
                  exact Nat.le_trans (List.length_filter_le _ _) HM3.out.1
                have HZL := hid (show z.length = 32 by rw [hz, hN]; exact nodeS_length _ _ _ (HM3.out.2.1.ok.cutS blocks))
                have HRZ := hid (fun (V : World) (x : LdT Pt w O S9 b1 k M V) => show Calls Tryd.prog 55 #[.pointer (some ⟨b1, 0, none⟩), .int .u64 (blocks : Int)] V (fun r W' => ∃ S' b', r = .returned (.tuple #[.pointer (some ⟨b', 0, none⟩), .nilIface]) ∧ Pt S' W' b' n2 N ∧ Below V.heap.size V W') from by
                  rw [hn2, hN]
                  exact (HTT.out.sizeOk blocks x.x.bl x.t HM3.out.1 HE.out.1 HWB.out.2.2).mono fun r W' ⟨S', b', h1, h2, _, h4⟩ => ⟨S', b', h1, h2, h4⟩)
                have HR2 := hid (fun (V : World) (S : Nat → Prop) (b : Nat) (x : Pt S V b n2 N) (q : Below w.heap.size w V) => show Calls Tryd.prog 24 #[.pointer (some ⟨b, 0, none⟩)] V (fun r W' => r = .returned (.agg (ubs z).toArray) ∧ Below V.heap.size V W') from by
                  rw [hz]
                  exact HTT.out.rootOk q x hNl)
                have HGR := hid (fun (V : World) (b : Below w.heap.size w V) => show Calls Tryd.prog 50 #[.agg (ubs q2).toArray, .int .u64 (was : Int), .int .u64 (blocks : Int)] V (fun r W' => r = .returned (.tuple #[.agg (ubs z).toArray, .nilIface]) ∧ Below V.heap.size V W') from by
                  have := pgrow12_any q2 was blocks V HQ2L.out HWB.out.2.1 HWB.out.2.2 (HTB.out V b)
                  rw [hle.1, hle.2] at this
                  exact this)
                clear hle hN hn2 hz hNl
                go_upto_region 45 with (first
                  | (go_at_call 55; refine (HRZ.out wz XZ.out).mono ?_; rintro r20 w20 ⟨S20, b20, rfl, p20, hb20⟩; have X20 := hid (XZ.out.new HTT.out.toT9c hb20); have R20 := hid (show At w20 G15 (ubs q2).toArray 25 from RZ.out.new_ hb20); have P20 := hid p20; clear p20 hb20))
                go_upto_region 47 with (first
                  | (refine wpList_valW (by rfl) (run_loadH (.tmp 15) rfl G15 0 rfl q2 (range_whole R20.out) HQ2L.out) ?_)
                  | (go_at_call 50; refine (HGR.out w20 X20.out.x.bl).mono ?_; rintro r21 w21 ⟨rfl, hb21⟩; have X21 := hid (X20.out.new HTT.out.toT9c hb21); have P21 := hid (HTT.out.toT9c.new P20.out hb21); clear hb21)
                  | (refine Great.wpList_allocTo rfl _ rfl _ _ (HAH.out _ _ _ rfl) ?_)
                  | (refine wpList_store_row rfl _ (.tmp 23) (.tmp 159) rfl w21.heap.size (ubs z).toArray rfl rfl 25 (ubs m).toArray (At.new _ _ _) (sizeH_of HZL.out) (by simp [ubs_length, HNL.out, HZL.out]) (ubs_all _) ?_; have Bx := hid (show Below w21.heap.size w21 ((w21.alloc (.cells (ubs m).toArray 25)).setRow w21.heap.size (ubs z).toArray) from below_setRow ((Below.refl _ _).alloc (Nat.le_refl _) _) (Nat.le_refl _) _); have Z22 := hid (show At ((w21.alloc (.cells (ubs m).toArray 25)).setRow w21.heap.size (ubs z).toArray) w21.heap.size (ubs z).toArray 25 from setRow_heap _ _ _ _ _ _ (At.new w21 (ubs m).toArray 25)); have E22 := hid (show LdE Pt w S20 b20 n2 N w21.heap.size z ((w21.alloc (.cells (ubs m).toArray 25)).setRow w21.heap.size (ubs z).toArray) from ⟨(X21.out.new HTT.out.toT9c Bx.out).x.bl, HTT.out.toT9c.new P21.out Bx.out, Z22.out⟩); clear Bx; generalize ((w21.alloc (.cells (ubs m).toArray 25)).setRow w21.heap.size (ubs z).toArray) = w22 at Z22 E22 ⊢; generalize w21.heap.size = G23 at Z22 E22 ⊢))
                try simp only [Act.put, List.setIfInBounds_toArray, List.set_cons_succ, List.set_cons_zero]
                refine wp_region_facts 9 9 [161, 162, 163, 164, 165, 166, 167, 168, 6] (fun j v9 _ => v9 = le12 z b20 j) (LdE Pt w S20 b20 n2 N G23 z) (by kernel_rfl) (by kernel_rfl)
                  (fun V V' h hb => h.new HTT.out.toT9c hb) (fun _ _ _ _ h _ => h) (E22.out.new HTT.out.toT9c (Below.refl _ _).drew) ?_ ?_
                · intro j hj vals W1 K hB hn hK
                  simp only [frm_cons, frm_nil, List.set_cons_succ, List.set_cons_zero, Nat.reduceAdd] at hK ⊢
                  rcases (by omega : j = 0 ∨ j = 1 ∨ j = 2 ∨ j = 3 ∨ j = 4 ∨ j = 5 ∨ j = 6 ∨ j = 7 ∨ j = 8) with rfl | rfl | rfl | rfl | rfl | rfl | rfl | rfl | rfl
                  · refine wpOp_plain rfl rfl (wp_val (w' := W1) (v := .nilIface) (by go_simp) ?_)
                    exact hK _ _ rfl (Below.refl _ _)
                  · have h0 := hn 0 (by decide +kernel)
                    simp only [le12] at h0
                    simp only [h0] at hK ⊢
                    refine wpOp_plain rfl rfl (wp_val (w' := W1) (v := .bool true) (by go_simp) ?_)
                    exact hK _ _ rfl (Below.refl _ _)
                  · have h1 := hn 1 (by decide +kernel)
                    simp only [le12] at h1
                    simp only [h1] at hK ⊢
                    refine wpOp_plain rfl rfl (wp_val (w' := W1) (v := .bool true) (by go_simp) ?_)
                    exact hK _ _ rfl (Below.refl _ _)
                  · have h2 := hn 2 (by decide +kernel)
                    simp only [le12] at h2
                    simp only [h2] at hK ⊢
                    refine wpOp_on rfl (by rfl) (wp_val (run_loadH (.tmp 23) rfl G23 0 rfl z (range_whole hB.g) HZL.out) ?_)
                    exact hK _ _ rfl (Below.refl _ _)
                  · have h2 := hn 2 (by decide +kernel)
                    simp only [le12] at h2
                    simp only [h2] at hK ⊢
                    refine wpOp_on rfl (by rfl) (wp_val (w' := W1) (v := .pointer (some ⟨b20, 0, none⟩)) (by go_simp) ?_)
                    exact hK _ _ rfl (Below.refl _ _)
                  · have h2 := hn 2 (by decide +kernel)
                    have h4 := hn 4 (by decide +kernel)
                    simp only [le12] at h2 h4
                    simp only [h2, h4] at hK ⊢
                    refine wpOp_on rfl (by rfl) ?_
                    go_simp
                    go_at_call 24
                    refine (HR2.out W1 S20 b20 hB.p hB.bl).mono ?_
                    rintro e W' ⟨rfl, hb⟩
                    exact hK _ _ rfl hb
                  · have h2 := hn 2 (by decide +kernel)
                    have h3 := hn 3 (by decide +kernel)
                    have h5 := hn 5 (by decide +kernel)
                    simp only [le12] at h2 h3 h5
                    simp only [h2, h3, h5] at hK ⊢
                    refine wpOp_on rfl (by rfl) (wp_val (run_eqlH _ (.tmp 164) (.tmp 166) rfl z z HZL.out HZL.out rfl rfl true (by simp) W1) ?_)
                    exact hK _ _ rfl (Below.refl _ _)
                  · have h2 := hn 2 (by decide +kernel)
                    have h6 := hn 6 (by decide +kernel)
                    simp only [le12] at h2 h6
                    simp only [h2, h6] at hK ⊢
                    refine wpOp_plain rfl rfl (wp_val (w' := W1) (v := .bool true) (by go_simp) ?_)
                    exact hK _ _ rfl (Below.refl _ _)
                  · have h7 := hn 7 (by decide +kernel)
                    simp only [le12] at h7
                    simp only [h7] at hK ⊢
                    refine wpOp_plain rfl rfl (wp_val (w' := W1) (v := .bool true) (by go_simp) ?_)
                    exact hK _ _ rfl (Below.refl _ _)
                · intro vals W1 hB hF
                  have h8 := hF 8 (by omega)
                  simp only [le12] at h8
                  simp only [frm_cons, frm_nil, List.set_cons_succ, List.set_cons_zero, Nat.reduceAdd, h8]
                  refine wpUpto_done (by decide +kernel) ?_ _
                  have NX := hid hB.bl
                  clear hB hF h8
                  go_simp
                  go_wp2
                  go_ret
                  exact ⟨rfl, NX.out⟩
end Go.Proofs.YtdegmcfcbndelaaDoor
