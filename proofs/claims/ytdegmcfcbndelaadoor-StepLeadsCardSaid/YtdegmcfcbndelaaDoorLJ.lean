/-
  Layer 12: StepLeads: scripts that are too long, and no height.
  Layer 12: StepLeads, one of its ways.
  Layer 12: StepLeads, one of its ways.
-/
import Derived.Test.YtdegmcfcbndelaaDoorLI
namespace Go.Proofs.YtdegmcfcbndelaaDoor
open Go.RowKit

set_option maxRecDepth 100000 in
set_option maxHeartbeats 8000000 in
theorem stepLeads_long {w : World} (HALV : Alive12C w) (was blocks : Nat) (l0 l1 : List Act9) (A0 A1 : Option Addr) (c0 c1 : Nat) (hq : 20 < l0.length ∨ 20 < l1.length) :
    Calls Tryd.prog 11 #[.int .u64 (was : Int), .agg #[.slice A0 l0.length c0, .slice A1 l1.length c1], .int .u64 (blocks : Int)] w fun r w' => r = .returned (.bool true) ∧ Below w.heap.size w w' := by
  obtain ⟨n0, hn0⟩ : ∃ n, n = l0.length := ⟨_, rfl⟩
  obtain ⟨n1, hn1⟩ : ∃ n, n = l1.length := ⟨_, rfl⟩
  rw [← hn0, ← hn1]
  obtain ⟨O, hO⟩ : ∃ O : Array Value, O = #[.slice A0 n0 c0, .slice A1 n1 c1] := ⟨_, rfl⟩
  have K0 := hid (LdB.start (w := w) (O := O))
  have HOC := hid (fun (V : World) (x : LdB w O V) => show V.cell? ⟨w.heap.size, 0, none⟩ = some (.slice A0 n0 c0) ∧ V.cell? ⟨w.heap.size, 1, none⟩ = some (.slice A1 n1 c1) from by
    rw [x.g.cell, x.g.cell, hO]
    exact ⟨rfl, rfl⟩)
  have HAL := hid (fun (V : World) (b : Below w.heap.size w V) => HALV V b)
  rw [← hO]
  by_cases q : 20 < n0
  · have d0 : decide ((20 : Int) < (n0 : Int)) = true := by simp; omega
    have d0n : decide (20 < n0) = true := by simp; omega
    clear hn0 hn1 hO hq q HALV
    go_enter Tryd.func11, Tryd.ntmps11
    go_wp2_with (first
      | (generalize (w.alloc (.cells O 97)) = w0 at K0 ⊢; go_at_call 40; refine (HAL.out w0 K0.out.bl).mono ?_; rintro r1 w1 ⟨rfl, hb1⟩; have K1 := hid (K0.out.new hb1); clear hb1; obtain ⟨q0, q1⟩ := HOC.out _ K1.out))
    go_ret
    exact ⟨rfl, K1.out.bl⟩
  have d0 : decide ((20 : Int) < (n0 : Int)) = false := by simp; omega
  have d0n : decide (20 < n0) = false := by simp; omega
  have d1 : decide ((20 : Int) < (n1 : Int)) = true := by simp; omega
  have d1n : decide (20 < n1) = true := by simp; omega
  clear hn0 hn1 hO hq q HALV
  go_enter Tryd.func11, Tryd.ntmps11
  go_wp2_with (first
    | (generalize (w.alloc (.cells O 97)) = w0 at K0 ⊢; go_at_call 40; refine (HAL.out w0 K0.out.bl).mono ?_; rintro r1 w1 ⟨rfl, hb1⟩; have K1 := hid (K0.out.new hb1); clear hb1; obtain ⟨q0, q1⟩ := HOC.out _ K1.out))
  go_ret
  exact ⟨rfl, K1.out.bl⟩
set_option maxRecDepth 100000 in
set_option maxHeartbeats 8000000 in
theorem stepLeads_none {Pt : PtT} {w : World} (t : T12 Pt w) (HALV : Alive12C w) (was blocks : Nat) (l0 l1 : List Act9) (A0 A1 : Option Addr) (c0 c1 : Nat) (hwl : was < 18446744073709551616) (hq0 : ¬ 20 < l0.length) (hq1 : ¬ 20 < l1.length) (hg : highOk was = false) :
    Calls Tryd.prog 11 #[.int .u64 (was : Int), .agg #[.slice A0 l0.length c0, .slice A1 l1.length c1], .int .u64 (blocks : Int)] w fun r w' => r = .returned (.bool true) ∧ Below w.heap.size w w' := by
  obtain ⟨n0, hn0⟩ : ∃ n, n = l0.length := ⟨_, rfl⟩
  obtain ⟨n1, hn1⟩ : ∃ n, n = l1.length := ⟨_, rfl⟩
  rw [← hn0, ← hn1]
  obtain ⟨O, hO⟩ : ∃ O : Array Value, O = #[.slice A0 n0 c0, .slice A1 n1 c1] := ⟨_, rfl⟩
  have K0 := hid (LdB.start (w := w) (O := O))
  have HOC := hid (fun (V : World) (x : LdB w O V) => show V.cell? ⟨w.heap.size, 0, none⟩ = some (.slice A0 n0 c0) ∧ V.cell? ⟨w.heap.size, 1, none⟩ = some (.slice A1 n1 c1) from by
    rw [x.g.cell, x.g.cell, hO]
    exact ⟨rfl, rfl⟩)
  have HAL := hid (fun (V : World) (b : Below w.heap.size w V) => HALV V b)
  rw [← hO]
  have d0 : decide ((20 : Int) < (n0 : Int)) = false := by simp; omega
  have d0n : decide (20 < n0) = false := by simp; omega
  have d1 : decide ((20 : Int) < (n1 : Int)) = false := by simp; omega
  have d1n : decide (20 < n1) = false := by simp; omega
  have HHT := hid (fun (V : World) => show Calls Tryd.prog 54 #[.int .u64 (was : Int)] V (fun r W' => r = .returned (.tuple #[.int .i64 0, (.iface 42 (.int .i64 1))]) ∧ W' = V) from by
    have := t.heightN V was hwl
    rw [hg, if_neg (by simp)] at this
    exact this)
  clear hn0 hn1 hO hq0 hq1 HALV t hwl hg
  go_enter Tryd.func11, Tryd.ntmps11
  go_wp2_with (first
    | (generalize (w.alloc (.cells O 97)) = w0 at K0 ⊢; go_at_call 40; refine (HAL.out w0 K0.out.bl).mono ?_; rintro r1 w1 ⟨rfl, hb1⟩; have K1 := hid (K0.out.new hb1); clear hb1; obtain ⟨q0, q1⟩ := HOC.out _ K1.out)
    | (go_at_call 54; refine (HHT.out _).mono ?_; rintro r2 w2 ⟨rfl, hw⟩; rw [hw]; clear hw))
  go_ret
  exact ⟨rfl, K1.out.bl⟩
end Go.Proofs.YtdegmcfcbndelaaDoor

namespace Go.Proofs.YtdegmcfcbndelaaDoor
open Go.RowKit

set_option maxRecDepth 100000 in
set_option maxHeartbeats 8000000 in
theorem stepLeads_ne {Pt : PtT} {w : World} (t : T12 Pt w) (HALV : Alive12C w) (was blocks : Nat) (l0 l1 : List Act9) (A0 A1 : Option Addr) (c0 c1 : Nat) (hwl : was < 18446744073709551616) (hbl : blocks < 18446744073709551616) (h0 : Av w w.heap.size A0 l0) (h1 : Av w w.heap.size A1 l1) (o0 : okA l0) (o1 : okA l1) (hT : Tabs w) (hq0 : ¬ 20 < l0.length) (hq1 : ¬ 20 < l1.length) (hg : highOk was = true) (hz : sortS (idxW was l1) = []) (he : highOk blocks = false) :
    Calls Tryd.prog 11 #[.int .u64 (was : Int), .agg #[.slice A0 l0.length c0, .slice A1 l1.length c1], .int .u64 (blocks : Int)] w fun r w' => r = .returned (.bool true) ∧ Below w.heap.size w w' := by
  obtain ⟨n0, hn0⟩ : ∃ n, n = l0.length := ⟨_, rfl⟩
  obtain ⟨n1, hn1⟩ : ∃ n, n = l1.length := ⟨_, rfl⟩
  rw [← hn0, ← hn1]
  obtain ⟨O, hO⟩ : ∃ O : Array Value, O = #[.slice A0 n0 c0, .slice A1 n1 c1] := ⟨_, rfl⟩
  have K0 := hid (LdB.start (w := w) (O := O))
  have HOC := hid (fun (V : World) (x : LdB w O V) => show V.cell? ⟨w.heap.size, 0, none⟩ = some (.slice A0 n0 c0) ∧ V.cell? ⟨w.heap.size, 1, none⟩ = some (.slice A1 n1 c1) from by
    rw [x.g.cell, x.g.cell, hO]
    exact ⟨rfl, rfl⟩)
  have HAL := hid (fun (V : World) (b : Below w.heap.size w V) => HALV V b)
  rw [← hO]
  have d0 : decide ((20 : Int) < (n0 : Int)) = false := by simp; omega
  have d0n : decide (20 < n0) = false := by simp; omega
  have d1 : decide ((20 : Int) < (n1 : Int)) = false := by simp; omega
  have d1n : decide (20 < n1) = false := by simp; omega
  obtain ⟨k, hk⟩ : ∃ k, k = highN was := ⟨_, rfl⟩
  have hwb : 1 ≤ was ∧ was ≤ 4294967296 := by unfold highOk at hg; simp at hg; omega
  obtain ⟨hs1, hk32, -⟩ := highN_spec (b := was) hwb.2
  rw [← hk] at hs1 hk32
  have HTT := hid t
  have HHT := hid (fun (V : World) => show Calls Tryd.prog 54 #[.int .u64 (was : Int)] V (fun r W' => r = .returned (.tuple #[.int .i64 (k : Int), .nilIface]) ∧ W' = V) from by
    have := t.heightN V was hwl
    rw [hg, if_pos rfl, ← hk] at this
    exact this)
  have HNW := hid (fun (V : World) (q : Below w.heap.size w V) => show Calls Tryd.prog 22 #[.int .i64 (k : Int)] V (fun r W' => ∃ S b, r = .returned (.tuple #[.pointer (some ⟨b, 0, none⟩), .nilIface]) ∧ Pt S W' b k [] ∧ (∀ j, S j → V.heap.size ≤ j) ∧ Below V.heap.size V W') from t.newOk V k q hk32)
  have HS0 := hid (fun (V : World) (q : Below w.heap.size w V) => (show Av V w.heap.size A0 l0 from h0.below q))
  have HS1 := hid (fun (V : World) (q : Below w.heap.size w V) => (show Av V w.heap.size A1 l1 from h1.below q))
  have HO0 := hid o0
  have HO1 := hid o1
  have HL0 := hid (show n0 ≤ 20 ∧ n0 = l0.length from ⟨by omega, hn0⟩)
  have HL1 := hid (show n1 ≤ 20 ∧ n1 = l1.length from ⟨by omega, hn1⟩)
  have HGD := hid (fun j hj => setsW_good (l := l0) hk32 hs1 o0 j hj)
  have HLE := hid (fun j hj => setsW_le was l0 j hj)
  have HKW := hid (show k = highN was ∧ was ≤ 2 ^ k ∧ k ≤ 32 from ⟨hk, hs1, hk32⟩)
  have HWB := hid (show highOk was = true ∧ was < 18446744073709551616 ∧ blocks < 18446744073709551616 from ⟨hg, hwl, hbl⟩)
  have HAA := hid (fun (o : Oper) (a : Go.Act) (W : World) (h : o.op = .alloc 27) => run_alloc_of (o := o) (a := a) (W := W) _ h _ zeroAc)
  obtain ⟨m, hm⟩ : ∃ m, m = n32 := ⟨_, rfl⟩
  have HAH := hid (fun (o : Oper) (a : Go.Act) (W : World) (h : o.op = .alloc 25) => run_alloc_of (o := o) (a := a) (W := W) _ h _ zeroH8)
  have HNL := hid (show m.length = 32 by rw [hm]; exact n32_length)
  rw [← hm] at HAH
  have HTB := hid (fun (V : World) (q : Below w.heap.size w V) => hT.below q)
  have HZ := hid hz
  clear hn0 hn1 hO hq0 hq1 HALV t hwl hbl hg h0 h1 o0 o1 hT hk hwb hs1 hk32 hm
  clear hz
  have HE := hid he
  clear he
  go_enter Tryd.func11, Tryd.ntmps11
  go_upto_region 12 with (first
    | (generalize (w.alloc (.cells O 97)) = w0 at K0 ⊢; go_at_call 40; refine (HAL.out w0 K0.out.bl).mono ?_; rintro r1 w1 ⟨rfl, hb1⟩; have K1 := hid (K0.out.new hb1); clear hb1; obtain ⟨q0, q1⟩ := HOC.out _ K1.out)
    | (go_at_call 54; refine (HHT.out w1).mono ?_; rintro r2 w2 ⟨rfl, hw⟩; rw [hw]; clear hw)
    | (go_at_call 22; refine (HNW.out w1 K1.out.bl).mono ?_; rintro r3 w3 ⟨S1, b1, rfl, p3, f3, hb3⟩; have X3 := hid (show LdT Pt w O S1 b1 k [] w3 from ⟨p3, fun j hj => Nat.lt_of_lt_of_le K1.out.g.lt (f3 j hj), K1.out.new hb3⟩); clear p3 f3 hb3 q0 q1; obtain ⟨q0, q1⟩ := HOC.out _ X3.out.x))
  go_loopw [58] (fun v wr => ∃ (j : Nat) (S1 : Nat → Prop), j ≤ n0 ∧ v = .int .i64 (j : Int) ∧ Hid (LdT Pt w O S1 b1 k (setsW was (l0.take j)) wr)) (fun v _ => n0 - (intOf v).toNat)
  case atStart => exact ⟨0, S1, by omega, rfl, by rw [setsW_zero]; exact X3⟩
  case round =>
    clear X3 S1 K1 q0 q1
    obtain ⟨j, S1, hj, rfl, HX⟩ := hrel
    by_cases hlt : j < n0
    · have hd : decide ((j : Int) < (n0 : Int)) = true := by simp; omega
      have hjl : j < l0.length := by rw [← HL0.out.2]; exact hlt
      obtain ⟨a, ha⟩ : ∃ a, a = l0[j] := ⟨_, rfl⟩
      obtain ⟨q, o, eA, hq, hra⟩ := (HS0.out wr HX.out.x.bl).act HO0.out hjl
      rw [← ha] at hra
      have hoa : a.1 < 18446744073709551616 ∧ a.2.1.length = 32 := by rw [ha]; exact HO0.out.get hjl
      obtain ⟨x, hx⟩ : ∃ x, x = o + j * 34 := ⟨_, rfl⟩
      have hra' : wr.rangeAt q x (actV a) := by rw [hx, show o + j * 34 = o + 34 * j by omega]; exact hra
      have hnx := setsW_next was l0 j hjl
      rw [← ha] at hnx
      obtain ⟨j1, hj1⟩ : ∃ m, m = j + 1 := ⟨_, rfl⟩
      rw [← hj1] at hnx
      have HJL := hid (show j1 ≤ n0 by omega)
      have HMS := hid (show n0 - j1 < n0 - j by omega)
      have HLD := hid (show (setsW was (l0.take j)).length ≤ 1000 by have := HLE.out j (by omega); have := HL0.out; omega)
      have e2 : (j : Int) + 1 = (j1 : Int) := by omega
      have ew : IntKind.i64.wrap (j1 : Int) = (j1 : Int) := by rw [IntKind.wrap_i64] <;> have := HL0.out <;> omega
      have ik : (j : Int) < (n0 : Int) := by omega
      have e3 : o + j * 34 = x := hx.symm
      generalize setsW was (l0.take j) = LD at hnx HLD HX
      have HRA := hid hra'
      have HAL2 := hid hoa.2
      have HAI := hid hoa.1
      subst eA
      clear hjl ha hq hra hoa hra' hx hj1 hlt hj
      by_cases hb : a.1 < was
      · rw [if_pos hb] at hnx
        have hhb : hasB k 0 a.1 = true := by have := HKW.out.2.1; unfold hasB; simp; omega
        have bw : decide ((a.1 : Int) < (was : Int)) = true := by simp; omega
        have bwn : decide (a.1 < was) = true := by simp; omega
        have HST := hid (fun (V : World) (S : Nat → Prop) (p : Pt S V b1 k LD) (q : Below w.heap.size w V) => show Calls Tryd.prog 23 #[.pointer (some ⟨b1, 0, none⟩), .int .u64 (a.1 : Int), .agg (ubs a.2.1).toArray] V (fun r W' => r = .returned .nilIface ∧ ∃ S', Pt S' W' b1 k (setT a.1 a.2.1 LD) ∧ (∀ k, S' k → S k ∨ V.heap.size ≤ k) ∧ Fr S V W') from by
          have := HTT.out.setOk a.1 a.2.1 q p HLD.out HAI.out HAL2.out
          rw [hhb] at this
          exact this)
        have HNX := hid hnx
        clear hb hnx hhb
        go_wp2_with (first
          | (refine wpList_valW (by rfl) (run_loadAc (.tmp 60) rfl q x rfl a HRA.out HAL2.out) ?_)
          | (refine Great.wpList_allocTo rfl _ rfl _ _ (HAA.out _ _ _ rfl) ?_)
          | (refine wpList_store_row rfl _ (.tmp 11) (.tmp 61) rfl wr.heap.size (actV a).toArray rfl rfl 27 (actV (0, n32, false)).toArray (heap_alloc_new _ _) (sizeAc_of HAL2.out) ?ya1 (actV_one _) ?yb1; rotate_right; have hb8 : Below wr.heap.size wr ((wr.alloc (.cells (actV (0, n32, false)).toArray 27)).setRow wr.heap.size (actV a).toArray) := below_setRow ((Below.refl _ _).alloc (Nat.le_refl _) _) (Nat.le_refl _) _; have A8 := hid (show At ((wr.alloc (.cells (actV (0, n32, false)).toArray 27)).setRow wr.heap.size (actV a).toArray) wr.heap.size (actV a).toArray 27 from setRow_heap _ _ _ _ _ _ (At.new wr _ _)); have X8 := hid (HX.out.new HTT.out.toT9c hb8); have c80 := at_act0 A8.out; clear hb8; generalize ((wr.alloc (.cells (actV (0, n32, false)).toArray 27)).setRow wr.heap.size (actV a).toArray) = w8 at X8 A8 c80 ⊢; generalize wr.heap.size = Q at A8 c80 ⊢)
          | (refine wpList_valW (by rfl) (run_loadH (.tmp 69) rfl Q 1 rfl a.2.1 (at_act1 A8.out) HAL2.out) ?_)
          | (go_at_call 23; refine (HST.out w8 S1 X8.out.t X8.out.x.bl).mono ?_; rintro r9 w9 ⟨rfl, S9, p9, f9, fr9⟩; have X9 := hid (X8.out.set p9 f9 fr9); clear p9 f9 fr9 c80))
        case ya1 => rw [List.size_toArray, List.size_toArray, actV_length HAL2.out, actV_length (a := (0, n32, false)) n32_length]
        go_roundw
        case rel => exact ⟨j1, S9, HJL.out, rfl, by rw [HNX.out]; exact X9⟩
        case measure =>
          show n0 - ((j1 : Int)).toNat < n0 - (j : Int).toNat
          rw [Int.toNat_natCast, Int.toNat_natCast]
          exact HMS.out
      · rw [if_neg hb] at hnx
        have bw : decide ((a.1 : Int) < (was : Int)) = false := by simp; omega
        have bwn : decide (a.1 < was) = false := by simp; omega
        have HNX := hid hnx
        clear hb hnx
        go_wp2_with (first
          | (refine wpList_valW (by rfl) (run_loadAc (.tmp 60) rfl q x rfl a HRA.out HAL2.out) ?_)
          | (refine Great.wpList_allocTo rfl _ rfl _ _ (HAA.out _ _ _ rfl) ?_)
          | (refine wpList_store_row rfl _ (.tmp 11) (.tmp 61) rfl wr.heap.size (actV a).toArray rfl rfl 27 (actV (0, n32, false)).toArray (heap_alloc_new _ _) (sizeAc_of HAL2.out) ?ya2 (actV_one _) ?yb2; rotate_right; have hb8 : Below wr.heap.size wr ((wr.alloc (.cells (actV (0, n32, false)).toArray 27)).setRow wr.heap.size (actV a).toArray) := below_setRow ((Below.refl _ _).alloc (Nat.le_refl _) _) (Nat.le_refl _) _; have A8 := hid (show At ((wr.alloc (.cells (actV (0, n32, false)).toArray 27)).setRow wr.heap.size (actV a).toArray) wr.heap.size (actV a).toArray 27 from setRow_heap _ _ _ _ _ _ (At.new wr _ _)); have X8 := hid (HX.out.new HTT.out.toT9c hb8); have c80 := at_act0 A8.out; clear hb8; generalize ((wr.alloc (.cells (actV (0, n32, false)).toArray 27)).setRow wr.heap.size (actV a).toArray) = w8 at X8 A8 c80 ⊢; generalize wr.heap.size = Q at A8 c80 ⊢))
        case ya2 => rw [List.size_toArray, List.size_toArray, actV_length HAL2.out, actV_length (a := (0, n32, false)) n32_length]
        go_roundw
        case rel => exact ⟨j1, S1, HJL.out, rfl, by rw [HNX.out]; exact X8⟩
        case measure =>
          show n0 - ((j1 : Int)).toNat < n0 - (j : Int).toNat
          rw [Int.toNat_natCast, Int.toNat_natCast]
          exact HMS.out
    · obtain rfl : j = n0 := by omega
      have hd : decide ((j : Int) < (j : Int)) = false := by simp
      have hfull : l0.take j = l0 := List.take_of_length_le (by rw [← HL0.out.2]; exact Nat.le_refl _)
      rw [hfull] at HX
      have HL := hid (show (setsW was l0).length ≤ 20 ∧ (Gd k (setsW was l0)) ∧ ∀ p ∈ setsW was l0, p.1 < was from by
        have h1 := HLE.out l0.length (Nat.le_refl _)
        have h2 := HGD.out l0.length (Nat.le_refl _)
        rw [List.take_length] at h1 h2
        have := HL0.out
        exact ⟨by omega, h2.1, h2.2⟩)
      generalize setsW was l0 = L at HX HL
      rename World => V1
      clear hfull hlt hj HLE HGD HO0 HS0 HL0 HNW HHT
      obtain ⟨q0, q1⟩ := HOC.out _ HX.out.x
      have HSM := hid (HX.out.lt HTT.out.toT9c)
      have HGM := hid HX.out.x.g.lt
      have HONE := hid (fun (V : World) (n : Nat) (i : Nat) (u : Value) (h : (nus [n])[i]? = some u) => show (V.alloc (.cells #[.int .u64 (n : Int)] 23)).cell? ((⟨V.heap.size, 0, none⟩ : Addr).add i) = some u from by
        rw [add_plain, Nat.zero_add, (At.new V _ _).cell, ← h]
        simp [nus])
      go_upto_region 19 with fail
      go_loopw [12, 76] (fun v u wr => ∃ (j ml : Nat) (Al : Option Addr) (cl : Nat), j ≤ n1 ∧ u = .int .i64 (j : Int) ∧ v = .slice Al ml cl ∧ Hid (ml = (idxW was (l1.take j)).length) ∧ Hid (LdT Pt w O S1 b1 k L wr) ∧ Hid (Un wr V1.heap.size (.slice Al ml cl) ml (idxW was (l1.take j))) ∧ Hid (V1.heap.size ≤ wr.heap.size)) (fun _ u _ => n1 - (intOf u).toNat)
      case atStart => exact ⟨0, 0, none, 0, by omega, rfl, rfl, by rw [idxW_zero]; exact hid rfl, HX, by rw [idxW_zero]; exact hid (Un.nil _ _), hid (Nat.le_refl _)⟩
      case round =>
        clear HX q0 q1
        obtain ⟨j, ml, Al, cl, hj, rfl, rfl, HM, HY, HU, HW⟩ := hrel
        by_cases hlt : j < n1
        · have hd : decide ((j : Int) < (n1 : Int)) = true := by simp; omega
          have hjl : j < l1.length := by rw [← HL1.out.2]; exact hlt
          obtain ⟨a, ha⟩ : ∃ a, a = l1[j] := ⟨_, rfl⟩
          obtain ⟨q, o, eA, hq, hra⟩ := (HS1.out wr HY.out.x.bl).act HO1.out hjl
          rw [← ha] at hra
          have hoa : a.1 < 18446744073709551616 ∧ a.2.1.length = 32 := by rw [ha]; exact HO1.out.get hjl
          obtain ⟨x, hx⟩ : ∃ x, x = o + j * 34 := ⟨_, rfl⟩
          have hra' : wr.rangeAt q x (actV a) := by rw [hx, show o + j * 34 = o + 34 * j by omega]; exact hra
          have hnx := idxW_next was l1 j hjl
          rw [← ha] at hnx
          obtain ⟨j1, hj1⟩ : ∃ m, m = j + 1 := ⟨_, rfl⟩
          rw [← hj1] at hnx
          have HJL := hid (show j1 ≤ n1 by omega)
          have HMS := hid (show n1 - j1 < n1 - j by omega)
          have HLD := hid (show (idxW was (l1.take j)).length ≤ 20 by have := idxW_le was (l1.take j); rw [List.length_take] at this; have := HL1.out; omega)
          have e2 : (j : Int) + 1 = (j1 : Int) := by omega
          have ew : IntKind.i64.wrap (j1 : Int) = (j1 : Int) := by rw [IntKind.wrap_i64] <;> have := HL1.out <;> omega
          have ik : (j : Int) < (n1 : Int) := by omega
          have e3 : o + j * 34 = x := hx.symm
          generalize idxW was (l1.take j) = IL at hnx HLD HM HU
          have HRA := hid hra'
          have HAL2 := hid hoa.2
          have HAI := hid hoa.1
          subst eA
          clear hjl ha hq hra hoa hra' hx hj1 hlt hj
          by_cases hb : a.1 < was
          · rw [if_pos hb] at hnx
            have bw : decide ((a.1 : Int) < (was : Int)) = true := by simp; omega
            have bwn : decide (a.1 < was) = true := by simp; omega
            obtain ⟨m1, hm1⟩ : ∃ m, m = ml + 1 := ⟨_, rfl⟩
            have em : ml + 1 = m1 := hm1.symm
            have HNX := hid hnx
            have HM1 := hid (show m1 = (IL ++ [a.1]).length by rw [List.length_append, ← HM.out]; exact hm1)
            clear hb hnx hm1
            go_wp2_with (first
              | (refine wpList_valW (by rfl) (run_loadAc (.tmp 78) rfl q x rfl a HRA.out HAL2.out) ?_)
              | (refine Great.wpList_allocTo rfl _ rfl _ _ (HAA.out _ _ _ rfl) ?_)
              | (refine wpList_store_row rfl _ (.tmp 14) (.tmp 79) rfl wr.heap.size (actV a).toArray rfl rfl 27 (actV (0, n32, false)).toArray (heap_alloc_new _ _) (sizeAc_of HAL2.out) ?ya3 (actV_one _) ?yb3; rotate_right; have hb8 : Below wr.heap.size wr ((wr.alloc (.cells (actV (0, n32, false)).toArray 27)).setRow wr.heap.size (actV a).toArray) := below_setRow ((Below.refl _ _).alloc (Nat.le_refl _) _) (Nat.le_refl _) _; have A8 := hid (show At ((wr.alloc (.cells (actV (0, n32, false)).toArray 27)).setRow wr.heap.size (actV a).toArray) wr.heap.size (actV a).toArray 27 from setRow_heap _ _ _ _ _ _ (At.new wr _ _)); have X8 := hid (HY.out.new HTT.out.toT9c hb8); have c80 := at_act0 A8.out; have U8 := hid (HU.out.kept hb8); have S8 := hid (show V1.heap.size ≤ ((wr.alloc (.cells (actV (0, n32, false)).toArray 27)).setRow wr.heap.size (actV a).toArray).heap.size from Nat.le_trans HW.out hb8.size); clear hb8; generalize ((wr.alloc (.cells (actV (0, n32, false)).toArray 27)).setRow wr.heap.size (actV a).toArray) = w8 at X8 A8 c80 U8 S8 ⊢; generalize wr.heap.size = Q at A8 c80 ⊢)
              | (refine wpList_valW (by rfl) (run_buildU1 (.tmp 86) rfl a.1 rfl) ?_)
              | (refine wpList_append_ux (by rfl) (.tmp 84) (.tmp 87) rfl V1.heap.size (.slice Al ml cl) ml IL rfl (U8.out.kept ((Below.refl _ _).alloc (Nat.le_refl _) _)) ⟨w8.heap.size, 0, none⟩ 1 1 [a.1] rfl (HONE.out w8 a.1) rfl (by have := HM.out; have := HLD.out; omega) (Nat.le_trans S8.out (by simp)) ?_; intro A9 c9 w9 h9 g9; have Bx := hid (show Below V1.heap.size w8 w9 from ((Below.refl V1.heap.size w8).alloc S8.out _).grown g9 (Nat.le_trans S8.out (by simp)) (un_lt U8.out)); have X9 := hid (X8.out.far HTT.out.toT9c Bx.out HSM.out HGM.out); have U9 := hid (show Un w9 V1.heap.size (.slice A9 m1 c9) m1 (IL ++ [a.1]) from by rw [← em]; exact h9); have S9 := hid (Nat.le_trans S8.out Bx.out.size); clear h9 g9 Bx c80))
            case ya3 => rw [List.size_toArray, List.size_toArray, actV_length HAL2.out, actV_length (a := (0, n32, false)) n32_length]
            go_roundw
            case rel => exact ⟨j1, m1, A9, c9, HJL.out, rfl, rfl, by rw [HNX.out]; exact HM1, X9, by rw [HNX.out]; exact U9, S9⟩
            case measure =>
              show n1 - ((j1 : Int)).toNat < n1 - (j : Int).toNat
              rw [Int.toNat_natCast, Int.toNat_natCast]
              exact HMS.out
          · rw [if_neg hb] at hnx
            have bw : decide ((a.1 : Int) < (was : Int)) = false := by simp; omega
            have bwn : decide (a.1 < was) = false := by simp; omega
            have HNX := hid hnx
            clear hb hnx
            go_wp2_with (first
              | (refine wpList_valW (by rfl) (run_loadAc (.tmp 78) rfl q x rfl a HRA.out HAL2.out) ?_)
              | (refine Great.wpList_allocTo rfl _ rfl _ _ (HAA.out _ _ _ rfl) ?_)
              | (refine wpList_store_row rfl _ (.tmp 14) (.tmp 79) rfl wr.heap.size (actV a).toArray rfl rfl 27 (actV (0, n32, false)).toArray (heap_alloc_new _ _) (sizeAc_of HAL2.out) ?ya4 (actV_one _) ?yb4; rotate_right; have hb8 : Below wr.heap.size wr ((wr.alloc (.cells (actV (0, n32, false)).toArray 27)).setRow wr.heap.size (actV a).toArray) := below_setRow ((Below.refl _ _).alloc (Nat.le_refl _) _) (Nat.le_refl _) _; have A8 := hid (show At ((wr.alloc (.cells (actV (0, n32, false)).toArray 27)).setRow wr.heap.size (actV a).toArray) wr.heap.size (actV a).toArray 27 from setRow_heap _ _ _ _ _ _ (At.new wr _ _)); have X8 := hid (HY.out.new HTT.out.toT9c hb8); have c80 := at_act0 A8.out; have U8 := hid (HU.out.kept hb8); have S8 := hid (show V1.heap.size ≤ ((wr.alloc (.cells (actV (0, n32, false)).toArray 27)).setRow wr.heap.size (actV a).toArray).heap.size from Nat.le_trans HW.out hb8.size); clear hb8; generalize ((wr.alloc (.cells (actV (0, n32, false)).toArray 27)).setRow wr.heap.size (actV a).toArray) = w8 at X8 A8 c80 U8 S8 ⊢; generalize wr.heap.size = Q at A8 c80 ⊢))
            case ya4 => rw [List.size_toArray, List.size_toArray, actV_length HAL2.out, actV_length (a := (0, n32, false)) n32_length]
            go_roundw
            case rel => exact ⟨j1, ml, Al, cl, HJL.out, rfl, rfl, by rw [HNX.out]; exact HM, X8, by rw [HNX.out]; exact U8, S8⟩
            case measure =>
              show n1 - ((j1 : Int)).toNat < n1 - (j : Int).toNat
              rw [Int.toNat_natCast, Int.toNat_natCast]
              exact HMS.out
        · obtain rfl : j = n1 := by omega
          have hd : decide ((j : Int) < (j : Int)) = false := by simp
          have hfull : l1.take j = l1 := List.take_of_length_le (by rw [← HL1.out.2]; exact Nat.le_refl _)
          rw [hfull] at HM HU
          clear hfull hlt hj HO1 HS1 HAA HONE
          obtain ⟨IL, hIL⟩ : ∃ l, l = idxW was l1 := ⟨_, rfl⟩
          rw [← hIL] at HM HU
          have HIL := hid (show IL.length ≤ 20 ∧ ∀ x ∈ IL, x < was from by
            rw [hIL]
            have h1 := idxW_le was l1
            have h2 := HL1.out
            exact ⟨by omega, fun x hx => idxW_lt hx⟩)
          obtain ⟨s, hs⟩ : ∃ s, s = sortS IL := ⟨_, rfl⟩
          have HSS := hid (show s = sortS IL from hs)
          have HSE := hid (show s = sortS (idxW was l1) by rw [hs, hIL])
          obtain ⟨ns, hns⟩ : ∃ n, n = s.length := ⟨_, rfl⟩
          have HNS := hid (show ns = s.length ∧ ns ≤ 20 from ⟨hns, by
            rw [hns, hs]
            have h1 := sortS_length IL IL.length (Nat.le_refl _)
            rw [List.take_length] at h1
            have h2 := HIL.out.1
            omega⟩)
          have HSO := hid (fun (V : World) (hr : Nu V V.heap.size Al IL) => show Calls Tryd.prog 35 #[.slice Al ml cl] V (fun r W' => ∃ A2 c2, r = .returned (.slice A2 ns c2) ∧ ns ≤ c2 ∧ Nu W' W'.heap.size A2 s ∧ Below V.heap.size V W' ∧ ∀ g o, A2 = some ⟨g, o, none⟩ → V.heap.size ≤ g) from by
            have h1 := HM.out
            have h2 := HIL.out.1
            rw [h1, hns, hs]
            exact pSort_new IL Al cl V (by omega) hr)
          obtain ⟨q, hq⟩ : ∃ q, q = nodeS k 0 L := ⟨_, rfl⟩
          have HQ := hid (show q = nodeS k 0 L from hq)
          have HQL := hid (show q.length = 32 by rw [hq]; exact nodeS_length k 0 L HL.out.2.1.ok)
          have HRT := hid (fun (V : World) (x : LdT Pt w O S1 b1 k L V) => show Calls Tryd.prog 24 #[.pointer (some ⟨b1, 0, none⟩)] V (fun r W' => r = .returned (.agg (ubs q).toArray) ∧ Below V.heap.size V W') from by
            rw [hq]
            exact HTT.out.rootOk x.x.bl x.t (by have := HL.out.1; omega))
          clear hIL hs hns hq
          go_upto_region 25 with (first
            | (go_at_call 35; refine (HSO.out wr HU.out.rd).mono ?_; rintro r3 w3 ⟨A2, c2, rfl, hc3, hn3, hb3, ha3⟩; have X3 := hid (HY.out.new HTT.out.toT9c hb3); have N3 := hid hn3; have C3 := hid hc3; have F3 := hid (fun g o (e : A2 = some ⟨g, o, none⟩) => show V1.heap.size ≤ g from Nat.le_trans HW.out (ha3 g o e)); have S3 := hid (show V1.heap.size ≤ w3.heap.size from Nat.le_trans HW.out hb3.size); clear hn3 hc3 hb3 ha3))
          go_upto_region 26 with (first
            | (go_at_call 24; refine (HRT.out w3 X3.out).mono ?_; rintro r4 w4 ⟨rfl, hb4⟩; have X4 := hid (X3.out.new HTT.out.toT9c hb4); have N4 := hid (rd_later12 N3.out hb4); have S4 := hid (Nat.le_trans S3.out hb4.size); clear hb4)
            | (refine Great.wpList_allocTo rfl _ rfl _ _ (HAH.out _ _ _ rfl) ?_)
            | (refine wpList_store_row rfl _ (.tmp 15) (.tmp 93) rfl w4.heap.size (ubs q).toArray rfl rfl 25 (ubs m).toArray (At.new _ _ _) (sizeH_of HQL.out) (by simp [ubs_length, HNL.out, HQL.out]) (ubs_all _) ?_; have Bx := hid (show Below w4.heap.size w4 ((w4.alloc (.cells (ubs m).toArray 25)).setRow w4.heap.size (ubs q).toArray) from below_setRow ((Below.refl _ _).alloc (Nat.le_refl _) _) (Nat.le_refl _) _); have R5 := hid (show At ((w4.alloc (.cells (ubs m).toArray 25)).setRow w4.heap.size (ubs q).toArray) w4.heap.size (ubs q).toArray 25 from setRow_heap _ _ _ _ _ _ (At.new w4 (ubs m).toArray 25)); have X5 := hid (X4.out.new HTT.out.toT9c Bx.out); have N5 := hid (rd_later12 N4.out Bx.out); have G5 := hid (show V1.heap.size ≤ w4.heap.size from S4.out); clear Bx; generalize ((w4.alloc (.cells (ubs m).toArray 25)).setRow w4.heap.size (ubs q).toArray) = w5 at R5 X5 N5 G5 ⊢; generalize w4.heap.size = G15 at R5 X5 N5 G5 ⊢))
          have S15 := hid (show ¬ S1 G15 from fun h => by have h1 := HSM.out _ h; have h2 := G5.out; omega)
          have W15 := hid (show w.heap.size < G15 from Nat.lt_of_lt_of_le HGM.out G5.out)
          have F5 := hid (fun g o (e : A2 = some ⟨g, o, none⟩) => show ¬ S1 g from fun h => by have h1 := HSM.out _ h; have h2 := F3.out g o e; omega)
          clear HSO HRT HY HU HM HW X3 X4 N3 N4 S3 S4 F3
          have z1 : ns = 0 := by rw [HNS.out.1, HSE.out, HZ.out]; rfl
          have dz : decide ((0 : Int) < (ns : Int)) = false := by simp; omega
          have dzn : decide (0 < ns) = false := by simp; omega
          have HM3 := hid (show L.length ≤ 1000 ∧ Gd k L ∧ ∀ p ∈ L, p.1 < was from ⟨by have := HL.out.1; omega, HL.out.2⟩)
          clear z1
          have HRZ := hid (fun (V : World) (x : LdT Pt w O S1 b1 k L V) => show Calls Tryd.prog 55 #[.pointer (some ⟨b1, 0, none⟩), .int .u64 (blocks : Int)] V (fun r W' => r = .returned (.tuple #[.pointer none, (.iface 42 (.int .i64 1))]) ∧ Below V.heap.size V W') from HTT.out.sizeNo blocks x.t HE.out HWB.out.2.2)
          go_wp2_with (first
            | (go_at_call 55; refine (HRZ.out w5 X5.out).mono ?_; rintro r20 w20 ⟨rfl, hb20⟩; have X20 := hid (X5.out.new HTT.out.toT9c hb20); clear hb20))
          go_ret
          exact ⟨rfl, X20.out.x.bl⟩
end Go.Proofs.YtdegmcfcbndelaaDoor

namespace Go.Proofs.YtdegmcfcbndelaaDoor
open Go.RowKit

set_option maxRecDepth 100000 in
set_option maxHeartbeats 8000000 in
theorem stepLeads_ng {Pt : PtT} {w : World} (t : T12 Pt w) (HALV : Alive12C w) (was blocks : Nat) (l0 l1 : List Act9) (A0 A1 : Option Addr) (c0 c1 : Nat) (hwl : was < 18446744073709551616) (hbl : blocks < 18446744073709551616) (h0 : Av w w.heap.size A0 l0) (h1 : Av w w.heap.size A1 l1) (o0 : okA l0) (o1 : okA l1) (hT : Tabs w) (hq0 : ¬ 20 < l0.length) (hq1 : ¬ 20 < l1.length) (hg : highOk was = true) (hz : sortS (idxW was l1) = []) (he : highOk blocks = true) (hle : was ≤ blocks) :
    Calls Tryd.prog 11 #[.int .u64 (was : Int), .agg #[.slice A0 l0.length c0, .slice A1 l1.length c1], .int .u64 (blocks : Int)] w fun r w' => r = .returned (.bool true) ∧ Below w.heap.size w w' := by
  obtain ⟨n0, hn0⟩ : ∃ n, n = l0.length := ⟨_, rfl⟩
  obtain ⟨n1, hn1⟩ : ∃ n, n = l1.length := ⟨_, rfl⟩
  rw [← hn0, ← hn1]
  obtain ⟨O, hO⟩ : ∃ O : Array Value, O = #[.slice A0 n0 c0, .slice A1 n1 c1] := ⟨_, rfl⟩
  have K0 := hid (LdB.start (w := w) (O := O))
  have HOC := hid (fun (V : World) (x : LdB w O V) => show V.cell? ⟨w.heap.size, 0, none⟩ = some (.slice A0 n0 c0) ∧ V.cell? ⟨w.heap.size, 1, none⟩ = some (.slice A1 n1 c1) from by
    rw [x.g.cell, x.g.cell, hO]
    exact ⟨rfl, rfl⟩)
  have HAL := hid (fun (V : World) (b : Below w.heap.size w V) => HALV V b)
  rw [← hO]
  have d0 : decide ((20 : Int) < (n0 : Int)) = false := by simp; omega
  have d0n : decide (20 < n0) = false := by simp; omega
  have d1 : decide ((20 : Int) < (n1 : Int)) = false := by simp; omega
  have d1n : decide (20 < n1) = false := by simp; omega
  obtain ⟨k, hk⟩ : ∃ k, k = highN was := ⟨_, rfl⟩
  have hwb : 1 ≤ was ∧ was ≤ 4294967296 := by unfold highOk at hg; simp at hg; omega
  obtain ⟨hs1, hk32, -⟩ := highN_spec (b := was) hwb.2
  rw [← hk] at hs1 hk32
  have HTT := hid t
  have HHT := hid (fun (V : World) => show Calls Tryd.prog 54 #[.int .u64 (was : Int)] V (fun r W' => r = .returned (.tuple #[.int .i64 (k : Int), .nilIface]) ∧ W' = V) from by
    have := t.heightN V was hwl
    rw [hg, if_pos rfl, ← hk] at this
    exact this)
  have HNW := hid (fun (V : World) (q : Below w.heap.size w V) => show Calls Tryd.prog 22 #[.int .i64 (k : Int)] V (fun r W' => ∃ S b, r = .returned (.tuple #[.pointer (some ⟨b, 0, none⟩), .nilIface]) ∧ Pt S W' b k [] ∧ (∀ j, S j → V.heap.size ≤ j) ∧ Below V.heap.size V W') from t.newOk V k q hk32)
  have HS0 := hid (fun (V : World) (q : Below w.heap.size w V) => (show Av V w.heap.size A0 l0 from h0.below q))
  have HS1 := hid (fun (V : World) (q : Below w.heap.size w V) => (show Av V w.heap.size A1 l1 from h1.below q))
  have HO0 := hid o0
  have HO1 := hid o1
  have HL0 := hid (show n0 ≤ 20 ∧ n0 = l0.length from ⟨by omega, hn0⟩)
  have HL1 := hid (show n1 ≤ 20 ∧ n1 = l1.length from ⟨by omega, hn1⟩)
  have HGD := hid (fun j hj => setsW_good (l := l0) hk32 hs1 o0 j hj)
  have HLE := hid (fun j hj => setsW_le was l0 j hj)
  have HKW := hid (show k = highN was ∧ was ≤ 2 ^ k ∧ k ≤ 32 from ⟨hk, hs1, hk32⟩)
  have HWB := hid (show highOk was = true ∧ was < 18446744073709551616 ∧ blocks < 18446744073709551616 from ⟨hg, hwl, hbl⟩)
  have HAA := hid (fun (o : Oper) (a : Go.Act) (W : World) (h : o.op = .alloc 27) => run_alloc_of (o := o) (a := a) (W := W) _ h _ zeroAc)
  obtain ⟨m, hm⟩ : ∃ m, m = n32 := ⟨_, rfl⟩
  have HAH := hid (fun (o : Oper) (a : Go.Act) (W : World) (h : o.op = .alloc 25) => run_alloc_of (o := o) (a := a) (W := W) _ h _ zeroH8)
  have HNL := hid (show m.length = 32 by rw [hm]; exact n32_length)
  rw [← hm] at HAH
  have HTB := hid (fun (V : World) (q : Below w.heap.size w V) => hT.below q)
  have HZ := hid hz
  clear hn0 hn1 hO hq0 hq1 HALV t hwl hbl hg h0 h1 o0 o1 hT hk hwb hs1 hk32 hm
  clear hz
  have HE := hid (show highOk blocks = true ∧ was ≤ blocks from ⟨he, hle⟩)
  have db : decide ((was : Int) ≤ (blocks : Int)) = true := by simp; omega
  have dbn : decide (was ≤ blocks) = true := by simp; omega
  clear he hle
  go_enter Tryd.func11, Tryd.ntmps11
  go_upto_region 12 with (first
    | (generalize (w.alloc (.cells O 97)) = w0 at K0 ⊢; go_at_call 40; refine (HAL.out w0 K0.out.bl).mono ?_; rintro r1 w1 ⟨rfl, hb1⟩; have K1 := hid (K0.out.new hb1); clear hb1; obtain ⟨q0, q1⟩ := HOC.out _ K1.out)
    | (go_at_call 54; refine (HHT.out w1).mono ?_; rintro r2 w2 ⟨rfl, hw⟩; rw [hw]; clear hw)
    | (go_at_call 22; refine (HNW.out w1 K1.out.bl).mono ?_; rintro r3 w3 ⟨S1, b1, rfl, p3, f3, hb3⟩; have X3 := hid (show LdT Pt w O S1 b1 k [] w3 from ⟨p3, fun j hj => Nat.lt_of_lt_of_le K1.out.g.lt (f3 j hj), K1.out.new hb3⟩); clear p3 f3 hb3 q0 q1; obtain ⟨q0, q1⟩ := HOC.out _ X3.out.x))
  go_loopw [58] (fun v wr => ∃ (j : Nat) (S1 : Nat → Prop), j ≤ n0 ∧ v = .int .i64 (j : Int) ∧ Hid (LdT Pt w O S1 b1 k (setsW was (l0.take j)) wr)) (fun v _ => n0 - (intOf v).toNat)
  case atStart => exact ⟨0, S1, by omega, rfl, by rw [setsW_zero]; exact X3⟩
  case round =>
    clear X3 S1 K1 q0 q1
    obtain ⟨j, S1, hj, rfl, HX⟩ := hrel
    by_cases hlt : j < n0
    · have hd : decide ((j : Int) < (n0 : Int)) = true := by simp; omega
      have hjl : j < l0.length := by rw [← HL0.out.2]; exact hlt
      obtain ⟨a, ha⟩ : ∃ a, a = l0[j] := ⟨_, rfl⟩
      obtain ⟨q, o, eA, hq, hra⟩ := (HS0.out wr HX.out.x.bl).act HO0.out hjl
      rw [← ha] at hra
      have hoa : a.1 < 18446744073709551616 ∧ a.2.1.length = 32 := by rw [ha]; exact HO0.out.get hjl
      obtain ⟨x, hx⟩ : ∃ x, x = o + j * 34 := ⟨_, rfl⟩
      have hra' : wr.rangeAt q x (actV a) := by rw [hx, show o + j * 34 = o + 34 * j by omega]; exact hra
      have hnx := setsW_next was l0 j hjl
      rw [← ha] at hnx
      obtain ⟨j1, hj1⟩ : ∃ m, m = j + 1 := ⟨_, rfl⟩
      rw [← hj1] at hnx
      have HJL := hid (show j1 ≤ n0 by omega)
      have HMS := hid (show n0 - j1 < n0 - j by omega)
      have HLD := hid (show (setsW was (l0.take j)).length ≤ 1000 by have := HLE.out j (by omega); have := HL0.out; omega)
      have e2 : (j : Int) + 1 = (j1 : Int) := by omega
      have ew : IntKind.i64.wrap (j1 : Int) = (j1 : Int) := by rw [IntKind.wrap_i64] <;> have := HL0.out <;> omega
      have ik : (j : Int) < (n0 : Int) := by omega
      have e3 : o + j * 34 = x := hx.symm
      generalize setsW was (l0.take j) = LD at hnx HLD HX
      have HRA := hid hra'
      have HAL2 := hid hoa.2
      have HAI := hid hoa.1
      subst eA
      clear hjl ha hq hra hoa hra' hx hj1 hlt hj
      by_cases hb : a.1 < was
      · rw [if_pos hb] at hnx
        have hhb : hasB k 0 a.1 = true := by have := HKW.out.2.1; unfold hasB; simp; omega
        have bw : decide ((a.1 : Int) < (was : Int)) = true := by simp; omega
        have bwn : decide (a.1 < was) = true := by simp; omega
        have HST := hid (fun (V : World) (S : Nat → Prop) (p : Pt S V b1 k LD) (q : Below w.heap.size w V) => show Calls Tryd.prog 23 #[.pointer (some ⟨b1, 0, none⟩), .int .u64 (a.1 : Int), .agg (ubs a.2.1).toArray] V (fun r W' => r = .returned .nilIface ∧ ∃ S', Pt S' W' b1 k (setT a.1 a.2.1 LD) ∧ (∀ k, S' k → S k ∨ V.heap.size ≤ k) ∧ Fr S V W') from by
          have := HTT.out.setOk a.1 a.2.1 q p HLD.out HAI.out HAL2.out
          rw [hhb] at this
          exact this)
        have HNX := hid hnx
        clear hb hnx hhb
        go_wp2_with (first
          | (refine wpList_valW (by rfl) (run_loadAc (.tmp 60) rfl q x rfl a HRA.out HAL2.out) ?_)
          | (refine Great.wpList_allocTo rfl _ rfl _ _ (HAA.out _ _ _ rfl) ?_)
          | (refine wpList_store_row rfl _ (.tmp 11) (.tmp 61) rfl wr.heap.size (actV a).toArray rfl rfl 27 (actV (0, n32, false)).toArray (heap_alloc_new _ _) (sizeAc_of HAL2.out) ?ya1 (actV_one _) ?yb1; rotate_right; have hb8 : Below wr.heap.size wr ((wr.alloc (.cells (actV (0, n32, false)).toArray 27)).setRow wr.heap.size (actV a).toArray) := below_setRow ((Below.refl _ _).alloc (Nat.le_refl _) _) (Nat.le_refl _) _; have A8 := hid (show At ((wr.alloc (.cells (actV (0, n32, false)).toArray 27)).setRow wr.heap.size (actV a).toArray) wr.heap.size (actV a).toArray 27 from setRow_heap _ _ _ _ _ _ (At.new wr _ _)); have X8 := hid (HX.out.new HTT.out.toT9c hb8); have c80 := at_act0 A8.out; clear hb8; generalize ((wr.alloc (.cells (actV (0, n32, false)).toArray 27)).setRow wr.heap.size (actV a).toArray) = w8 at X8 A8 c80 ⊢; generalize wr.heap.size = Q at A8 c80 ⊢)
          | (refine wpList_valW (by rfl) (run_loadH (.tmp 69) rfl Q 1 rfl a.2.1 (at_act1 A8.out) HAL2.out) ?_)
          | (go_at_call 23; refine (HST.out w8 S1 X8.out.t X8.out.x.bl).mono ?_; rintro r9 w9 ⟨rfl, S9, p9, f9, fr9⟩; have X9 := hid (X8.out.set p9 f9 fr9); clear p9 f9 fr9 c80))
        case ya1 => rw [List.size_toArray, List.size_toArray, actV_length HAL2.out, actV_length (a := (0, n32, false)) n32_length]
        go_roundw
        case rel => exact ⟨j1, S9, HJL.out, rfl, by rw [HNX.out]; exact X9⟩
        case measure =>
          show n0 - ((j1 : Int)).toNat < n0 - (j : Int).toNat
          rw [Int.toNat_natCast, Int.toNat_natCast]
          exact HMS.out
      · rw [if_neg hb] at hnx
        have bw : decide ((a.1 : Int) < (was : Int)) = false := by simp; omega
        have bwn : decide (a.1 < was) = false := by simp; omega
        have HNX := hid hnx
        clear hb hnx
        go_wp2_with (first
          | (refine wpList_valW (by rfl) (run_loadAc (.tmp 60) rfl q x rfl a HRA.out HAL2.out) ?_)
          | (refine Great.wpList_allocTo rfl _ rfl _ _ (HAA.out _ _ _ rfl) ?_)
          | (refine wpList_store_row rfl _ (.tmp 11) (.tmp 61) rfl wr.heap.size (actV a).toArray rfl rfl 27 (actV (0, n32, false)).toArray (heap_alloc_new _ _) (sizeAc_of HAL2.out) ?ya2 (actV_one _) ?yb2; rotate_right; have hb8 : Below wr.heap.size wr ((wr.alloc (.cells (actV (0, n32, false)).toArray 27)).setRow wr.heap.size (actV a).toArray) := below_setRow ((Below.refl _ _).alloc (Nat.le_refl _) _) (Nat.le_refl _) _; have A8 := hid (show At ((wr.alloc (.cells (actV (0, n32, false)).toArray 27)).setRow wr.heap.size (actV a).toArray) wr.heap.size (actV a).toArray 27 from setRow_heap _ _ _ _ _ _ (At.new wr _ _)); have X8 := hid (HX.out.new HTT.out.toT9c hb8); have c80 := at_act0 A8.out; clear hb8; generalize ((wr.alloc (.cells (actV (0, n32, false)).toArray 27)).setRow wr.heap.size (actV a).toArray) = w8 at X8 A8 c80 ⊢; generalize wr.heap.size = Q at A8 c80 ⊢))
        case ya2 => rw [List.size_toArray, List.size_toArray, actV_length HAL2.out, actV_length (a := (0, n32, false)) n32_length]
        go_roundw
        case rel => exact ⟨j1, S1, HJL.out, rfl, by rw [HNX.out]; exact X8⟩
        case measure =>
          show n0 - ((j1 : Int)).toNat < n0 - (j : Int).toNat
          rw [Int.toNat_natCast, Int.toNat_natCast]
          exact HMS.out
    · obtain rfl : j = n0 := by omega
      have hd : decide ((j : Int) < (j : Int)) = false := by simp
      have hfull : l0.take j = l0 := List.take_of_length_le (by rw [← HL0.out.2]; exact Nat.le_refl _)
      rw [hfull] at HX
      have HL := hid (show (setsW was l0).length ≤ 20 ∧ (Gd k (setsW was l0)) ∧ ∀ p ∈ setsW was l0, p.1 < was from by
        have h1 := HLE.out l0.length (Nat.le_refl _)
        have h2 := HGD.out l0.length (Nat.le_refl _)
        rw [List.take_length] at h1 h2
        have := HL0.out
        exact ⟨by omega, h2.1, h2.2⟩)
      generalize setsW was l0 = L at HX HL
      rename World => V1
      clear hfull hlt hj HLE HGD HO0 HS0 HL0 HNW HHT
      obtain ⟨q0, q1⟩ := HOC.out _ HX.out.x
      have HSM := hid (HX.out.lt HTT.out.toT9c)
      have HGM := hid HX.out.x.g.lt
      have HONE := hid (fun (V : World) (n : Nat) (i : Nat) (u : Value) (h : (nus [n])[i]? = some u) => show (V.alloc (.cells #[.int .u64 (n : Int)] 23)).cell? ((⟨V.heap.size, 0, none⟩ : Addr).add i) = some u from by
        rw [add_plain, Nat.zero_add, (At.new V _ _).cell, ← h]
        simp [nus])
      go_upto_region 19 with fail
      go_loopw [12, 76] (fun v u wr => ∃ (j ml : Nat) (Al : Option Addr) (cl : Nat), j ≤ n1 ∧ u = .int .i64 (j : Int) ∧ v = .slice Al ml cl ∧ Hid (ml = (idxW was (l1.take j)).length) ∧ Hid (LdT Pt w O S1 b1 k L wr) ∧ Hid (Un wr V1.heap.size (.slice Al ml cl) ml (idxW was (l1.take j))) ∧ Hid (V1.heap.size ≤ wr.heap.size)) (fun _ u _ => n1 - (intOf u).toNat)
      case atStart => exact ⟨0, 0, none, 0, by omega, rfl, rfl, by rw [idxW_zero]; exact hid rfl, HX, by rw [idxW_zero]; exact hid (Un.nil _ _), hid (Nat.le_refl _)⟩
      case round =>
        clear HX q0 q1
        obtain ⟨j, ml, Al, cl, hj, rfl, rfl, HM, HY, HU, HW⟩ := hrel
        by_cases hlt : j < n1
        · have hd : decide ((j : Int) < (n1 : Int)) = true := by simp; omega
          have hjl : j < l1.length := by rw [← HL1.out.2]; exact hlt
          obtain ⟨a, ha⟩ : ∃ a, a = l1[j] := ⟨_, rfl⟩
          obtain ⟨q, o, eA, hq, hra⟩ := (HS1.out wr HY.out.x.bl).act HO1.out hjl
          rw [← ha] at hra
          have hoa : a.1 < 18446744073709551616 ∧ a.2.1.length = 32 := by rw [ha]; exact HO1.out.get hjl
          obtain ⟨x, hx⟩ : ∃ x, x = o + j * 34 := ⟨_, rfl⟩
          have hra' : wr.rangeAt q x (actV a) := by rw [hx, show o + j * 34 = o + 34 * j by omega]; exact hra
          have hnx := idxW_next was l1 j hjl
          rw [← ha] at hnx
          obtain ⟨j1, hj1⟩ : ∃ m, m = j + 1 := ⟨_, rfl⟩
          rw [← hj1] at hnx
          have HJL := hid (show j1 ≤ n1 by omega)
          have HMS := hid (show n1 - j1 < n1 - j by omega)
          have HLD := hid (show (idxW was (l1.take j)).length ≤ 20 by have := idxW_le was (l1.take j); rw [List.length_take] at this; have := HL1.out; omega)
          have e2 : (j : Int) + 1 = (j1 : Int) := by omega
          have ew : IntKind.i64.wrap (j1 : Int) = (j1 : Int) := by rw [IntKind.wrap_i64] <;> have := HL1.out <;> omega
          have ik : (j : Int) < (n1 : Int) := by omega
          have e3 : o + j * 34 = x := hx.symm
          generalize idxW was (l1.take j) = IL at hnx HLD HM HU
          have HRA := hid hra'
          have HAL2 := hid hoa.2
          have HAI := hid hoa.1
          subst eA
          clear hjl ha hq hra hoa hra' hx hj1 hlt hj
          by_cases hb : a.1 < was
          · rw [if_pos hb] at hnx
            have bw : decide ((a.1 : Int) < (was : Int)) = true := by simp; omega
            have bwn : decide (a.1 < was) = true := by simp; omega
            obtain ⟨m1, hm1⟩ : ∃ m, m = ml + 1 := ⟨_, rfl⟩
            have em : ml + 1 = m1 := hm1.symm
            have HNX := hid hnx
            have HM1 := hid (show m1 = (IL ++ [a.1]).length by rw [List.length_append, ← HM.out]; exact hm1)
            clear hb hnx hm1
            go_wp2_with (first
              | (refine wpList_valW (by rfl) (run_loadAc (.tmp 78) rfl q x rfl a HRA.out HAL2.out) ?_)
              | (refine Great.wpList_allocTo rfl _ rfl _ _ (HAA.out _ _ _ rfl) ?_)
              | (refine wpList_store_row rfl _ (.tmp 14) (.tmp 79) rfl wr.heap.size (actV a).toArray rfl rfl 27 (actV (0, n32, false)).toArray (heap_alloc_new _ _) (sizeAc_of HAL2.out) ?ya3 (actV_one _) ?yb3; rotate_right; have hb8 : Below wr.heap.size wr ((wr.alloc (.cells (actV (0, n32, false)).toArray 27)).setRow wr.heap.size (actV a).toArray) := below_setRow ((Below.refl _ _).alloc (Nat.le_refl _) _) (Nat.le_refl _) _; have A8 := hid (show At ((wr.alloc (.cells (actV (0, n32, false)).toArray 27)).setRow wr.heap.size (actV a).toArray) wr.heap.size (actV a).toArray 27 from setRow_heap _ _ _ _ _ _ (At.new wr _ _)); have X8 := hid (HY.out.new HTT.out.toT9c hb8); have c80 := at_act0 A8.out; have U8 := hid (HU.out.kept hb8); have S8 := hid (show V1.heap.size ≤ ((wr.alloc (.cells (actV (0, n32, false)).toArray 27)).setRow wr.heap.size (actV a).toArray).heap.size from Nat.le_trans HW.out hb8.size); clear hb8; generalize ((wr.alloc (.cells (actV (0, n32, false)).toArray 27)).setRow wr.heap.size (actV a).toArray) = w8 at X8 A8 c80 U8 S8 ⊢; generalize wr.heap.size = Q at A8 c80 ⊢)
              | (refine wpList_valW (by rfl) (run_buildU1 (.tmp 86) rfl a.1 rfl) ?_)
              | (refine wpList_append_ux (by rfl) (.tmp 84) (.tmp 87) rfl V1.heap.size (.slice Al ml cl) ml IL rfl (U8.out.kept ((Below.refl _ _).alloc (Nat.le_refl _) _)) ⟨w8.heap.size, 0, none⟩ 1 1 [a.1] rfl (HONE.out w8 a.1) rfl (by have := HM.out; have := HLD.out; omega) (Nat.le_trans S8.out (by simp)) ?_; intro A9 c9 w9 h9 g9; have Bx := hid (show Below V1.heap.size w8 w9 from ((Below.refl V1.heap.size w8).alloc S8.out _).grown g9 (Nat.le_trans S8.out (by simp)) (un_lt U8.out)); have X9 := hid (X8.out.far HTT.out.toT9c Bx.out HSM.out HGM.out); have U9 := hid (show Un w9 V1.heap.size (.slice A9 m1 c9) m1 (IL ++ [a.1]) from by rw [← em]; exact h9); have S9 := hid (Nat.le_trans S8.out Bx.out.size); clear h9 g9 Bx c80))
            case ya3 => rw [List.size_toArray, List.size_toArray, actV_length HAL2.out, actV_length (a := (0, n32, false)) n32_length]
            go_roundw
            case rel => exact ⟨j1, m1, A9, c9, HJL.out, rfl, rfl, by rw [HNX.out]; exact HM1, X9, by rw [HNX.out]; exact U9, S9⟩
            case measure =>
              show n1 - ((j1 : Int)).toNat < n1 - (j : Int).toNat
              rw [Int.toNat_natCast, Int.toNat_natCast]
              exact HMS.out
          · rw [if_neg hb] at hnx
            have bw : decide ((a.1 : Int) < (was : Int)) = false := by simp; omega
            have bwn : decide (a.1 < was) = false := by simp; omega
            have HNX := hid hnx
            clear hb hnx
            go_wp2_with (first
              | (refine wpList_valW (by rfl) (run_loadAc (.tmp 78) rfl q x rfl a HRA.out HAL2.out) ?_)
              | (refine Great.wpList_allocTo rfl _ rfl _ _ (HAA.out _ _ _ rfl) ?_)
              | (refine wpList_store_row rfl _ (.tmp 14) (.tmp 79) rfl wr.heap.size (actV a).toArray rfl rfl 27 (actV (0, n32, false)).toArray (heap_alloc_new _ _) (sizeAc_of HAL2.out) ?ya4 (actV_one _) ?yb4; rotate_right; have hb8 : Below wr.heap.size wr ((wr.alloc (.cells (actV (0, n32, false)).toArray 27)).setRow wr.heap.size (actV a).toArray) := below_setRow ((Below.refl _ _).alloc (Nat.le_refl _) _) (Nat.le_refl _) _; have A8 := hid (show At ((wr.alloc (.cells (actV (0, n32, false)).toArray 27)).setRow wr.heap.size (actV a).toArray) wr.heap.size (actV a).toArray 27 from setRow_heap _ _ _ _ _ _ (At.new wr _ _)); have X8 := hid (HY.out.new HTT.out.toT9c hb8); have c80 := at_act0 A8.out; have U8 := hid (HU.out.kept hb8); have S8 := hid (show V1.heap.size ≤ ((wr.alloc (.cells (actV (0, n32, false)).toArray 27)).setRow wr.heap.size (actV a).toArray).heap.size from Nat.le_trans HW.out hb8.size); clear hb8; generalize ((wr.alloc (.cells (actV (0, n32, false)).toArray 27)).setRow wr.heap.size (actV a).toArray) = w8 at X8 A8 c80 U8 S8 ⊢; generalize wr.heap.size = Q at A8 c80 ⊢))
            case ya4 => rw [List.size_toArray, List.size_toArray, actV_length HAL2.out, actV_length (a := (0, n32, false)) n32_length]
            go_roundw
            case rel => exact ⟨j1, ml, Al, cl, HJL.out, rfl, rfl, by rw [HNX.out]; exact HM, X8, by rw [HNX.out]; exact U8, S8⟩
            case measure =>
              show n1 - ((j1 : Int)).toNat < n1 - (j : Int).toNat
              rw [Int.toNat_natCast, Int.toNat_natCast]
              exact HMS.out
        · obtain rfl : j = n1 := by omega
          have hd : decide ((j : Int) < (j : Int)) = false := by simp
          have hfull : l1.take j = l1 := List.take_of_length_le (by rw [← HL1.out.2]; exact Nat.le_refl _)
          rw [hfull] at HM HU
          clear hfull hlt hj HO1 HS1 HAA HONE
          obtain ⟨IL, hIL⟩ : ∃ l, l = idxW was l1 := ⟨_, rfl⟩
          rw [← hIL] at HM HU
          have HIL := hid (show IL.length ≤ 20 ∧ ∀ x ∈ IL, x < was from by
            rw [hIL]
            have h1 := idxW_le was l1
            have h2 := HL1.out
            exact ⟨by omega, fun x hx => idxW_lt hx⟩)
          obtain ⟨s, hs⟩ : ∃ s, s = sortS IL := ⟨_, rfl⟩
          have HSS := hid (show s = sortS IL from hs)
          have HSE := hid (show s = sortS (idxW was l1) by rw [hs, hIL])
          obtain ⟨ns, hns⟩ : ∃ n, n = s.length := ⟨_, rfl⟩
          have HNS := hid (show ns = s.length ∧ ns ≤ 20 from ⟨hns, by
            rw [hns, hs]
            have h1 := sortS_length IL IL.length (Nat.le_refl _)
            rw [List.take_length] at h1
            have h2 := HIL.out.1
            omega⟩)
          have HSO := hid (fun (V : World) (hr : Nu V V.heap.size Al IL) => show Calls Tryd.prog 35 #[.slice Al ml cl] V (fun r W' => ∃ A2 c2, r = .returned (.slice A2 ns c2) ∧ ns ≤ c2 ∧ Nu W' W'.heap.size A2 s ∧ Below V.heap.size V W' ∧ ∀ g o, A2 = some ⟨g, o, none⟩ → V.heap.size ≤ g) from by
            have h1 := HM.out
            have h2 := HIL.out.1
            rw [h1, hns, hs]
            exact pSort_new IL Al cl V (by omega) hr)
          obtain ⟨q, hq⟩ : ∃ q, q = nodeS k 0 L := ⟨_, rfl⟩
          have HQ := hid (show q = nodeS k 0 L from hq)
          have HQL := hid (show q.length = 32 by rw [hq]; exact nodeS_length k 0 L HL.out.2.1.ok)
          have HRT := hid (fun (V : World) (x : LdT Pt w O S1 b1 k L V) => show Calls Tryd.prog 24 #[.pointer (some ⟨b1, 0, none⟩)] V (fun r W' => r = .returned (.agg (ubs q).toArray) ∧ Below V.heap.size V W') from by
            rw [hq]
            exact HTT.out.rootOk x.x.bl x.t (by have := HL.out.1; omega))
          clear hIL hs hns hq
          go_upto_region 25 with (first
            | (go_at_call 35; refine (HSO.out wr HU.out.rd).mono ?_; rintro r3 w3 ⟨A2, c2, rfl, hc3, hn3, hb3, ha3⟩; have X3 := hid (HY.out.new HTT.out.toT9c hb3); have N3 := hid hn3; have C3 := hid hc3; have F3 := hid (fun g o (e : A2 = some ⟨g, o, none⟩) => show V1.heap.size ≤ g from Nat.le_trans HW.out (ha3 g o e)); have S3 := hid (show V1.heap.size ≤ w3.heap.size from Nat.le_trans HW.out hb3.size); clear hn3 hc3 hb3 ha3))
          go_upto_region 26 with (first
            | (go_at_call 24; refine (HRT.out w3 X3.out).mono ?_; rintro r4 w4 ⟨rfl, hb4⟩; have X4 := hid (X3.out.new HTT.out.toT9c hb4); have N4 := hid (rd_later12 N3.out hb4); have S4 := hid (Nat.le_trans S3.out hb4.size); clear hb4)
            | (refine Great.wpList_allocTo rfl _ rfl _ _ (HAH.out _ _ _ rfl) ?_)
            | (refine wpList_store_row rfl _ (.tmp 15) (.tmp 93) rfl w4.heap.size (ubs q).toArray rfl rfl 25 (ubs m).toArray (At.new _ _ _) (sizeH_of HQL.out) (by simp [ubs_length, HNL.out, HQL.out]) (ubs_all _) ?_; have Bx := hid (show Below w4.heap.size w4 ((w4.alloc (.cells (ubs m).toArray 25)).setRow w4.heap.size (ubs q).toArray) from below_setRow ((Below.refl _ _).alloc (Nat.le_refl _) _) (Nat.le_refl _) _); have R5 := hid (show At ((w4.alloc (.cells (ubs m).toArray 25)).setRow w4.heap.size (ubs q).toArray) w4.heap.size (ubs q).toArray 25 from setRow_heap _ _ _ _ _ _ (At.new w4 (ubs m).toArray 25)); have X5 := hid (X4.out.new HTT.out.toT9c Bx.out); have N5 := hid (rd_later12 N4.out Bx.out); have G5 := hid (show V1.heap.size ≤ w4.heap.size from S4.out); clear Bx; generalize ((w4.alloc (.cells (ubs m).toArray 25)).setRow w4.heap.size (ubs q).toArray) = w5 at R5 X5 N5 G5 ⊢; generalize w4.heap.size = G15 at R5 X5 N5 G5 ⊢))
          have S15 := hid (show ¬ S1 G15 from fun h => by have h1 := HSM.out _ h; have h2 := G5.out; omega)
          have W15 := hid (show w.heap.size < G15 from Nat.lt_of_lt_of_le HGM.out G5.out)
          have F5 := hid (fun g o (e : A2 = some ⟨g, o, none⟩) => show ¬ S1 g from fun h => by have h1 := HSM.out _ h; have h2 := F3.out g o e; omega)
          clear HSO HRT HY HU HM HW X3 X4 N3 N4 S3 S4 F3
          have z1 : ns = 0 := by rw [HNS.out.1, HSE.out, HZ.out]; rfl
          have dz : decide ((0 : Int) < (ns : Int)) = false := by simp; omega
          have dzn : decide (0 < ns) = false := by simp; omega
          have HM3 := hid (show L.length ≤ 1000 ∧ Gd k L ∧ ∀ p ∈ L, p.1 < was from ⟨by have := HL.out.1; omega, HL.out.2⟩)
          clear z1
          have hle := lead_grow (L := L) HWB.out.1 HE.out.1 HE.out.2 HM3.out.2.2
          rw [← HKW.out.1, ← HQ.out] at hle
          obtain ⟨N, hN⟩ : ∃ N, N = cutS blocks L := ⟨_, rfl⟩
          obtain ⟨n2, hn2⟩ : ∃ n, n = highN blocks := ⟨_, rfl⟩
          rw [← hN, ← hn2] at hle
          obtain ⟨z, hz⟩ : ∃ z, z = nodeS n2 0 N := ⟨_, rfl⟩
          rw [← hz] at hle
          have hNl : N.length ≤ 1000 := by
            rw [hN]
            unfold cutS
            exact Nat.le_trans (List.length_filter_le _ _) HM3.out.1
          have HZL := hid (show z.length = 32 by rw [hz, hN]; exact nodeS_length _ _ _ (HM3.out.2.1.ok.cutS blocks))
          have HRZ := hid (fun (V : World) (x : LdT Pt w O S1 b1 k L V) => show Calls Tryd.prog 55 #[.pointer (some ⟨b1, 0, none⟩), .int .u64 (blocks : Int)] V (fun r W' => ∃ S' b', r = .returned (.tuple #[.pointer (some ⟨b', 0, none⟩), .nilIface]) ∧ Pt S' W' b' n2 N ∧ Below V.heap.size V W') from by
            rw [hn2, hN]
            exact (HTT.out.sizeOk blocks x.x.bl x.t HM3.out.1 HE.out.1 HWB.out.2.2).mono fun r W' ⟨S', b', h1, h2, _, h4⟩ => ⟨S', b', h1, h2, h4⟩)
          have HR2 := hid (fun (V : World) (S : Nat → Prop) (b : Nat) (x : Pt S V b n2 N) (q : Below w.heap.size w V) => show Calls Tryd.prog 24 #[.pointer (some ⟨b, 0, none⟩)] V (fun r W' => r = .returned (.agg (ubs z).toArray) ∧ Below V.heap.size V W') from by
            rw [hz]
            exact HTT.out.rootOk q x hNl)
          have HGR := hid (fun (V : World) (b : Below w.heap.size w V) => show Calls Tryd.prog 50 #[.agg (ubs q).toArray, .int .u64 (was : Int), .int .u64 (blocks : Int)] V (fun r W' => r = .returned (.tuple #[.agg (ubs z).toArray, .nilIface]) ∧ Below V.heap.size V W') from by
            have := pgrow12_any q was blocks V HQL.out HWB.out.2.1 HWB.out.2.2 (HTB.out V b)
            rw [hle.1, hle.2] at this
            exact this)
          clear hle hN hn2 hz hNl
          go_upto_region 45 with (first
            | (go_at_call 55; refine (HRZ.out w5 X5.out).mono ?_; rintro r20 w20 ⟨S20, b20, rfl, p20, hb20⟩; have X20 := hid (X5.out.new HTT.out.toT9c hb20); have R20 := hid (show At w20 G15 (ubs q).toArray 25 from R5.out.new_ hb20); have P20 := hid p20; clear p20 hb20))
          go_upto_region 47 with (first
            | (refine wpList_valW (by rfl) (run_loadH (.tmp 15) rfl G15 0 rfl q (range_whole R20.out) HQL.out) ?_)
            | (go_at_call 50; refine (HGR.out w20 X20.out.x.bl).mono ?_; rintro r21 w21 ⟨rfl, hb21⟩; have X21 := hid (X20.out.new HTT.out.toT9c hb21); have P21 := hid (HTT.out.toT9c.new P20.out hb21); clear hb21)
            | (refine Great.wpList_allocTo rfl _ rfl _ _ (HAH.out _ _ _ rfl) ?_)
            | (refine wpList_store_row rfl _ (.tmp 23) (.tmp 159) rfl w21.heap.size (ubs z).toArray rfl rfl 25 (ubs m).toArray (At.new _ _ _) (sizeH_of HZL.out) (by simp [ubs_length, HNL.out, HZL.out]) (ubs_all _) ?_; have Bx := hid (show Below w21.heap.size w21 ((w21.alloc (.cells (ubs m).toArray 25)).setRow w21.heap.size (ubs z).toArray) from below_setRow ((Below.refl _ _).alloc (Nat.le_refl _) _) (Nat.le_refl _) _); have Z22 := hid (show At ((w21.alloc (.cells (ubs m).toArray 25)).setRow w21.heap.size (ubs z).toArray) w21.heap.size (ubs z).toArray 25 from setRow_heap _ _ _ _ _ _ (At.new w21 (ubs m).toArray 25)); have E22 := hid (show LdE Pt w S20 b20 n2 N w21.heap.size z ((w21.alloc (.cells (ubs m).toArray 25)).setRow w21.heap.size (ubs z).toArray) from ⟨(X21.out.new HTT.out.toT9c Bx.out).x.bl, HTT.out.toT9c.new P21.out Bx.out, Z22.out⟩); clear Bx; generalize ((w21.alloc (.cells (ubs m).toArray 25)).setRow w21.heap.size (ubs z).toArray) = w22 at Z22 E22 ⊢; generalize w21.heap.size = G23 at Z22 E22 ⊢))
          try simp only [Act.put, List.setIfInBounds_toArray, List.set_cons_succ, List.set_cons_zero]
          refine wp_region_facts 9 9 [161, 162, 163, 164, 165, 166, 167, 168, 6] (fun j v9 _ => v9 = le12 z b20 j) (LdE Pt w S20 b20 n2 N G23 z) (by kernel_rfl) (by kernel_rfl)
            (fun V V' h hb => h.new HTT.out.toT9c hb) (fun _ _ _ _ h _ => h) (E22.out.new HTT.out.toT9c (Below.refl _ _).drew) ?_ ?_
          · intro j hj vals W1 K hB hn hK
            simp only [frm_cons, frm_nil, List.set_cons_succ, List.set_cons_zero, Nat.reduceAdd] at hK ⊢
            rcases (by omega : j = 0 ∨ j = 1 ∨ j = 2 ∨ j = 3 ∨ j = 4 ∨ j = 5 ∨ j = 6 ∨ j = 7 ∨ j = 8) with rfl | rfl | rfl | rfl | rfl | rfl | rfl | rfl | rfl
            · refine wpOp_plain rfl rfl (wp_val (w' := W1) (v := .nilIface) (by go_simp) ?_)
              exact hK _ _ rfl (Below.refl _ _)
            · have h0 := hn 0 (by decide +kernel)
              simp only [le12] at h0
              simp only [h0] at hK ⊢
              refine wpOp_plain rfl rfl (wp_val (w' := W1) (v := .bool true) (by go_simp) ?_)
              exact hK _ _ rfl (Below.refl _ _)
            · have h1 := hn 1 (by decide +kernel)
              simp only [le12] at h1
              simp only [h1] at hK ⊢
              refine wpOp_plain rfl rfl (wp_val (w' := W1) (v := .bool true) (by go_simp) ?_)
              exact hK _ _ rfl (Below.refl _ _)
            · have h2 := hn 2 (by decide +kernel)
              simp only [le12] at h2
              simp only [h2] at hK ⊢
              refine wpOp_on rfl (by rfl) (wp_val (run_loadH (.tmp 23) rfl G23 0 rfl z (range_whole hB.g) HZL.out) ?_)
              exact hK _ _ rfl (Below.refl _ _)
            · have h2 := hn 2 (by decide +kernel)
              simp only [le12] at h2
              simp only [h2] at hK ⊢
              refine wpOp_on rfl (by rfl) (wp_val (w' := W1) (v := .pointer (some ⟨b20, 0, none⟩)) (by go_simp) ?_)
              exact hK _ _ rfl (Below.refl _ _)
            · have h2 := hn 2 (by decide +kernel)
              have h4 := hn 4 (by decide +kernel)
              simp only [le12] at h2 h4
              simp only [h2, h4] at hK ⊢
              refine wpOp_on rfl (by rfl) ?_
              go_simp
              go_at_call 24
              refine (HR2.out W1 S20 b20 hB.p hB.bl).mono ?_
              rintro e W' ⟨rfl, hb⟩
              exact hK _ _ rfl hb
            · have h2 := hn 2 (by decide +kernel)
              have h3 := hn 3 (by decide +kernel)
              have h5 := hn 5 (by decide +kernel)
              simp only [le12] at h2 h3 h5
              simp only [h2, h3, h5] at hK ⊢
              refine wpOp_on rfl (by rfl) (wp_val (run_eqlH _ (.tmp 164) (.tmp 166) rfl z z HZL.out HZL.out rfl rfl true (by simp) W1) ?_)
              exact hK _ _ rfl (Below.refl _ _)
            · have h2 := hn 2 (by decide +kernel)
              have h6 := hn 6 (by decide +kernel)
              simp only [le12] at h2 h6
              simp only [h2, h6] at hK ⊢
              refine wpOp_plain rfl rfl (wp_val (w' := W1) (v := .bool true) (by go_simp) ?_)
              exact hK _ _ rfl (Below.refl _ _)
            · have h7 := hn 7 (by decide +kernel)
              simp only [le12] at h7
              simp only [h7] at hK ⊢
              refine wpOp_plain rfl rfl (wp_val (w' := W1) (v := .bool true) (by go_simp) ?_)
              exact hK _ _ rfl (Below.refl _ _)
          · intro vals W1 hB hF
            have h8 := hF 8 (by omega)
            simp only [le12] at h8
            simp only [frm_cons, frm_nil, List.set_cons_succ, List.set_cons_zero, Nat.reduceAdd, h8]
            refine wpUpto_done (by decide +kernel) ?_ _
            have NX := hid hB.bl
            clear hB hF h8
            go_simp
            go_wp2
            go_ret
            exact ⟨rfl, NX.out⟩
end Go.Proofs.YtdegmcfcbndelaaDoor
