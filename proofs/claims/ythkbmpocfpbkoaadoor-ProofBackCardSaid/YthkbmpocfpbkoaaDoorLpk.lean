/-
  ProofBack of layer 10, over what the program's trees are to answer.
-/
import Derived.Test.YthkbmpocfpbkoaaDoorJ2
import Derived.Test.YthkbmpocfpbkoaaDoorT4
import Derived.Test.YthkbmpocfpbkoaaDoorK9
import Derived.Test.YthkbmpocfpbkoaaDoorQ2
import Derived.Test.YthkbmpocfpbkoaaDoorS5
namespace Go.Proofs.YthkbmpocfpbkoaaDoor
open Go.RowKit

/-- The tree. -/
structure BqT (Pt : PtT) (w : World) (S : Nat → Prop) (b k : Nat) (L : List (Nat × List UInt8)) (V : World) : Prop where
  t : Pt S V b k L
  below : Below w.heap.size w V
theorem BqT.new {Pt : PtT} {w V V' : World} {S : Nat → Prop} {b k : Nat} {L : List (Nat × List UInt8)} (t : T9c Pt w) (x : BqT Pt w S b k L V) (hb : Below V.heap.size V V') : BqT Pt w S b k L V' :=
  ⟨t.new x.t hb, x.below.trans (hb.mono x.below.size)⟩
theorem BqT.set {Pt : PtT} {w V V' : World} {S S' : Nat → Prop} {b k : Nat} {L L' : List (Nat × List UInt8)} (t : T9c Pt w) (x : BqT Pt w S b k L V) (p : Pt S' V' b k L') (hf : Fr S V V') : BqT Pt w S' b k L' V' :=
  ⟨p, x.below.trans (hf.below (fun j hj => (t.inn x.t j hj).1) x.below.size)⟩
/-- The tree, its proof and what it came to. -/
structure BqW (Pt : PtT) (w : World) (S : Nat → Prop) (b k : Nat) (L : List (Nat × List UInt8)) (A1 : Option Addr) (s : List Nat) (AL : Option Addr) (lv : List UInt8) (AB : Option Addr) (bs : List UInt8) (G : Nat) (x : List UInt8) (V : World) : Prop where
  t : BqT Pt w S b k L V
  s : Nu V V.heap.size A1 s
  lv : Rd V V.heap.size AL (ubs lv)
  bs : Rd V V.heap.size AB (ubs bs)
  g : At V G (ubs x).toArray 35
theorem rdk_later {V V' : World} {A : Option Addr} {xs : List Value} (h : Rd V V.heap.size A xs) (hb : Below V.heap.size V V') : Rd V' V'.heap.size A xs := (Rd.below h hb).mono hb.size
theorem BqW.new {Pt : PtT} {w V V' : World} {S : Nat → Prop} {b k G : Nat} {L : List (Nat × List UInt8)} {A1 AL AB : Option Addr} {s : List Nat} {lv bs x : List UInt8} (t : T9c Pt w) (y : BqW Pt w S b k L A1 s AL lv AB bs G x V) (hb : Below V.heap.size V V') : BqW Pt w S b k L A1 s AL lv AB bs G x V' :=
  ⟨y.t.new t hb, y.s.later hb, rdk_later y.lv hb, rdk_later y.bs hb, y.g.new_ hb⟩
/-- What the last region yields. -/
def bkF (k b : Nat) (A1 : Option Addr) (ns c1 : Nat) (AL : Option Addr) (cl : Nat) (AB : Option Addr) (nb cb : Nat) (x : List UInt8) : Nat → Value
  | 0 => .nilIface
  | 3 => .agg (ubs x).toArray
  | 4 => .pointer (some ⟨b, 0, none⟩)
  | 5 => .agg (ubs x).toArray
  | 9 => .agg (ubs x).toArray
  | 10 => .int .i64 (k : Int)
  | 11 => .slice A1 ns c1
  | 12 => .slice AL ns cl
  | 13 => .slice AB nb cb
  | 14 => .nilIface
  | _ => .bool true
theorem Ah.room {W : World} {base n c : Nat} {A : Option Addr} {bs : List UInt8} (h : Ah W base (.slice A n c) n bs) : n ≤ c := by
  rcases h.2 with ⟨h1, h2⟩ | ⟨g, cap, cur, e, -, -, hc, -⟩
  · omega
  · cases e
    exact hc
set_option maxRecDepth 100000 in
set_option maxHeartbeats 8000000 in
theorem proofBack_law {Pt : PtT} {w : World} (t : T9c Pt w) (HALV : Alive10C w) (h : Int) (sc : List Act9) (A : Option Addr) (c : Nat) (hsc : Av w w.heap.size A sc) (ho : okA sc) (l : List Nat) (AI : Option Addr) (cI : Nat) (hr : Nu w w.heap.size AI l) (hT : Tabs w) :
    Calls Tryd.prog 10 #[.int .i64 h, .slice A sc.length c, .slice AI l.length cI] w fun r w' => r = .returned (.bool true) ∧ Below w.heap.size w w' := by
  have HAL := hid (HALV w (Below.refl _ _))
  obtain ⟨n, hn⟩ : ∃ n, n = sc.length := ⟨_, rfl⟩
  obtain ⟨ni, hni⟩ : ∃ n, n = l.length := ⟨_, rfl⟩
  by_cases hl : 40 < ni
  · have d0 : decide ((40 : Int) < (ni : Int)) = true := by simp; omega
    have d0n : decide (40 < ni) = true := by simpa using hl
    rw [← hn, ← hni]
    clear t HALV hsc ho hr hT hn hni hl
    go_enter Tryd.func10, Tryd.ntmps10
    go_wp2_with (first
      | (go_at_call 36; refine HAL.out.mono ?_; rintro r1 w1 ⟨rfl, hb1⟩; have B1 := hid hb1; clear hb1))
    go_ret
    exact ⟨rfl, B1.out⟩
  have d0 : decide ((40 : Int) < (ni : Int)) = false := by simp; omega
  have d0n : decide (40 < ni) = false := by simp; omega
  by_cases hs : 25 < n
  · have d1 : decide ((25 : Int) < (n : Int)) = true := by simp; omega
    have d1n : decide (25 < n) = true := by simpa using hs
    rw [← hn, ← hni]
    clear t HALV hsc ho hr hT hn hni hl hs
    go_enter Tryd.func10, Tryd.ntmps10
    go_wp2_with (first
      | (go_at_call 36; refine HAL.out.mono ?_; rintro r1 w1 ⟨rfl, hb1⟩; have B1 := hid hb1; clear hb1))
    go_ret
    exact ⟨rfl, B1.out⟩
  have d1 : decide ((25 : Int) < (n : Int)) = false := by simp; omega
  have d1n : decide (25 < n) = false := by simp; omega
  by_cases hh : h < 0 ∨ 32 < h
  · have HN := hid (fun (V : World) (q : Below w.heap.size w V) => show Calls Tryd.prog 30 #[.int .i64 h] V (fun r W' => r = .returned (.tuple #[.pointer none, .iface 47 (.int .i64 1)]) ∧ Below V.heap.size V W') from t.newNo V h q hh)
    rw [← hn, ← hni]
    clear t HALV hsc ho hr hT hn hni hl hs hh
    go_enter Tryd.func10, Tryd.ntmps10
    go_wp2_with (first
      | (go_at_call 36; refine HAL.out.mono ?_; rintro r1 w1 ⟨rfl, hb1⟩; have B1 := hid hb1; clear hb1)
      | (go_at_call 30; refine (HN.out w1 B1.out).mono ?_; rintro r2 w2 ⟨rfl, hb2⟩; have B2 := hid (B1.out.trans (hb2.mono B1.out.size)); clear hb2))
    go_ret
    exact ⟨rfl, B2.out⟩
  obtain ⟨k, rfl⟩ : ∃ k : Nat, h = (k : Int) := ⟨h.toNat, by omega⟩
  have hk : k ≤ 32 := by omega
  have HTT := hid t
  have HN := hid (fun (V : World) (q : Below w.heap.size w V) => show Calls Tryd.prog 30 #[.int .i64 (k : Int)] V (fun r W' => ∃ S b, r = .returned (.tuple #[.pointer (some ⟨b, 0, none⟩), .nilIface]) ∧ Pt S W' b k [] ∧ (∀ k, S k → V.heap.size ≤ k) ∧ Below V.heap.size V W') from t.newOk V k q hk)
  have HSC := hid (fun (V : World) (q : Below w.heap.size w V) => (show Av V w.heap.size A sc from hsc.below q))
  have HOA := hid ho
  have HLL := hid (show sc.length ≤ 25 by omega)
  have HLN := hid hn
  have HGD := hid (Gd.sets hk ho)
  have HLE := hid (fun j hj => sets9_le k sc j hj)
  obtain ⟨s, hss⟩ : ∃ s, s = sortS l := ⟨_, rfl⟩
  obtain ⟨ns, hns⟩ : ∃ n, n = s.length := ⟨_, rfl⟩
  have hs40 : ns ≤ 40 := by rw [hns, hss]; have := sortS_length l l.length (Nat.le_refl _); rw [List.take_length] at this; omega
  have HSO := hid (fun (V : World) (q : Below w.heap.size w V) => show Calls Tryd.prog 52 #[.slice AI ni cI] V (fun r W' => ∃ A1 c1, r = .returned (.slice A1 ns c1) ∧ ns ≤ c1 ∧ Nu W' W'.heap.size A1 s ∧ Below V.heap.size V W') from by
    rw [hni, hns, hss]
    exact pSort_any l AI cI V (by omega) (hr.later q))
  have HSD := hid (fun (V : World) (q : Below w.heap.size w V) => show Calls Tryd.prog 54 #[.slice AI ni cI] V (fun r W' => ∃ A2 c2, r = .returned (.slice A2 ns c2) ∧ Nu W' W'.heap.size A2 s ∧ Below V.heap.size V W') from by
    rw [hni, hns, hss]
    refine (sortR_any l AI cI V (hr.later q) (by omega)).mono ?_
    rintro r W' ⟨A2, c2, h1, h2, h3⟩
    exact ⟨A2, c2, h1, h2.nu, h3⟩)
  have HWD := hid (fun (V : World) (A1 A2 : Option Addr) (c1 c2 : Nat) (a : Nu V V.heap.size A1 s) (b : Nu V V.heap.size A2 s) => show Calls Tryd.prog 53 #[.slice A1 ns c1, .slice A2 ns c2] V (fun r W' => r = .returned (.bool true) ∧ Below V.heap.size V W') from by
    have := wide_any s s A1 A2 c1 c2 V a b (by omega)
    rwa [decide_eq_true rfl, ← hns] at this)
  have HNS := hid hns
  have HTB := hid (fun (V : World) (q : Below w.heap.size w V) => hT.below q)
  have HAA := hid (fun (o : Oper) (a : Go.Act) (W : World) (h : o.op = .alloc 37) => run_alloc_of (o := o) (a := a) (W := W) _ h _ zeroAc)
  obtain ⟨m, hm⟩ : ∃ m, m = n32 := ⟨_, rfl⟩
  have HAH := hid (fun (o : Oper) (a : Go.Act) (W : World) (h : o.op = .alloc 35) => run_alloc_of (o := o) (a := a) (W := W) _ h _ zeroH8)
  have HNL := hid (show m.length = 32 by rw [hm]; exact n32_length)
  rw [← hm] at HAH
  rw [← hn, ← hni]
  clear t HALV hsc ho hr hT hn hni hl hs hh hk hss hns hs40 hm
  go_enter Tryd.func10, Tryd.ntmps10
  go_upto_region 9 with (first
    | (go_at_call 36; refine HAL.out.mono ?_; rintro r1 w1 ⟨rfl, hb1⟩; have B1 := hid hb1; clear hb1)
    | (go_at_call 30; refine (HN.out w1 B1.out).mono ?_; rintro r2 w2 ⟨S1, b1, rfl, p1, f1, hb2⟩; have X2 := hid (show BqT Pt w S1 b1 k [] w2 from ⟨p1, B1.out.trans (hb2.mono B1.out.size)⟩); clear p1 f1 hb2))
  go_loopw [37] (fun v wr => ∃ (j : Nat) (S1 : Nat → Prop), j ≤ n ∧ v = .int .i64 (j : Int) ∧ Hid (BqT Pt w S1 b1 k (sets9 k (sc.take j)) wr)) (fun v _ => n - (intOf v).toNat)
  case atStart => exact ⟨0, S1, by omega, rfl, by rw [sets9_zero]; exact X2⟩
  case round =>
    clear X2 S1 B1
    obtain ⟨j, S1, hj, rfl, HX⟩ := hrel
    by_cases hlt : j < n
    · have hd : decide ((j : Int) < (n : Int)) = true := by simp; omega
      have hjl : j < sc.length := by rw [← HLN.out]; exact hlt
      obtain ⟨a, ha⟩ : ∃ a, a = sc[j] := ⟨_, rfl⟩
      obtain ⟨q, o, eA, hq, hra⟩ := (HSC.out wr HX.out.below).act HOA.out hjl
      rw [← ha] at hra
      have hoa : a.1 < 18446744073709551616 ∧ a.2.1.length = 32 := by rw [ha]; exact HOA.out.get hjl
      obtain ⟨x, hx⟩ : ∃ x, x = o + j * 34 := ⟨_, rfl⟩
      have hra' : wr.rangeAt q x (actV a) := by rw [hx, show o + j * 34 = o + 34 * j by omega]; exact hra
      have hnx := sets9_next k sc j hjl
      rw [← ha] at hnx
      have HLD := hid (show (sets9 k (sc.take j)).length ≤ 1000 by have := HLE.out j (by omega); have := HLL.out; omega)
      obtain ⟨j1, hj1⟩ : ∃ m, m = j + 1 := ⟨_, rfl⟩
      rw [← hj1] at hnx
      have HJL := hid (show j1 ≤ n by omega)
      have HMS := hid (show n - j1 < n - j by omega)
      have e2 : (j : Int) + 1 = (j1 : Int) := by omega
      have ew : IntKind.i64.wrap (j1 : Int) = (j1 : Int) := by rw [IntKind.wrap_i64] <;> have := HLL.out <;> have := HLN.out <;> omega
      have ik : (j : Int) < (n : Int) := by omega
      have e3 : o + j * 34 = x := hx.symm
      generalize sets9 k (sc.take j) = LD at hnx HLD HX
      have HRA := hid hra'
      have HAL2 := hid hoa.2
      have HAI := hid hoa.1
      subst eA
      clear hjl ha hq hra hoa hra' hx hj1 hlt hj
      cases hb : hasB k 0 a.1 with
      | false =>
        rw [hb] at hnx
        rw [if_neg (by simp)] at hnx
        have HST := hid (fun (V : World) (S : Nat → Prop) (p : Pt S V b1 k LD) (q : Below w.heap.size w V) => show Calls Tryd.prog 31 #[.pointer (some ⟨b1, 0, none⟩), .int .u64 (a.1 : Int), .agg (ubs a.2.1).toArray] V (fun r W' => r = .returned (.iface 47 (.int .i64 1)) ∧ ∃ S', Pt S' W' b1 k LD ∧ (∀ k, S' k → S k ∨ V.heap.size ≤ k) ∧ Fr S V W') from by
          have := HTT.out.setOk a.1 a.2.1 q p HLD.out HAI.out HAL2.out
          rw [hb] at this
          exact this)
        have HNX := hid hnx
        clear hb hnx
        go_wp2_with (first
          | (refine wpList_valW (by rfl) (run_loadAc (.tmp 39) rfl q x rfl a HRA.out HAL2.out) ?_)
          | (refine Great.wpList_allocTo rfl _ rfl _ _ (HAA.out _ _ _ rfl) ?_)
          | (refine wpList_store_row rfl _ (.tmp 10) (.tmp 40) rfl wr.heap.size (actV a).toArray rfl rfl 37 (actV (0, n32, false)).toArray (heap_alloc_new _ _) (sizeAc_of HAL2.out) ?ya2 (actV_one _) ?yb2; rotate_right; have hb8 : Below wr.heap.size wr ((wr.alloc (.cells (actV (0, n32, false)).toArray 37)).setRow wr.heap.size (actV a).toArray) := below_setRow ((Below.refl _ _).alloc (Nat.le_refl _) _) (Nat.le_refl _) _; have A8 := hid (show At ((wr.alloc (.cells (actV (0, n32, false)).toArray 37)).setRow wr.heap.size (actV a).toArray) wr.heap.size (actV a).toArray 37 from setRow_heap _ _ _ _ _ _ (At.new wr _ _)); have X8 := hid (HX.out.new HTT.out hb8); have c80 := at_act0 A8.out; clear hb8; generalize ((wr.alloc (.cells (actV (0, n32, false)).toArray 37)).setRow wr.heap.size (actV a).toArray) = w8 at X8 A8 c80 ⊢; generalize wr.heap.size = Q at A8 c80 ⊢)
          | (refine wpList_valW (by rfl) (run_loadH (.tmp 44) rfl Q 1 rfl a.2.1 (at_act1 A8.out) HAL2.out) ?_)
          | (go_at_call 31; refine (HST.out w8 S1 X8.out.t X8.out.below).mono ?_; rintro r9 w9 ⟨rfl, S9, p9, f9, fr9⟩; have X9 := hid (X8.out.set HTT.out p9 fr9); clear p9 f9 fr9 c80))
        case ya2 => rw [List.size_toArray, List.size_toArray, actV_length HAL2.out, actV_length (a := (0, n32, false)) n32_length]
        go_roundw
        case rel => exact ⟨j1, S9, HJL.out, rfl, by rw [HNX.out]; exact X9⟩
        case measure =>
          show n - ((j1 : Int)).toNat < n - (j : Int).toNat
          rw [Int.toNat_natCast, Int.toNat_natCast]
          exact HMS.out
      | true =>
        rw [hb] at hnx
        rw [if_pos rfl] at hnx
        have HST := hid (fun (V : World) (S : Nat → Prop) (p : Pt S V b1 k LD) (q : Below w.heap.size w V) => show Calls Tryd.prog 31 #[.pointer (some ⟨b1, 0, none⟩), .int .u64 (a.1 : Int), .agg (ubs a.2.1).toArray] V (fun r W' => r = .returned .nilIface ∧ ∃ S', Pt S' W' b1 k (setT a.1 a.2.1 LD) ∧ (∀ k, S' k → S k ∨ V.heap.size ≤ k) ∧ Fr S V W') from by
          have := HTT.out.setOk a.1 a.2.1 q p HLD.out HAI.out HAL2.out
          rw [hb] at this
          exact this)
        have HNX := hid hnx
        clear hb hnx
        go_wp2_with (first
          | (refine wpList_valW (by rfl) (run_loadAc (.tmp 39) rfl q x rfl a HRA.out HAL2.out) ?_)
          | (refine Great.wpList_allocTo rfl _ rfl _ _ (HAA.out _ _ _ rfl) ?_)
          | (refine wpList_store_row rfl _ (.tmp 10) (.tmp 40) rfl wr.heap.size (actV a).toArray rfl rfl 37 (actV (0, n32, false)).toArray (heap_alloc_new _ _) (sizeAc_of HAL2.out) ?ya1 (actV_one _) ?yb1; rotate_right; have hb8 : Below wr.heap.size wr ((wr.alloc (.cells (actV (0, n32, false)).toArray 37)).setRow wr.heap.size (actV a).toArray) := below_setRow ((Below.refl _ _).alloc (Nat.le_refl _) _) (Nat.le_refl _) _; have A8 := hid (show At ((wr.alloc (.cells (actV (0, n32, false)).toArray 37)).setRow wr.heap.size (actV a).toArray) wr.heap.size (actV a).toArray 37 from setRow_heap _ _ _ _ _ _ (At.new wr _ _)); have X8 := hid (HX.out.new HTT.out hb8); have c80 := at_act0 A8.out; clear hb8; generalize ((wr.alloc (.cells (actV (0, n32, false)).toArray 37)).setRow wr.heap.size (actV a).toArray) = w8 at X8 A8 c80 ⊢; generalize wr.heap.size = Q at A8 c80 ⊢)
          | (refine wpList_valW (by rfl) (run_loadH (.tmp 44) rfl Q 1 rfl a.2.1 (at_act1 A8.out) HAL2.out) ?_)
          | (go_at_call 31; refine (HST.out w8 S1 X8.out.t X8.out.below).mono ?_; rintro r9 w9 ⟨rfl, S9, p9, f9, fr9⟩; have X9 := hid (X8.out.set HTT.out p9 fr9); clear p9 f9 fr9 c80))
        case ya1 => rw [List.size_toArray, List.size_toArray, actV_length HAL2.out, actV_length (a := (0, n32, false)) n32_length]
        go_roundw
        case rel => exact ⟨j1, S9, HJL.out, rfl, by rw [HNX.out]; exact X9⟩
        case measure =>
          show n - ((j1 : Int)).toNat < n - (j : Int).toNat
          rw [Int.toNat_natCast, Int.toNat_natCast]
          exact HMS.out
    · obtain rfl : j = n := by omega
      have hd : decide ((j : Int) < (j : Int)) = false := by simp
      have hfull : sc.take j = sc := List.take_of_length_le (by rw [← HLN.out]; exact Nat.le_refl _)
      rw [hfull] at HX
      have HLD := hid (show (sets9 k sc).length ≤ 1000 by have := HLE.out sc.length (Nat.le_refl _); rw [List.take_length] at this; have := HLL.out; omega)
      generalize sets9 k sc = L at HX HLD HGD
      clear hfull hlt hj HLE HSC HAA HOA HN
      go_upto_region 16 with (first
        | (go_at_call 53; refine (HWD.out w4 A1 A2 c1 c2 N4.out M4.out).mono ?_; rintro r5 w5 ⟨rfl, hb5⟩; have X5 := hid (X4.out.new HTT.out hb5); have N5 := hid (N4.out.later hb5); clear hb5)
        | (go_at_call 54; refine (HSD.out w3 X3.out.below).mono ?_; rintro r4 w4 ⟨A2, c2, rfl, hn4, hb4⟩; have X4 := hid (X3.out.new HTT.out hb4); have N4 := hid (N3.out.later hb4); have M4 := hid hn4; clear hn4 hb4)
        | (go_at_call 52; refine (HSO.out wr HX.out.below).mono ?_; rintro r3 w3 ⟨A1, c1, rfl, hc3, hn3, hb3⟩; have X3 := hid (HX.out.new HTT.out hb3); have N3 := hid hn3; have C3 := hid hc3; clear hn3 hc3 hb3))
      clear HSO HSD HWD X3 X4 N3 N4 M4 HX HLL HLN
      cases hg : rgtB (k : Int) s with
      | true =>
        have hth := spots_thousand hg
        have HMK := hid (fun (V : World) (S : Nat → Prop) (x : BqT Pt w S b1 k L V) (a : Nu V V.heap.size A1 s) => show Calls Tryd.prog 38 #[.pointer (some ⟨b1, 0, none⟩), .slice A1 ns c1] V (fun r W' => ∃ A3 c3, r = .returned (.tuple #[.slice A3 (spotsS s k 0).length c3, .nilIface]) ∧ (spotsS s k 0).length ≤ c3 ∧ Rd W' W'.heap.size A3 (ubs (besideS L (spotsS s k 0))) ∧ Below V.heap.size V W') from by
          rw [HNS.out]
          refine (pmake10_ok HTT.out x.below x.t HLD.out s A1 c1 a (by rw [← HNS.out]; exact C3.out) hg).mono ?_
          rintro r W' ⟨A3, c3, h1, h2, h3⟩
          exact ⟨A3, c3, h1, h2.room, h2.rd, h3⟩)
        have HLV := hid (fun (V : World) (S : Nat → Prop) (x : BqT Pt w S b1 k L V) (a : Nu V V.heap.size A1 s) => show Calls Tryd.prog 39 #[.pointer (some ⟨b1, 0, none⟩), .slice A1 ns c1] V (fun r W' => ∃ A4 c4, r = .returned (.tuple #[.slice A4 ns c4, .nilIface]) ∧ ns ≤ c4 ∧ Rd W' W'.heap.size A4 (ubs (leavesS L s)) ∧ Below V.heap.size V W') from by
          rw [HNS.out]
          refine (pleaves_ok HTT.out x.below x.t HLD.out s A1 c1 a hg).mono ?_
          rintro r W' ⟨A4, c4, h1, h2, h3, h4⟩
          exact ⟨A4, c4, h1, h4, h2, h3⟩)
        have HOK := hid HGD.out.ok
        have hcc : ccB (k : Int) s s.length (spotsS s k 0).length = 0 := by
          unfold ccB
          rw [hg, if_pos rfl, if_pos rfl, Int.toNat_natCast, if_pos rfl]
        have hrt := root_tree HOK.out hg
        have hck : ckB (nodeS k 0 L) (k : Int) s s.length (spotsS s k 0).length (leavesS L s) (besideS L (spotsS s k 0)) = 0 := by
          unfold ckB
          rw [if_pos hcc, if_pos hrt]
        obtain ⟨nr, hnr⟩ : ∃ x, x = nodeS k 0 L := ⟨_, rfl⟩
        have HNR := hid (show nr.length = 32 by rw [hnr]; exact nodeS_length _ _ _ HOK.out)
        have HRT := hid (fun (V : World) (AL AB : Option Addr) (cl cb : Nat) (q : Below w.heap.size w V) (a : Nu V V.heap.size A1 s) (hL : Rd V V.heap.size AL (ubs (leavesS L s))) (hB : Rd V V.heap.size AB (ubs (besideS L (spotsS s k 0)))) (hcl : ns ≤ cl) (hcb : (spotsS s k 0).length ≤ cb) => show Calls Tryd.prog 45 #[.int .i64 (k : Int), .slice A1 ns c1, .slice AL ns cl, .slice AB (spotsS s k 0).length cb] V (fun r W' => r = .returned (.tuple #[.agg (ubs nr).toArray, .nilIface]) ∧ Below V.heap.size V W') from by
          have := proot_any (k : Int) s (leavesS L s) (besideS L (spotsS s k 0)) A1 AL AB c1 s.length cl (spotsS s k 0).length cb V a (by rw [← HNS.out]; exact C3.out) hL hB (by rw [← HNS.out]; exact hcl) hcb (leavesS_length HOK.out _) (besideS_length HOK.out _) (HTB.out V q)
          rw [hcc, errV_zero, hrt, ← hnr] at this
          rw [HNS.out]
          exact this)
        have HCK := hid (fun (V : World) (AL AB : Option Addr) (cl cb : Nat) (q : Below w.heap.size w V) (a : Nu V V.heap.size A1 s) (hL : Rd V V.heap.size AL (ubs (leavesS L s))) (hB : Rd V V.heap.size AB (ubs (besideS L (spotsS s k 0)))) (hcl : ns ≤ cl) (hcb : (spotsS s k 0).length ≤ cb) => show Calls Tryd.prog 50 #[.agg (ubs nr).toArray, .int .i64 (k : Int), .slice A1 ns c1, .slice AL ns cl, .slice AB (spotsS s k 0).length cb] V (fun r W' => r = .returned .nilIface ∧ Below V.heap.size V W') from by
          have := pcheck10_any nr HNR.out (k : Int) s (leavesS L s) (besideS L (spotsS s k 0)) A1 AL AB c1 s.length cl (spotsS s k 0).length cb V a (by rw [← HNS.out]; exact C3.out) hL hB (by rw [← HNS.out]; exact hcl) hcb (leavesS_length HOK.out _) (besideS_length HOK.out _) (HTB.out V q)
          rw [hnr, hck, errV_zero, ← hnr] at this
          rw [HNS.out]
          exact this)
        have HTR := hid (fun (V : World) (S : Nat → Prop) (x : BqT Pt w S b1 k L V) => show Calls Tryd.prog 32 #[.pointer (some ⟨b1, 0, none⟩)] V (fun r W' => r = .returned (.agg (ubs nr).toArray) ∧ Below V.heap.size V W') from by
          rw [hnr]
          exact HTT.out.rootOk x.below x.t HLD.out)
        generalize besideS L (spotsS s k 0) = bs at HMK HRT HCK
        generalize leavesS L s = lv at HLV HRT HCK
        generalize (spotsS s k 0).length = nb at HMK HRT HCK
        clear hg hth hcc hrt hck hnr HGD HOK HLD HNS HTB
        go_upto_region 20 with (first
          | (go_at_call 39; refine (HLV.out w6 S1 X6.out N6.out).mono ?_; rintro r7 w7 ⟨A4, c4, rfl, hc7, hr7, hb7⟩; have X7 := hid (X6.out.new HTT.out hb7); have N7 := hid (N6.out.later hb7); have R7 := hid (rdk_later R6.out hb7); have Q7 := hid hr7; have C7 := hid hc7; clear hr7 hc7 hb7)
          | (go_at_call 38; refine (HMK.out w5 S1 X5.out N5.out).mono ?_; rintro r6 w6 ⟨A3, c3, rfl, hc6, hr6, hb6⟩; have X6 := hid (X5.out.new HTT.out hb6); have N6 := hid (N5.out.later hb6); have R6 := hid hr6; have C6 := hid hc6; clear hr6 hc6 hb6))
        clear HMK HLV X5 X6 N5 N6 R6
        go_upto_region 21 with (first
          | (go_at_call 45; refine (HRT.out w7 A4 A3 c4 c3 X7.out.below N7.out Q7.out R7.out C7.out C6.out).mono ?_; rintro r8 w8 ⟨rfl, hb8⟩; have X8 := hid (X7.out.new HTT.out hb8); have N8 := hid (N7.out.later hb8); have R8 := hid (rdk_later R7.out hb8); have Q8 := hid (rdk_later Q7.out hb8); clear hb8)
          | (refine Great.wpList_allocTo rfl _ rfl _ _ (HAH.out _ _ _ rfl) ?_)
          | (refine wpList_store_row rfl _ (.tmp 15) (.tmp 91) rfl w8.heap.size (ubs nr).toArray rfl rfl 35 (ubs m).toArray (At.new _ _ _) (sizeH_of HNR.out) (by simp [ubs_length, HNL.out, HNR.out]) (ubs_all _) ?_; have hb9 : Below w8.heap.size w8 ((w8.alloc (.cells (ubs m).toArray 35)).setRow w8.heap.size (ubs nr).toArray) := below_setRow ((Below.refl _ _).alloc (Nat.le_refl _) _) (Nat.le_refl _) _; have Y9 := hid (show BqW Pt w S1 b1 k L A1 s A4 lv A3 bs w8.heap.size nr ((w8.alloc (.cells (ubs m).toArray 35)).setRow w8.heap.size (ubs nr).toArray) from ⟨X8.out.new HTT.out hb9, N8.out.later hb9, rdk_later Q8.out hb9, rdk_later R8.out hb9, setRow_heap _ _ _ _ _ _ (At.new _ _ _)⟩); clear hb9; generalize ((w8.alloc (.cells (ubs m).toArray 35)).setRow w8.heap.size (ubs nr).toArray) = w9 at Y9 ⊢; generalize w8.heap.size = G at Y9 ⊢))
        clear HRT X7 X8 N7 N8 R7 R8 Q7 Q8 HAH HNL
        try simp only [Act.put, List.setIfInBounds_toArray, List.set_cons_succ, List.set_cons_zero]
        refine wp_region_facts 18 18 [93, 94, 95, 96, 97, 98, 99, 100, 101, 102, 103, 104, 105, 106, 107, 108, 109, 6] (fun j z _ => z = bkF k b1 A1 ns c1 A4 c4 A3 nb c3 nr j) (BqW Pt w S1 b1 k L A1 s A4 lv A3 bs G nr) (by kernel_rfl) (by kernel_rfl)
          (fun V V' h hb => h.new HTT.out hb) (fun _ _ _ _ h _ => h) (Y9.out.new HTT.out (Below.refl _ _).drew) ?_ ?_
        · intro i hi vals W K hB hn hK
          simp only [frm_cons, frm_nil, List.set_cons_succ, List.set_cons_zero, Nat.reduceAdd] at hK ⊢
          rcases (by omega : i = 0 ∨ i = 1 ∨ i = 2 ∨ i = 3 ∨ i = 4 ∨ i = 5 ∨ i = 6 ∨ i = 7 ∨ i = 8 ∨ i = 9 ∨ i = 10 ∨ i = 11 ∨ i = 12 ∨ i = 13 ∨ i = 14 ∨ i = 15 ∨ i = 16 ∨ i = 17) with rfl | rfl | rfl | rfl | rfl | rfl | rfl | rfl | rfl | rfl | rfl | rfl | rfl | rfl | rfl | rfl | rfl | rfl
          · refine wpOp_plain rfl rfl (wp_val (w' := W) (v := .nilIface) (by go_simp) ?_)
            exact hK _ _ rfl (Below.refl _ _)
          · have h0 := hn 0 (by decide +kernel)
            simp only [bkF] at h0
            simp only [h0] at hK ⊢
            refine wpOp_plain rfl rfl (wp_val (w' := W) (v := .bool true) (by go_simp) ?_)
            exact hK _ _ rfl (Below.refl _ _)
          · have h1 := hn 1 (by decide +kernel)
            simp only [bkF] at h1
            simp only [h1] at hK ⊢
            refine wpOp_plain rfl rfl (wp_val (w' := W) (v := .bool true) (by go_simp) ?_)
            exact hK _ _ rfl (Below.refl _ _)
          · have h2 := hn 2 (by decide +kernel)
            simp only [bkF] at h2
            simp only [h2] at hK ⊢
            refine wpOp_on rfl (by rfl) (wp_val (run_loadH (.tmp 15) rfl G 0 rfl nr (range_whole hB.g) HNR.out) ?_)
            exact hK _ _ rfl (Below.refl _ _)
          · have h2 := hn 2 (by decide +kernel)
            simp only [bkF] at h2
            simp only [h2] at hK ⊢
            refine wpOp_on rfl (by rfl) (wp_val (w' := W) (v := .pointer (some ⟨b1, 0, none⟩)) (by go_simp) ?_)
            exact hK _ _ rfl (Below.refl _ _)
          · have h2 := hn 2 (by decide +kernel)
            have h4 := hn 4 (by decide +kernel)
            simp only [bkF] at h2 h4
            simp only [h2, h4] at hK ⊢
            refine wpOp_on rfl (by rfl) ?_
            go_simp
            go_at_call 32
            refine (HTR.out W S1 hB.t).mono ?_
            rintro e W' ⟨rfl, hb⟩
            exact hK _ _ rfl hb
          · have h2 := hn 2 (by decide +kernel)
            have h3 := hn 3 (by decide +kernel)
            have h5 := hn 5 (by decide +kernel)
            simp only [bkF] at h2 h3 h5
            simp only [h2, h3, h5] at hK ⊢
            refine wpOp_on rfl (by rfl) (wp_val (run_eqlH _ (.tmp 96) (.tmp 98) rfl nr nr HNR.out HNR.out rfl rfl true (by simp) W) ?_)
            exact hK _ _ rfl (Below.refl _ _)
          · have h2 := hn 2 (by decide +kernel)
            have h6 := hn 6 (by decide +kernel)
            simp only [bkF] at h2 h6
            simp only [h2, h6] at hK ⊢
            refine wpOp_plain rfl rfl (wp_val (w' := W) (v := .bool true) (by go_simp) ?_)
            exact hK _ _ rfl (Below.refl _ _)
          · have h7 := hn 7 (by decide +kernel)
            simp only [bkF] at h7
            simp only [h7] at hK ⊢
            refine wpOp_plain rfl rfl (wp_val (w' := W) (v := .bool true) (by go_simp) ?_)
            exact hK _ _ rfl (Below.refl _ _)
          · have h8 := hn 8 (by decide +kernel)
            simp only [bkF] at h8
            simp only [h8] at hK ⊢
            refine wpOp_on rfl (by rfl) (wp_val (run_loadH (.tmp 15) rfl G 0 rfl nr (range_whole hB.g) HNR.out) ?_)
            exact hK _ _ rfl (Below.refl _ _)
          · have h8 := hn 8 (by decide +kernel)
            simp only [bkF] at h8
            simp only [h8] at hK ⊢
            refine wpOp_on rfl (by rfl) (wp_val (w' := W) (v := .int .i64 (k : Int)) (by go_simp) ?_)
            exact hK _ _ rfl (Below.refl _ _)
          · have h8 := hn 8 (by decide +kernel)
            simp only [bkF] at h8
            simp only [h8] at hK ⊢
            refine wpOp_on rfl (by rfl) (wp_val (w' := W) (v := .slice A1 ns c1) (by go_simp) ?_)
            exact hK _ _ rfl (Below.refl _ _)
          · have h8 := hn 8 (by decide +kernel)
            simp only [bkF] at h8
            simp only [h8] at hK ⊢
            refine wpOp_on rfl (by rfl) (wp_val (w' := W) (v := .slice A4 ns c4) (by go_simp) ?_)
            exact hK _ _ rfl (Below.refl _ _)
          · have h8 := hn 8 (by decide +kernel)
            simp only [bkF] at h8
            simp only [h8] at hK ⊢
            refine wpOp_on rfl (by rfl) (wp_val (w' := W) (v := .slice A3 nb c3) (by go_simp) ?_)
            exact hK _ _ rfl (Below.refl _ _)
          · have h8 := hn 8 (by decide +kernel)
            have h9 := hn 9 (by decide +kernel)
            have h10 := hn 10 (by decide +kernel)
            have h11 := hn 11 (by decide +kernel)
            have h12 := hn 12 (by decide +kernel)
            have h13 := hn 13 (by decide +kernel)
            simp only [bkF] at h8 h9 h10 h11 h12 h13
            simp only [h8, h9, h10, h11, h12, h13] at hK ⊢
            refine wpOp_on rfl (by rfl) ?_
            go_simp
            go_at_call 50
            refine (HCK.out W A4 A3 c4 c3 hB.t.below hB.s hB.lv hB.bs C7.out C6.out).mono ?_
            rintro e W' ⟨rfl, hb⟩
            exact hK _ _ rfl hb
          · have h8 := hn 8 (by decide +kernel)
            have h14 := hn 14 (by decide +kernel)
            simp only [bkF] at h8 h14
            simp only [h8, h14] at hK ⊢
            refine wpOp_on rfl (by rfl) (wp_val (w' := W) (v := .bool true) (by go_simp) ?_)
            exact hK _ _ rfl (Below.refl _ _)
          · have h8 := hn 8 (by decide +kernel)
            have h15 := hn 15 (by decide +kernel)
            simp only [bkF] at h8 h15
            simp only [h8, h15] at hK ⊢
            refine wpOp_plain rfl rfl (wp_val (w' := W) (v := .bool true) (by go_simp) ?_)
            exact hK _ _ rfl (Below.refl _ _)
          · have h16 := hn 16 (by decide +kernel)
            simp only [bkF] at h16
            simp only [h16] at hK ⊢
            refine wpOp_plain rfl rfl (wp_val (w' := W) (v := .bool true) (by go_simp) ?_)
            exact hK _ _ rfl (Below.refl _ _)
        · intro vals W hB hF
          have h17 := hF 17 (by omega)
          simp only [bkF] at h17
          simp only [frm_cons, frm_nil, List.set_cons_succ, List.set_cons_zero, Nat.reduceAdd, h17]
          refine wpUpto_done (by decide +kernel) ?_ _
          have NX := hid hB.t.below
          clear hB hF h17
          go_simp
          go_wp2
          go_ret
          exact ⟨rfl, NX.out⟩
      | false =>
        have HMK := hid (fun (V : World) (S : Nat → Prop) (x : BqT Pt w S b1 k L V) (a : Nu V V.heap.size A1 s) => show Calls Tryd.prog 38 #[.pointer (some ⟨b1, 0, none⟩), .slice A1 ns c1] V (fun r W' => r = .returned (.tuple #[.slice none 0 0, .iface 47 (.int .i64 1)]) ∧ Below V.heap.size V W') from by
          rw [HNS.out]
          exact pmake10_no HTT.out x.below x.t s A1 c1 a hg)
        have HLV := hid (fun (V : World) (S : Nat → Prop) (x : BqT Pt w S b1 k L V) (a : Nu V V.heap.size A1 s) => show Calls Tryd.prog 39 #[.pointer (some ⟨b1, 0, none⟩), .slice A1 ns c1] V (fun r W' => r = .returned (.tuple #[.slice none 0 0, .iface 47 (.int .i64 1)]) ∧ Below V.heap.size V W') from by
          rw [HNS.out]
          exact pleaves_no HTT.out x.below x.t s A1 c1 a hg)
        have HPR := hid (fun (V : World) (a : Nu V V.heap.size A1 s) => show Calls Tryd.prog 42 #[.int .i64 (k : Int), .slice A1 ns c1] V (fun r W' => r = .returned (.bool false) ∧ Below V.heap.size V W') from by
          have := pright10_any (k : Int) s A1 c1 V a
          rw [hg] at this
          rw [HNS.out]
          exact this)
        clear hg HGD HLD HNS HTB HAH HNL C3
        go_wp2_with (first
          | (go_at_call 42; refine (HPR.out w7 N7.out).mono ?_; rintro r8 w8 ⟨rfl, hb8⟩; have X8 := hid (X7.out.new HTT.out hb8); clear hb8)
          | (go_at_call 39; refine (HLV.out w6 S1 X6.out N6.out).mono ?_; rintro r7 w7 ⟨rfl, hb7⟩; have X7 := hid (X6.out.new HTT.out hb7); have N7 := hid (N6.out.later hb7); clear hb7)
          | (go_at_call 38; refine (HMK.out w5 S1 X5.out N5.out).mono ?_; rintro r6 w6 ⟨rfl, hb6⟩; have X6 := hid (X5.out.new HTT.out hb6); have N6 := hid (N5.out.later hb6); clear hb6))
        go_ret
        exact ⟨rfl, X8.out.below⟩
end Go.Proofs.YthkbmpocfpbkoaaDoor
