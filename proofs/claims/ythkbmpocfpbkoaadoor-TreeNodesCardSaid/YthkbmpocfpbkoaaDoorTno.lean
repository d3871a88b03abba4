/-
  TreeNodes of layer 9, over what the program's trees are to answer.
-/
import Derived.Test.YthkbmpocfpbkoaaDoorTn
import Derived.Test.YthkbmpocfpbkoaaDoorTv
import Derived.Test.YthkbmpocfpbkoaaDoorThh
import Derived.Test.YthkbmpocfpbkoaaDoorY1
namespace Go.Proofs.YthkbmpocfpbkoaaDoor
open Go.RowKit

/-- What holds between the calls. -/
structure NoW (Pt : PtT) (w : World) (S : Nat → Prop) (b k : Nat) (L : List (Nat × List UInt8)) (A1 E : Option Addr) (F : List (Nat × Array Value × TypeId)) (V : World) : Prop where
  t : Pt S V b k L
  l : Lv V V.heap.size A1 L
  e : Ev V V.heap.size E
  f : ∀ q ∈ F, At V q.1 q.2.1 q.2.2
  below : Below w.heap.size w V
section
variable {Pt : PtT} {w0 w V V' : World} {S : Nat → Prop} {b k : Nat} {L : List (Nat × List UInt8)} {A1 E : Option Addr} {F : List (Nat × Array Value × TypeId)}
theorem NoW.new (t : T9c Pt w0) (x : NoW Pt w S b k L A1 E F V) (hb : Below V.heap.size V V') : NoW Pt w S b k L A1 E F V' :=
  ⟨t.new x.t hb, x.l.new hb, x.e.new hb, fun q hq => (x.f q hq).new_ hb, x.below.trans (hb.mono x.below.size)⟩
theorem NoW.push (x : NoW Pt w S b k L A1 E F V) {g : Nat} {cs : Array Value} {T : TypeId} (h : At V g cs T) : NoW Pt w S b k L A1 E ((g, cs, T) :: F) V :=
  ⟨x.t, x.l, x.e, fun q hq => by
    rcases List.mem_cons.1 hq with rfl | hq
    · exact h
    · exact x.f q hq, x.below⟩
end
def noF1 (lv ai P : Nat) (nd : List UInt8) (O : Array Value) : Nat → Value
  | 0 => .nilIface
  | 3 => .agg (ubs nd).toArray
  | 4 => .agg O
  | 5 => .int .i64 (lv : Int)
  | 6 => .pointer (some ⟨P, 0, none⟩)
  | 7 => .int .u64 (ai : Int)
  | 8 => .agg (ubs nd).toArray
  | _ => .bool false
def noF2 (ai P k c9 : Nat) (A9 : Option Addr) (lf ps : List UInt8) (O : Array Value) (j : Nat) (v : Value) (V : World) : Prop :=
  match j with
  | 0 => v = .nilIface
  | 3 => v = .nilIface
  | 7 => v = .agg (ubs lf).toArray
  | 8 => v = .agg O
  | 9 => v = .pointer (some ⟨P, 0, none⟩)
  | 10 => v = .int .u64 (ai : Int)
  | 11 => v = .agg (ubs lf).toArray
  | 15 => v = .slice A9 k c9
  | 16 => v = .agg O
  | 17 => v = .pointer (some ⟨P, 0, none⟩)
  | 18 => v = .int .u64 (ai : Int)
  | 19 => ∃ B c', v = .slice B k c' ∧ Rd V V.heap.size B (ubs ps)
  | 23 => v = .iface 47 (.int .i64 1)
  | _ => v = .bool true
theorem noF2_new {ai P k c9 : Nat} {A9 : Option Addr} {lf ps : List UInt8} {O : Array Value} {j : Nat} {v : Value} {W W' : World} (h : noF2 ai P k c9 A9 lf ps O j v W) (hb : Below W.heap.size W W') : noF2 ai P k c9 A9 lf ps O j v W' := by
  by_cases e : j = 19
  · subst e
    obtain ⟨B, c', e, r⟩ := h
    exact ⟨B, c', e, (Rd.below r hb).mono hb.size⟩
  · unfold noF2 at h ⊢
    split <;> simp_all
theorem rd_new {V V' : World} {A : Option Addr} {xs : List Value} (h : Rd V V.heap.size A xs) (hb : Below V.heap.size V V') : Rd V' V'.heap.size A xs := (Rd.below h hb).mono hb.size
theorem pathS_nought (L : List (Nat × List UInt8)) (i : Nat) : pathS L i 0 = [] := by with_unfolding_all rfl
theorem pathS_length (L : List (Nat × List UInt8)) (ho : okL L) (i : Nat) : ∀ k, (pathS L i k).length = 32 * k := by
  intro k
  induction k with
  | zero => rw [pathS_nought]; rfl
  | succ k ih => rw [pathS_succ, List.length_append, ih, nodeS_length _ _ _ ho]; omega
theorem at_ub_act1 {W : World} {P : Nat} {a : Act9} {T : TypeId} (hl : a.2.1.length = 32) (h : At W P (actV a).toArray T) : W.cell? ⟨P, 1, none⟩ = some (.int .u8 ((a.2.1.getD 0 0).toNat : Int)) := by
  have := at_act1 h 0 (.int .u8 ((a.2.1.getD 0 0).toNat : Int)) (by
    unfold ubs
    rw [List.getElem?_map, List.getElem?_eq_getElem (by omega), List.getD_eq_getElem?_getD, List.getElem?_eq_getElem (by omega)]
    rfl)
  rwa [Nat.add_zero] at this
set_option maxRecDepth 100000 in
set_option maxHeartbeats 8000000 in
theorem treeNodes_law {Pt : PtT} {w : World} (t : T9c Pt w) (h : Int) (sc : List Act9) (A : Option Addr) (c : Nat) (hsc : Av w w.heap.size A sc) (ho : okA sc) (h1 : -9223372036854775808 ≤ h) (h2 : h < 9223372036854775808) (ai : Nat) (ah : List UInt8) (ad : Bool) (hai : ai < 18446744073709551616) (hah : ah.length = 32) (hT : Tabr w) (hI : Tab w 1 IV.l) :
    Calls Tryd.prog 4 #[.int .i64 h, .slice A sc.length c, .agg (actV (ai, ah, ad)).toArray] w fun r w' => r = .returned (.bool true) ∧ Below w.heap.size w w' := by
  have HAL := hid (alive9_any t)
  have HBW := hid (Below.refl w.heap.size w)
  have HAT := hid (fun (o : Oper) (a : Go.Act) (W : World) (h : o.op = .alloc 28) => run_alloc_of (o := o) (a := a) (W := W) _ h _ zeroTr)
  obtain ⟨Z, hZ⟩ : ∃ Z : Array Value, Z = #[.int .i64 0, .slice none 0 0, .slice none 0 0] := ⟨_, rfl⟩
  have HZS := hid (sizeTr_of Z (by rw [hZ]; rfl))
  have HZE := hid hZ
  have HZ1 := hid (show Z.all (·.oneCell') = true by rw [hZ]; simp [Value.oneCell'])
  have HSZ := hid (fun (cs : Array Value) (e : cs.size = 3) => sizeTr_of cs e)
  rw [← hZ] at HAT
  obtain ⟨n, hnn⟩ : ∃ n, n = sc.length := ⟨_, rfl⟩
  have HLN := hid hnn
  rw [← hnn]
  clear hnn
  obtain ⟨w0, hw0⟩ : ∃ w0, w0 = w.alloc (.cells (actV (ai, ah, ad)).toArray 37) := ⟨_, rfl⟩
  have HB0 := hid (show Below w.heap.size w w0 by rw [hw0]; exact (Below.refl _ _).alloc (Nat.le_refl _) _)
  have HP0 := hid (show At w0 w.heap.size (actV (ai, ah, ad)).toArray 37 by rw [hw0]; exact At.new _ _ _)
  have HAI := hid hai
  have HAHL := hid (show ((ai, ah, ad) : Act9).2.1.length = 32 from hah)
  have HAH := hid (fun (o : Oper) (a : Go.Act) (W : World) (h : o.op = .alloc 35) => run_alloc_of (o := o) (a := a) (W := W) _ h _ zeroH8)
  have HBH := hid (fun (o : Oper) (a : Go.Act) (W : World) (h : o.op = .build 35 #[]) => run_build_hash0 (o := o) (a := a) (W := W) h)
  have HNL2 := hid n32_length
  have HISE := hid (fun V => show Calls Tryd.prog 20 #[.iface 47 (.int .i64 1), .int .i64 1] V (fun e w' => e = .returned (.bool true) ∧ V = w') from by
    have := eis_any 1 1 V
    exact this)
  obtain ⟨m, hm⟩ : ∃ m, m = n32 := ⟨_, rfl⟩
  have HME := hid hm
  rw [← hm] at HAH HBH HNL2
  clear hm
  by_cases hb : bothB h n
  · rw [HLN.out] at hb
    obtain ⟨k, rfl⟩ : ∃ k : Nat, h = (k : Int) := ⟨h.toNat, by unfold bothB at hb; omega⟩
    have hk : k ≤ 32 := by unfold bothB at hb; omega
    have hl : sc.length ≤ 25 := by unfold bothB at hb; omega
    have HTT := hid t
    have HIB := hid (fun (V : World) (q : Below w.heap.size w V) => Tab.below (x := IV.a) (xs := [IV.b, IV.c, IV.d, IV.e, IV.f, IV.g, IV.h]) hI q)
    have HTR := hid (fun (V : World) (q : Below w.heap.size w V) => hT.below q)
    have HSC := hid (fun (V : World) (q : Below w.heap.size w V) => (show Av V w.heap.size A sc from hsc.below q))
    have HBO := hid (fun (V : World) (q : Below w.heap.size w V) => both_ok t k sc A c V q ((hsc.below q).mono q.size) ho hl hk (hT.below q) (HIB.out V q))
    have HOA := hid ho
    have HKK := hid hk
    have HLL := hid hl
    have HGD := hid (Gd.acts hk ho)
    have HBN := hid (Gd.bnd (h := k) sc)
    have HDA := hid (drops_all hk ho)
    obtain ⟨L, hL⟩ : ∃ L, L = acts9 k sc := ⟨_, rfl⟩
    rw [← hL] at HBO HGD HBN HDA
    obtain ⟨NL, hNL⟩ : ∃ m, m = L.length := ⟨_, rfl⟩
    have HNL := hid hNL
    rw [← hNL] at HBO
    rw [← HLN.out] at HBO
    clear hb hL hNL hk hl hT hI hsc ho h1 h2 t hZ hai hah
    obtain ⟨y, hy⟩ : ∃ y, y = ((ai, ah, ad) : Act9).2.1.getD 0 0 := ⟨_, rfl⟩
    have HY := hid hy
    obtain ⟨lv, hlv⟩ : ∃ lv, lv = y.toNat % 40 := ⟨_, rfl⟩
    have HLV := hid (show lv < 40 by omega)
    have em : (y.toNat : Int) % 40 = (lv : Int) := by rw [hlv]; omega
    have HNDE := hid (rfl : nodeS lv ai L = nodeS lv ai L)
    obtain ⟨nd, hnd⟩ : ∃ z, z = nodeS lv ai L := ⟨_, rfl⟩
    replace HNDE := hid hnd
    obtain ⟨lf, hlf⟩ : ∃ z, z = nodeS 0 ai L := ⟨_, rfl⟩
    have HLFE := hid hlf
    obtain ⟨ps, hps⟩ : ∃ z, z = pathS L ai k := ⟨_, rfl⟩
    have HPSE := hid hps
    clear hy hlv hnd hlf hps
    cases hl : hasB k (lv : Int) ai with
    | true =>
      cases h0 : hasB k 0 ai with
      | true =>
        have HND := hid (fun (V : World) (q : Below w.heap.size w V) (S : Nat → Prop) (b : Nat) (p : Pt S V b k L) => show Calls Tryd.prog 18 #[.pointer (some ⟨b, 0, none⟩), .int .i64 (lv : Int), .int .u64 (ai : Int)] V (fun r W' => r = .returned (.tuple #[.agg (ubs nd).toArray, .nilIface]) ∧ Below V.heap.size V W') from by
          have := HTT.out.nodeOk (lv : Int) ai q p (by have := HBN.out; have := HLL.out; omega) HAI.out (by omega) (by have := HLV.out; omega)
          rw [hl, if_pos rfl, Int.toNat_natCast, ← HNDE.out] at this
          exact this)
        have hlk : lv ≤ k := by unfold hasB at hl; simp at hl; omega
        have HRN := hid (fun (V : World) (A1 E : Option Addr) (c1 cE : Nat) (q : Below w.heap.size w V) (v : Lv V V.heap.size A1 L) (e : Ev V V.heap.size E) => show Calls Tryd.prog 21 #[.agg #[.int .i64 (k : Int), .slice A1 NL c1, .slice E 33 cE], .int .i64 (lv : Int), .int .u64 (ai : Int)] V (fun r w' => r = .returned (.agg (ubs nd).toArray) ∧ Below V.heap.size V w') from by
          obtain ⟨gE, oE, rfl, _, _⟩ := e.hash (k := 0) (by omega)
          have := nodeR_any lv (by have := HKK.out; omega) ai HAI.out L (k : Int) (some ⟨gE, oE, none⟩) A1 cE c1 V HGD.out.ok (by have := HBN.out; have := HLL.out; omega) v e (HTR.out V q) (HIB.out V q)
          rw [← HNDE.out, ← HNL.out] at this
          exact this)
        have HNDL := hid (show nd.length = 32 by rw [HNDE.out]; exact nodeS_length _ _ _ HGD.out.ok)
        have HHL := hid (fun (V : World) (A1 E : Option Addr) (c1 cE : Nat) => show Calls Tryd.prog 19 #[.agg #[.int .i64 (k : Int), .slice A1 NL c1, .slice E 33 cE], .int .i64 (lv : Int), .int .u64 (ai : Int)] V (fun r w' => r = .returned (.bool true) ∧ Below V.heap.size V w') from by
          have := hasR_any k (lv : Int) ai A1 E NL c1 33 cE V HKK.out
          rwa [hl] at this)
        have HH0 := hid (fun (V : World) (A1 E : Option Addr) (c1 cE : Nat) => show Calls Tryd.prog 19 #[.agg #[.int .i64 (k : Int), .slice A1 NL c1, .slice E 33 cE], .int .i64 0, .int .u64 (ai : Int)] V (fun r w' => r = .returned (.bool true) ∧ Below V.heap.size V w') from by
          have := hasR_any k 0 ai A1 E NL c1 33 cE V HKK.out
          rwa [h0] at this)
        have HPA := hid (fun (V : World) (q : Below w.heap.size w V) (S : Nat → Prop) (b : Nat) (p : Pt S V b k L) => show Calls Tryd.prog 22 #[.pointer (some ⟨b, 0, none⟩), .int .u64 (ai : Int)] V (fun r W' => ∃ A9 c9, r = .returned (.tuple #[.slice A9 k c9, .nilIface]) ∧ Rd W' W'.heap.size A9 (ubs ps) ∧ Below V.heap.size V W') from by
          have := HTT.out.pathOk ai q p (by have := HBN.out; have := HLL.out; omega) HAI.out
          rw [h0, if_pos rfl, if_pos rfl, ← HPSE.out] at this
          exact this)
        have HLF := hid (fun (V : World) (q : Below w.heap.size w V) (S : Nat → Prop) (b : Nat) (p : Pt S V b k L) => show Calls Tryd.prog 23 #[.pointer (some ⟨b, 0, none⟩), .int .u64 (ai : Int)] V (fun r W' => r = .returned (.tuple #[.agg (ubs lf).toArray, .nilIface]) ∧ Below V.heap.size V W') from by
          have := HTT.out.leafOk ai q p (by have := HBN.out; have := HLL.out; omega) HAI.out
          rw [h0, if_pos rfl, ← HLFE.out] at this
          exact this)
        have HNM := hid (fun (V : World) (q : Below w.heap.size w V) (S : Nat → Prop) (b : Nat) (p : Pt S V b k L) => show Calls Tryd.prog 18 #[.pointer (some ⟨b, 0, none⟩), .int .i64 (-1), .int .u64 0] V (fun r W' => r = .returned (.tuple #[.agg (ubs m).toArray, .iface 47 (.int .i64 1)]) ∧ Below V.heap.size V W') from by
          have := HTT.out.nodeOk (-1) 0 q p (by have := HBN.out; have := HLL.out; omega) (by omega) (by omega) (by omega)
          rw [show hasB k (-1) 0 = false from rfl] at this
          rw [HME.out]
          exact this)
        have HRL := hid (fun (V : World) (A1 E : Option Addr) (c1 cE : Nat) (q : Below w.heap.size w V) (v : Lv V V.heap.size A1 L) (e : Ev V V.heap.size E) => show Calls Tryd.prog 21 #[.agg #[.int .i64 (k : Int), .slice A1 NL c1, .slice E 33 cE], .int .i64 0, .int .u64 (ai : Int)] V (fun r w' => r = .returned (.agg (ubs lf).toArray) ∧ Below V.heap.size V w') from by
          obtain ⟨gE, oE, rfl, _, _⟩ := e.hash (k := 0) (by omega)
          have := nodeR_any 0 (by omega) ai HAI.out L (k : Int) (some ⟨gE, oE, none⟩) A1 cE c1 V HGD.out.ok (by have := HBN.out; have := HLL.out; omega) v e (HTR.out V q) (HIB.out V q)
          rw [← HLFE.out, ← HNL.out] at this
          exact this)
        have HRP := hid (fun (V : World) (A1 E : Option Addr) (c1 cE : Nat) (q : Below w.heap.size w V) (v : Lv V V.heap.size A1 L) (e : Ev V V.heap.size E) => show Calls Tryd.prog 25 #[.agg #[.int .i64 (k : Int), .slice A1 NL c1, .slice E 33 cE], .int .u64 (ai : Int)] V (fun r w' => ∃ A1 c1, r = .returned (.slice A1 k c1) ∧ Rd w' w'.heap.size A1 (ubs ps) ∧ Below V.heap.size V w') from by
          obtain ⟨gE, oE, rfl, _, _⟩ := e.hash (k := 0) (by omega)
          have := pathR_any k HKK.out ai HAI.out L (some ⟨gE, oE, none⟩) A1 cE c1 V HGD.out.ok (by have := HBN.out; have := HLL.out; omega) v e (HTR.out V q) (HIB.out V q)
          rw [← HPSE.out, ← HNL.out] at this
          exact this)
        have HLFL := hid (show lf.length = 32 by rw [HLFE.out]; exact nodeS_length _ _ _ HGD.out.ok)
        have HHH := hid (fun (V : World) (A9 B9 : Option Addr) (c9 d9 : Nat) (a : Rd V V.heap.size A9 (ubs ps)) (b : Rd V V.heap.size B9 (ubs ps)) => show Calls Tryd.prog 24 #[.slice A9 k c9, .slice B9 k d9] V (fun r w' => r = .returned (.bool true) ∧ Below V.heap.size V w') from by
          have hpl : ps.length = 32 * k := by rw [HPSE.out]; exact pathS_length L HGD.out.ok ai k
          have := hashes_any k ps ps A9 B9 c9 d9 V hpl hpl a b (by have := HKK.out; omega)
          rwa [show decide (ps = ps) = true from decide_eq_true rfl] at this)
        clear hl h0 hlk HNDE HLFE HPSE HKK HBN HLL HGD HAI HTR HIB HSC HOA HDA
        go_enter Tryd.func4, Tryd.ntmps4
        go_wp2_with (first
          | (rw [← hw0]; clear hw0; go_at_call 12; refine (HAL.out w0 HB0.out).mono ?_; rintro r1 w1 ⟨rfl, hb1⟩; have B1 := hid (HB0.out.trans (hb1.mono HB0.out.size)); have P1 := hid (HP0.out.new_ hb1); clear hb1)
          | (go_at_call 13; refine (HBO.out w1 B1.out).mono ?_; rintro r2 w2 ⟨S, b, A1, E, c1, cE, rfl, hk2⟩; simp only [ptr]; have N2 := hid (show NoW Pt w S b k L A1 E [(w.heap.size, (actV (ai, ah, ad)).toArray, 37)] w2 from ⟨hk2.t, hk2.l, hk2.e, fun q hq => by (obtain rfl : q = (w.heap.size, (actV (ai, ah, ad)).toArray, 37) := by simpa using hq); exact P1.out.new_ hk2.below, B1.out.trans (hk2.below.mono B1.out.size)⟩); clear hk2)
          | (refine Great.wpList_allocTo rfl _ rfl _ _ (HAT.out _ _ _ rfl) ?_)
          | (refine wpList_store_row rfl _ (.tmp 8) (.tmp 26) rfl w2.heap.size #[.int .i64 (k : Int), .slice A1 NL c1, .slice E 33 cE] rfl rfl 28 Z (At.new _ _ _) (HSZ.out _ rfl) ?x11 ?x12 ?x13; rotate_right; have hb3 : Below w2.heap.size w2 ((w2.alloc (.cells Z 28)).setRow w2.heap.size #[.int .i64 (k : Int), .slice A1 NL c1, .slice E 33 cE]) := below_setRow ((Below.refl _ _).alloc (Nat.le_refl _) _) (Nat.le_refl _) _; have N3 := hid ((N2.out.new HTT.out hb3).push (show At ((w2.alloc (.cells Z 28)).setRow w2.heap.size #[.int .i64 (k : Int), .slice A1 NL c1, .slice E 33 cE]) w2.heap.size #[.int .i64 (k : Int), .slice A1 NL c1, .slice E 33 cE] 28 from setRow_heap _ _ _ _ _ _ (At.new w2 Z 28))); clear hb3; generalize ((w2.alloc (.cells Z 28)).setRow w2.heap.size #[.int .i64 (k : Int), .slice A1 NL c1, .slice E 33 cE]) = w3 at N3 ⊢; generalize w2.heap.size = M at N3 ⊢; have c31 := (show w3.cell? ⟨w.heap.size, 1, none⟩ = some (.int .u8 (y.toNat : Int)) from by rw [HY.out]; exact at_ub_act1 HAHL.out (N3.out.f (w.heap.size, (actV (ai, ah, ad)).toArray, 37) (by simp))); have c30 := at_act0 (N3.out.f (w.heap.size, (actV (ai, ah, ad)).toArray, 37) (by simp)))
          | (go_at_call 18; with_reducible (refine (HND.out w3 N3.out.below S b N3.out.t).mono ?_); rintro r4 w4 ⟨rfl, hb4⟩; have N4 := hid (N3.out.new HTT.out hb4); clear hb4 c31 c30)
          | (refine Great.wpList_allocTo rfl _ rfl _ _ (HAH.out _ _ _ rfl) ?_)
          | (refine wpList_store_row rfl _ (.tmp 12) (.tmp 47) rfl w4.heap.size (ubs nd).toArray rfl rfl 35 (ubs m).toArray (At.new _ _ _) (sizeH_of HNDL.out) (by simp [ubs_length, HNL2.out, HNDL.out]) (ubs_all _) ?_; have N5 := hid ((N4.out.new HTT.out (below_setRow ((Below.refl _ _).alloc (Nat.le_refl _) _) (Nat.le_refl _) _ : Below w4.heap.size w4 ((w4.alloc (.cells (ubs m).toArray 35)).setRow w4.heap.size (ubs nd).toArray))).push (show At ((w4.alloc (.cells (ubs m).toArray 35)).setRow w4.heap.size (ubs nd).toArray) w4.heap.size (ubs nd).toArray 35 from setRow_heap _ _ _ _ _ _ (At.new w4 (ubs m).toArray 35))); generalize ((w4.alloc (.cells (ubs m).toArray 35)).setRow w4.heap.size (ubs nd).toArray) = w4x at N5 ⊢; generalize w4.heap.size = H at N5 ⊢)
          | (refine wpList_valW (by rfl) (run_loadTr (.tmp 8) rfl M rfl _ (N5.out.f (M, #[.int .i64 (k : Int), .slice A1 NL c1, .slice E 33 cE], 28) (by simp)) (HSZ.out _ rfl)) ?_; have c50 := at_act0 (N5.out.f (w.heap.size, (actV (ai, ah, ad)).toArray, 37) (by simp)))
          | (go_at_call 19; with_reducible (refine (HHL.out w4x A1 E c1 cE).mono ?_); rintro r6 w6 ⟨rfl, hb6⟩; have N6 := hid (N5.out.new HTT.out hb6); have c60 := at_act0 (N6.out.f (w.heap.size, (actV (ai, ah, ad)).toArray, 37) (by simp)); clear hb6 c50))
        case x11 => rw [HZE.out]; rfl
        case x12 => simp [Value.oneCell']
        try simp only [Act.put, List.setIfInBounds_toArray, List.set_cons_succ, List.set_cons_zero]
        refine wp_region_facts 11 11 [63, 64, 65, 66, 67, 68, 69, 70, 71, 72, 73] (fun j z _ => z = noF1 lv ai w.heap.size nd #[.int .i64 (k : Int), .slice A1 NL c1, .slice E 33 cE] j) (NoW Pt w S b k L A1 E [(H, (ubs nd).toArray, 35), (M, #[.int .i64 (k : Int), .slice A1 NL c1, .slice E 33 cE], 28), (w.heap.size, (actV (ai, ah, ad)).toArray, 37)]) (by kernel_rfl) (by kernel_rfl)
          (fun V V' h hb => h.new HTT.out hb) (fun _ _ _ _ h _ => h) (N6.out.new HTT.out (Below.refl _ _).drew) ?_ ?_
        · intro i hi vals W K hB hn hK
          simp only [frm_cons, frm_nil, List.set_cons_succ, List.set_cons_zero, Nat.reduceAdd] at hK ⊢
          rcases (by omega : i = 0 ∨ i = 1 ∨ i = 2 ∨ i = 3 ∨ i = 4 ∨ i = 5 ∨ i = 6 ∨ i = 7 ∨ i = 8 ∨ i = 9 ∨ i = 10) with rfl | rfl | rfl | rfl | rfl | rfl | rfl | rfl | rfl | rfl | rfl
          · refine wpOp_plain rfl rfl (wp_val (w' := W) (v := .nilIface) (by go_simp) ?_)
            exact hK _ _ rfl (Below.refl _ _)
          · have h0 := hn 0 (by decide +kernel)
            simp only [noF1] at h0
            simp only [h0] at hK ⊢
            refine wpOp_plain rfl rfl (wp_val (w' := W) (v := .bool false) (by go_simp) ?_)
            exact hK _ _ rfl (Below.refl _ _)
          · have h1 := hn 1 (by decide +kernel)
            simp only [noF1] at h1
            simp only [h1] at hK ⊢
            refine wpOp_plain rfl rfl (wp_val (w' := W) (v := .bool false) (by go_simp) ?_)
            exact hK _ _ rfl (Below.refl _ _)
          · have h2 := hn 2 (by decide +kernel)
            simp only [noF1] at h2
            simp only [h2] at hK ⊢
            refine wpOp_on rfl (by rfl) (wp_val (run_loadH (.tmp 12) rfl H 0 rfl nd (range_whole (hB.f (H, (ubs nd).toArray, 35) (by simp))) HNDL.out) ?_)
            exact hK _ _ rfl (Below.refl _ _)
          · have h2 := hn 2 (by decide +kernel)
            simp only [noF1] at h2
            simp only [h2] at hK ⊢
            refine wpOp_on rfl (by rfl) (wp_val (run_loadTr (.tmp 8) rfl M rfl _ (hB.f (M, #[.int .i64 (k : Int), .slice A1 NL c1, .slice E 33 cE], 28) (by simp)) (HSZ.out _ rfl)) ?_)
            exact hK _ _ rfl (Below.refl _ _)
          · have h2 := hn 2 (by decide +kernel)
            simp only [noF1] at h2
            simp only [h2] at hK ⊢
            refine wpOp_on rfl (by rfl) (wp_val (w' := W) (v := .int .i64 (lv : Int)) (by go_simp) ?_)
            exact hK _ _ rfl (Below.refl _ _)
          · have h2 := hn 2 (by decide +kernel)
            simp only [noF1] at h2
            simp only [h2] at hK ⊢
            refine wpOp_on rfl (by rfl) (wp_val (w' := W) (v := .pointer (some ⟨w.heap.size, 0, none⟩)) (by go_simp) ?_)
            exact hK _ _ rfl (Below.refl _ _)
          · have h2 := hn 2 (by decide +kernel)
            have h6 := hn 6 (by decide +kernel)
            simp only [noF1] at h2 h6
            simp only [h2, h6] at hK ⊢
            have q := at_act0 (hB.f (w.heap.size, (actV (ai, ah, ad)).toArray, 37) (by simp))
            refine wpOp_on rfl (by rfl) (wp_val (w' := W) (v := .int .u64 (ai : Int)) (by go_simp) ?_)
            exact hK _ _ rfl (Below.refl _ _)
          · have h2 := hn 2 (by decide +kernel)
            have h4 := hn 4 (by decide +kernel)
            have h5 := hn 5 (by decide +kernel)
            have h7 := hn 7 (by decide +kernel)
            simp only [noF1] at h2 h4 h5 h7
            simp only [h2, h4, h5, h7] at hK ⊢
            refine wpOp_on rfl (by rfl) ?_
            go_simp
            go_at_call 21
            refine (HRN.out W A1 E c1 cE hB.below hB.l hB.e).mono ?_
            rintro e W' ⟨rfl, hb⟩
            exact hK _ _ rfl hb
          · have h2 := hn 2 (by decide +kernel)
            have h3 := hn 3 (by decide +kernel)
            have h8 := hn 8 (by decide +kernel)
            simp only [noF1] at h2 h3 h8
            simp only [h2, h3, h8] at hK ⊢
            refine wpOp_on rfl (by rfl) (wp_val (run_neqH _ (.tmp 66) (.tmp 71) rfl nd nd HNDL.out HNDL.out rfl rfl false (by simp) W) ?_)
            exact hK _ _ rfl (Below.refl _ _)
          · have h2 := hn 2 (by decide +kernel)
            have h9 := hn 9 (by decide +kernel)
            simp only [noF1] at h2 h9
            simp only [h2, h9] at hK ⊢
            refine wpOp_plain rfl rfl (wp_val (w' := W) (v := .bool false) (by go_simp) ?_)
            exact hK _ _ rfl (Below.refl _ _)
        · intro vals W hB hF
          have h10 := hF 10 (by omega)
          simp only [noF1] at h10
          simp only [frm_cons, frm_nil, List.set_cons_succ, List.set_cons_zero, Nat.reduceAdd, h10]
          refine wpUpto_done (by decide +kernel) ?_ _
          have NX := hid hB
          have c60 := at_act0 (hB.f (w.heap.size, (actV (ai, ah, ad)).toArray, 37) (by simp))
          clear hB hF h10
          go_simp
          go_wp2_with (first
            | (go_at_call 22; refine (HPA.out W NX.out.below S b NX.out.t).mono ?_; rintro r7 w7 ⟨A9, c9, rfl, hr9, hb7⟩; have N7 := hid (NX.out.new HTT.out hb7); have c70 := at_act0 (N7.out.f (w.heap.size, (actV (ai, ah, ad)).toArray, 37) (by simp)); have R7 := hid hr9; clear hr9; clear hb7 c60)
            | (go_at_call 23; refine (HLF.out w7 N7.out.below S b N7.out.t).mono ?_; rintro r8 w8 ⟨rfl, hb8⟩; have N8 := hid (N7.out.new HTT.out hb8); have R8 := hid (rd_new R7.out hb8); clear hb8 c70)
            | (refine Great.wpList_allocTo rfl _ rfl _ _ (HAH.out _ _ _ rfl) ?_)
            | (refine wpList_store_row rfl _ (.tmp 15) (.tmp 86) rfl w8.heap.size (ubs lf).toArray rfl rfl 35 (ubs m).toArray (At.new _ _ _) (sizeH_of HLFL.out) (by simp [ubs_length, HNL2.out, HLFL.out]) (ubs_all _) ?_; have N9 := hid ((N8.out.new HTT.out (below_setRow ((Below.refl _ _).alloc (Nat.le_refl _) _) (Nat.le_refl _) _ : Below w8.heap.size w8 ((w8.alloc (.cells (ubs m).toArray 35)).setRow w8.heap.size (ubs lf).toArray))).push (show At ((w8.alloc (.cells (ubs m).toArray 35)).setRow w8.heap.size (ubs lf).toArray) w8.heap.size (ubs lf).toArray 35 from setRow_heap _ _ _ _ _ _ (At.new w8 (ubs m).toArray 35))); have R9 := hid (rd_new R8.out (below_setRow ((Below.refl _ _).alloc (Nat.le_refl _) _) (Nat.le_refl _) _ : Below w8.heap.size w8 ((w8.alloc (.cells (ubs m).toArray 35)).setRow w8.heap.size (ubs lf).toArray))); generalize ((w8.alloc (.cells (ubs m).toArray 35)).setRow w8.heap.size (ubs lf).toArray) = w8x at N9 R9 ⊢; generalize w8.heap.size = H9 at N9 R9 ⊢)
            | (refine wpList_valW (by rfl) (run_loadTr (.tmp 8) rfl M rfl _ (N9.out.f (M, #[.int .i64 (k : Int), .slice A1 NL c1, .slice E 33 cE], 28) (by simp)) (HSZ.out _ rfl)) ?_; have c90 := at_act0 (N9.out.f (w.heap.size, (actV (ai, ah, ad)).toArray, 37) (by simp)))
            | (go_at_call 19; with_reducible (refine (HH0.out w8x A1 E c1 cE).mono ?_); rintro ra wa ⟨rfl, hba⟩; have NA := hid (N9.out.new HTT.out hba); have hbab := hba; have RAB := hid hbab; clear hbab; clear hba c90)
            | (go_at_call 18; with_reducible (refine (HNM.out wa NA.out.below S b NA.out.t).mono ?_); rintro rb wb ⟨rfl, hbb⟩; have NB := hid (NA.out.new HTT.out hbb); have RB := hid (rd_new (rd_new R9.out RAB.out) hbb); clear hbb)
            | (refine wpList_store_row rfl _ (.tmp 17) (.tmp 107) rfl wb.heap.size (ubs m).toArray rfl rfl 35 (ubs m).toArray (At.new _ _ _) (sizeH_of HNL2.out) (Eq.refl _) (ubs_all _) ?_; have NC := hid ((NB.out.new HTT.out (below_setRow ((Below.refl _ _).alloc (Nat.le_refl _) _) (Nat.le_refl _) _ : Below wb.heap.size wb ((wb.alloc (.cells (ubs m).toArray 35)).setRow wb.heap.size (ubs m).toArray))).push (show At ((wb.alloc (.cells (ubs m).toArray 35)).setRow wb.heap.size (ubs m).toArray) wb.heap.size (ubs m).toArray 35 from setRow_heap _ _ _ _ _ _ (At.new wb (ubs m).toArray 35))); have RC := hid (rd_new RB.out (below_setRow ((Below.refl _ _).alloc (Nat.le_refl _) _) (Nat.le_refl _) _ : Below wb.heap.size wb ((wb.alloc (.cells (ubs m).toArray 35)).setRow wb.heap.size (ubs m).toArray))); generalize ((wb.alloc (.cells (ubs m).toArray 35)).setRow wb.heap.size (ubs m).toArray) = wbx at NC RC ⊢; generalize wb.heap.size = HC at NC RC ⊢))
          try simp only [Act.put, List.setIfInBounds_toArray, List.set_cons_succ, List.set_cons_zero]
          refine wp_region_facts 27 27 [109, 110, 111, 112, 113, 114, 115, 116, 117, 118, 119, 120, 121, 122, 123, 124, 125, 126, 127, 128, 129, 130, 131, 132, 133, 134, 6] (noF2 ai w.heap.size k c9 A9 lf ps #[.int .i64 (k : Int), .slice A1 NL c1, .slice E 33 cE]) (fun V => NoW Pt w S b k L A1 E [(HC, (ubs m).toArray, 35), (H9, (ubs lf).toArray, 35), (H, (ubs nd).toArray, 35), (M, #[.int .i64 (k : Int), .slice A1 NL c1, .slice E 33 cE], 28), (w.heap.size, (actV (ai, ah, ad)).toArray, 37)] V ∧ Rd V V.heap.size A9 (ubs ps)) (by kernel_rfl) (by kernel_rfl)
            (fun V V' h hb => ⟨h.1.new HTT.out hb, (Rd.below h.2 hb).mono hb.size⟩) (fun _ _ _ _ h hb => noF2_new h hb) (⟨NC.out.new HTT.out (Below.refl _ _).drew, RC.out⟩) ?_ ?_
          · intro i hi vals W K hB hn hK
            simp only [frm_cons, frm_nil, List.set_cons_succ, List.set_cons_zero, Nat.reduceAdd] at hK ⊢
            rcases (by omega : i = 0 ∨ i = 1 ∨ i = 2 ∨ i = 3 ∨ i = 4 ∨ i = 5 ∨ i = 6 ∨ i = 7 ∨ i = 8 ∨ i = 9 ∨ i = 10 ∨ i = 11 ∨ i = 12 ∨ i = 13 ∨ i = 14 ∨ i = 15 ∨ i = 16 ∨ i = 17 ∨ i = 18 ∨ i = 19 ∨ i = 20 ∨ i = 21 ∨ i = 22 ∨ i = 23 ∨ i = 24 ∨ i = 25 ∨ i = 26) with rfl | rfl | rfl | rfl | rfl | rfl | rfl | rfl | rfl | rfl | rfl | rfl | rfl | rfl | rfl | rfl | rfl | rfl | rfl | rfl | rfl | rfl | rfl | rfl | rfl | rfl | rfl
            · refine wpOp_plain rfl rfl (wp_val (w' := W) (v := .nilIface) (by go_simp) ?_)
              exact hK _ _ rfl (Below.refl _ _)
            · have h0 := hn 0 (by decide +kernel)
              simp only [noF2] at h0
              simp only [h0] at hK ⊢
              refine wpOp_plain rfl rfl (wp_val (w' := W) (v := .bool true) (by go_simp) ?_)
              exact hK _ _ rfl (Below.refl _ _)
            · have h1 := hn 1 (by decide +kernel)
              simp only [noF2] at h1
              simp only [h1] at hK ⊢
              refine wpOp_plain rfl rfl (wp_val (w' := W) (v := .bool true) (by go_simp) ?_)
              exact hK _ _ rfl (Below.refl _ _)
            · have h2 := hn 2 (by decide +kernel)
              simp only [noF2] at h2
              simp only [h2] at hK ⊢
              refine wpOp_on rfl (by rfl) (wp_val (w' := W) (v := .nilIface) (by go_simp) ?_)
              exact hK _ _ rfl (Below.refl _ _)
            · have h2 := hn 2 (by decide +kernel)
              have h3 := hn 3 (by decide +kernel)
              simp only [noF2] at h2 h3
              simp only [h2, h3] at hK ⊢
              refine wpOp_on rfl (by rfl) (wp_val (w' := W) (v := .bool true) (by go_simp) ?_)
              exact hK _ _ rfl (Below.refl _ _)
            · have h2 := hn 2 (by decide +kernel)
              have h4 := hn 4 (by decide +kernel)
              simp only [noF2] at h2 h4
              simp only [h2, h4] at hK ⊢
              refine wpOp_plain rfl rfl (wp_val (w' := W) (v := .bool true) (by go_simp) ?_)
              exact hK _ _ rfl (Below.refl _ _)
            · have h5 := hn 5 (by decide +kernel)
              simp only [noF2] at h5
              simp only [h5] at hK ⊢
              refine wpOp_plain rfl rfl (wp_val (w' := W) (v := .bool true) (by go_simp) ?_)
              exact hK _ _ rfl (Below.refl _ _)
            · have h6 := hn 6 (by decide +kernel)
              simp only [noF2] at h6
              simp only [h6] at hK ⊢
              refine wpOp_on rfl (by rfl) (wp_val (run_loadH (.tmp 15) rfl H9 0 rfl lf (range_whole (hB.1.f (H9, (ubs lf).toArray, 35) (by simp))) HLFL.out) ?_)
              exact hK _ _ rfl (Below.refl _ _)
            · have h6 := hn 6 (by decide +kernel)
              simp only [noF2] at h6
              simp only [h6] at hK ⊢
              refine wpOp_on rfl (by rfl) (wp_val (run_loadTr (.tmp 8) rfl M rfl _ (hB.1.f (M, #[.int .i64 (k : Int), .slice A1 NL c1, .slice E 33 cE], 28) (by simp)) (HSZ.out _ rfl)) ?_)
              exact hK _ _ rfl (Below.refl _ _)
            · have h6 := hn 6 (by decide +kernel)
              simp only [noF2] at h6
              simp only [h6] at hK ⊢
              refine wpOp_on rfl (by rfl) (wp_val (w' := W) (v := .pointer (some ⟨w.heap.size, 0, none⟩)) (by go_simp) ?_)
              exact hK _ _ rfl (Below.refl _ _)
            · have h6 := hn 6 (by decide +kernel)
              have h9 := hn 9 (by decide +kernel)
              simp only [noF2] at h6 h9
              simp only [h6, h9] at hK ⊢
              have q := at_act0 (hB.1.f (w.heap.size, (actV (ai, ah, ad)).toArray, 37) (by simp))
              refine wpOp_on rfl (by rfl) (wp_val (w' := W) (v := .int .u64 (ai : Int)) (by go_simp) ?_)
              exact hK _ _ rfl (Below.refl _ _)
            · have h6 := hn 6 (by decide +kernel)
              have h8 := hn 8 (by decide +kernel)
              have h10 := hn 10 (by decide +kernel)
              simp only [noF2] at h6 h8 h10
              simp only [h6, h8, h10] at hK ⊢
              refine wpOp_on rfl (by rfl) ?_
              go_simp
              go_at_call 21
              refine (HRL.out W A1 E c1 cE hB.1.below hB.1.l hB.1.e).mono ?_
              rintro e W' ⟨rfl, hb⟩
              exact hK _ _ rfl hb
            · have h6 := hn 6 (by decide +kernel)
              have h7 := hn 7 (by decide +kernel)
              have h11 := hn 11 (by decide +kernel)
              simp only [noF2] at h6 h7 h11
              simp only [h6, h7, h11] at hK ⊢
              refine wpOp_on rfl (by rfl) (wp_val (run_eqlH _ (.tmp 116) (.tmp 120) rfl lf lf HLFL.out HLFL.out rfl rfl true (by simp) W) ?_)
              exact hK _ _ rfl (Below.refl _ _)
            · have h6 := hn 6 (by decide +kernel)
              have h12 := hn 12 (by decide +kernel)
              simp only [noF2] at h6 h12
              simp only [h6, h12] at hK ⊢
              refine wpOp_plain rfl rfl (wp_val (w' := W) (v := .bool true) (by go_simp) ?_)
              exact hK _ _ rfl (Below.refl _ _)
            · have h13 := hn 13 (by decide +kernel)
              simp only [noF2] at h13
              simp only [h13] at hK ⊢
              refine wpOp_plain rfl rfl (wp_val (w' := W) (v := .bool true) (by go_simp) ?_)
              exact hK _ _ rfl (Below.refl _ _)
            · have h14 := hn 14 (by decide +kernel)
              simp only [noF2] at h14
              simp only [h14] at hK ⊢
              refine wpOp_on rfl (by rfl) (wp_val (w' := W) (v := .slice A9 k c9) (by go_simp) ?_)
              exact hK _ _ rfl (Below.refl _ _)
            · have h14 := hn 14 (by decide +kernel)
              simp only [noF2] at h14
              simp only [h14] at hK ⊢
              refine wpOp_on rfl (by rfl) (wp_val (run_loadTr (.tmp 8) rfl M rfl _ (hB.1.f (M, #[.int .i64 (k : Int), .slice A1 NL c1, .slice E 33 cE], 28) (by simp)) (HSZ.out _ rfl)) ?_)
              exact hK _ _ rfl (Below.refl _ _)
            · have h14 := hn 14 (by decide +kernel)
              simp only [noF2] at h14
              simp only [h14] at hK ⊢
              refine wpOp_on rfl (by rfl) (wp_val (w' := W) (v := .pointer (some ⟨w.heap.size, 0, none⟩)) (by go_simp) ?_)
              exact hK _ _ rfl (Below.refl _ _)
            · have h14 := hn 14 (by decide +kernel)
              have h17 := hn 17 (by decide +kernel)
              simp only [noF2] at h14 h17
              simp only [h14, h17] at hK ⊢
              have q := at_act0 (hB.1.f (w.heap.size, (actV (ai, ah, ad)).toArray, 37) (by simp))
              refine wpOp_on rfl (by rfl) (wp_val (w' := W) (v := .int .u64 (ai : Int)) (by go_simp) ?_)
              exact hK _ _ rfl (Below.refl _ _)
            · have h14 := hn 14 (by decide +kernel)
              have h16 := hn 16 (by decide +kernel)
              have h18 := hn 18 (by decide +kernel)
              simp only [noF2] at h14 h16 h18
              simp only [h14, h16, h18] at hK ⊢
              refine wpOp_on rfl (by rfl) ?_
              go_simp
              go_at_call 25
              refine (HRP.out W A1 E c1 cE hB.1.below hB.1.l hB.1.e).mono ?_
              rintro e W' ⟨B9, d9, rfl, hr, hb⟩
              exact hK _ _ ⟨B9, d9, rfl, hr⟩ hb
            · have h14 := hn 14 (by decide +kernel)
              have h15 := hn 15 (by decide +kernel)
              have h19 := hn 19 (by decide +kernel)
              simp only [noF2] at h14 h15
              obtain ⟨B19, c19, e19, R19⟩ := h19
              simp only [h14, h15, e19] at hK ⊢
              refine wpOp_on rfl (by rfl) ?_
              go_simp
              go_at_call 24
              refine (HHH.out W A9 B19 c9 c19 hB.2 R19).mono ?_
              rintro e W' ⟨rfl, hb⟩
              exact hK _ _ rfl hb
            · have h14 := hn 14 (by decide +kernel)
              have h20 := hn 20 (by decide +kernel)
              simp only [noF2] at h14 h20
              simp only [h14, h20] at hK ⊢
              refine wpOp_plain rfl rfl (wp_val (w' := W) (v := .bool true) (by go_simp) ?_)
              exact hK _ _ rfl (Below.refl _ _)
            · have h21 := hn 21 (by decide +kernel)
              simp only [noF2] at h21
              simp only [h21] at hK ⊢
              refine wpOp_plain rfl rfl (wp_val (w' := W) (v := .bool true) (by go_simp) ?_)
              exact hK _ _ rfl (Below.refl _ _)
            · have h22 := hn 22 (by decide +kernel)
              simp only [noF2] at h22
              simp only [h22] at hK ⊢
              refine wpOp_on rfl (by rfl) (wp_val (w' := W) (v := .iface 47 (.int .i64 1)) (by go_simp) ?_)
              exact hK _ _ rfl (Below.refl _ _)
            · have h22 := hn 22 (by decide +kernel)
              have h23 := hn 23 (by decide +kernel)
              simp only [noF2] at h22 h23
              simp only [h22, h23] at hK ⊢
              refine wpOp_on rfl (by rfl) ?_
              go_simp
              go_at_call 20
              refine (HISE.out W).mono ?_
              rintro e W' ⟨rfl, rfl⟩
              exact hK _ _ rfl (Below.refl _ _)
            · have h22 := hn 22 (by decide +kernel)
              have h24 := hn 24 (by decide +kernel)
              simp only [noF2] at h22 h24
              simp only [h22, h24] at hK ⊢
              refine wpOp_plain rfl rfl (wp_val (w' := W) (v := .bool true) (by go_simp) ?_)
              exact hK _ _ rfl (Below.refl _ _)
            · have h25 := hn 25 (by decide +kernel)
              simp only [noF2] at h25
              simp only [h25] at hK ⊢
              refine wpOp_plain rfl rfl (wp_val (w' := W) (v := .bool true) (by go_simp) ?_)
              exact hK _ _ rfl (Below.refl _ _)
          · intro vals W hB hF
            have h26 := hF 26 (by omega)
            simp only [noF2] at h26
            simp only [frm_cons, frm_nil, List.set_cons_succ, List.set_cons_zero, Nat.reduceAdd, h26]
            refine wpUpto_done (by decide +kernel) ?_ _
            have NX := hid hB.1.below
            clear hB hF h26
            go_simp
            go_wp2
            go_ret
            exact ⟨rfl, NX.out⟩
          
      | false =>
        have HND := hid (fun (V : World) (q : Below w.heap.size w V) (S : Nat → Prop) (b : Nat) (p : Pt S V b k L) => show Calls Tryd.prog 18 #[.pointer (some ⟨b, 0, none⟩), .int .i64 (lv : Int), .int .u64 (ai : Int)] V (fun r W' => r = .returned (.tuple #[.agg (ubs nd).toArray, .nilIface]) ∧ Below V.heap.size V W') from by
          have := HTT.out.nodeOk (lv : Int) ai q p (by have := HBN.out; have := HLL.out; omega) HAI.out (by omega) (by have := HLV.out; omega)
          rw [hl, if_pos rfl, Int.toNat_natCast, ← HNDE.out] at this
          exact this)
        have hlk : lv ≤ k := by unfold hasB at hl; simp at hl; omega
        have HRN := hid (fun (V : World) (A1 E : Option Addr) (c1 cE : Nat) (q : Below w.heap.size w V) (v : Lv V V.heap.size A1 L) (e : Ev V V.heap.size E) => show Calls Tryd.prog 21 #[.agg #[.int .i64 (k : Int), .slice A1 NL c1, .slice E 33 cE], .int .i64 (lv : Int), .int .u64 (ai : Int)] V (fun r w' => r = .returned (.agg (ubs nd).toArray) ∧ Below V.heap.size V w') from by
          obtain ⟨gE, oE, rfl, _, _⟩ := e.hash (k := 0) (by omega)
          have := nodeR_any lv (by have := HKK.out; omega) ai HAI.out L (k : Int) (some ⟨gE, oE, none⟩) A1 cE c1 V HGD.out.ok (by have := HBN.out; have := HLL.out; omega) v e (HTR.out V q) (HIB.out V q)
          rw [← HNDE.out, ← HNL.out] at this
          exact this)
        have HNDL := hid (show nd.length = 32 by rw [HNDE.out]; exact nodeS_length _ _ _ HGD.out.ok)
        have HHL := hid (fun (V : World) (A1 E : Option Addr) (c1 cE : Nat) => show Calls Tryd.prog 19 #[.agg #[.int .i64 (k : Int), .slice A1 NL c1, .slice E 33 cE], .int .i64 (lv : Int), .int .u64 (ai : Int)] V (fun r w' => r = .returned (.bool true) ∧ Below V.heap.size V w') from by
          have := hasR_any k (lv : Int) ai A1 E NL c1 33 cE V HKK.out
          rwa [hl] at this)
        have HH0 := hid (fun (V : World) (A1 E : Option Addr) (c1 cE : Nat) => show Calls Tryd.prog 19 #[.agg #[.int .i64 (k : Int), .slice A1 NL c1, .slice E 33 cE], .int .i64 0, .int .u64 (ai : Int)] V (fun r w' => r = .returned (.bool false) ∧ Below V.heap.size V w') from by
          have := hasR_any k 0 ai A1 E NL c1 33 cE V HKK.out
          rwa [h0] at this)
        have HPA := hid (fun (V : World) (q : Below w.heap.size w V) (S : Nat → Prop) (b : Nat) (p : Pt S V b k L) => show Calls Tryd.prog 22 #[.pointer (some ⟨b, 0, none⟩), .int .u64 (ai : Int)] V (fun r W' => ∃ A9 c9, r = .returned (.tuple #[.slice A9 0 c9, .iface 47 (.int .i64 1)]) ∧ Below V.heap.size V W') from by
          have := HTT.out.pathOk ai q p (by have := HBN.out; have := HLL.out; omega) HAI.out
          rw [h0] at this
          exact this.mono fun r W' ⟨A9, c9, e1, _, e3⟩ => ⟨A9, c9, e1, e3⟩)
        have HLF := hid (fun (V : World) (q : Below w.heap.size w V) (S : Nat → Prop) (b : Nat) (p : Pt S V b k L) => show Calls Tryd.prog 23 #[.pointer (some ⟨b, 0, none⟩), .int .u64 (ai : Int)] V (fun r W' => r = .returned (.tuple #[.agg (ubs m).toArray, .iface 47 (.int .i64 1)]) ∧ Below V.heap.size V W') from by
          have := HTT.out.leafOk ai q p (by have := HBN.out; have := HLL.out; omega) HAI.out
          rw [h0] at this
          rw [HME.out]
          exact this)
        clear hl h0 hlk HNDE HLFE HPSE HKK HBN HLL HGD HAI HTR HIB HSC HOA HDA
        go_enter Tryd.func4, Tryd.ntmps4
        go_wp2_with (first
          | (rw [← hw0]; clear hw0; go_at_call 12; refine (HAL.out w0 HB0.out).mono ?_; rintro r1 w1 ⟨rfl, hb1⟩; have B1 := hid (HB0.out.trans (hb1.mono HB0.out.size)); have P1 := hid (HP0.out.new_ hb1); clear hb1)
          | (go_at_call 13; refine (HBO.out w1 B1.out).mono ?_; rintro r2 w2 ⟨S, b, A1, E, c1, cE, rfl, hk2⟩; simp only [ptr]; have N2 := hid (show NoW Pt w S b k L A1 E [(w.heap.size, (actV (ai, ah, ad)).toArray, 37)] w2 from ⟨hk2.t, hk2.l, hk2.e, fun q hq => by (obtain rfl : q = (w.heap.size, (actV (ai, ah, ad)).toArray, 37) := by simpa using hq); exact P1.out.new_ hk2.below, B1.out.trans (hk2.below.mono B1.out.size)⟩); clear hk2)
          | (refine Great.wpList_allocTo rfl _ rfl _ _ (HAT.out _ _ _ rfl) ?_)
          | (refine wpList_store_row rfl _ (.tmp 8) (.tmp 26) rfl w2.heap.size #[.int .i64 (k : Int), .slice A1 NL c1, .slice E 33 cE] rfl rfl 28 Z (At.new _ _ _) (HSZ.out _ rfl) ?x21 ?x22 ?x23; rotate_right; have hb3 : Below w2.heap.size w2 ((w2.alloc (.cells Z 28)).setRow w2.heap.size #[.int .i64 (k : Int), .slice A1 NL c1, .slice E 33 cE]) := below_setRow ((Below.refl _ _).alloc (Nat.le_refl _) _) (Nat.le_refl _) _; have N3 := hid ((N2.out.new HTT.out hb3).push (show At ((w2.alloc (.cells Z 28)).setRow w2.heap.size #[.int .i64 (k : Int), .slice A1 NL c1, .slice E 33 cE]) w2.heap.size #[.int .i64 (k : Int), .slice A1 NL c1, .slice E 33 cE] 28 from setRow_heap _ _ _ _ _ _ (At.new w2 Z 28))); clear hb3; generalize ((w2.alloc (.cells Z 28)).setRow w2.heap.size #[.int .i64 (k : Int), .slice A1 NL c1, .slice E 33 cE]) = w3 at N3 ⊢; generalize w2.heap.size = M at N3 ⊢; have c31 := (show w3.cell? ⟨w.heap.size, 1, none⟩ = some (.int .u8 (y.toNat : Int)) from by rw [HY.out]; exact at_ub_act1 HAHL.out (N3.out.f (w.heap.size, (actV (ai, ah, ad)).toArray, 37) (by simp))); have c30 := at_act0 (N3.out.f (w.heap.size, (actV (ai, ah, ad)).toArray, 37) (by simp)))
          | (go_at_call 18; with_reducible (refine (HND.out w3 N3.out.below S b N3.out.t).mono ?_); rintro r4 w4 ⟨rfl, hb4⟩; have N4 := hid (N3.out.new HTT.out hb4); clear hb4 c31 c30)
          | (refine Great.wpList_allocTo rfl _ rfl _ _ (HAH.out _ _ _ rfl) ?_)
          | (refine wpList_store_row rfl _ (.tmp 12) (.tmp 47) rfl w4.heap.size (ubs nd).toArray rfl rfl 35 (ubs m).toArray (At.new _ _ _) (sizeH_of HNDL.out) (by simp [ubs_length, HNL2.out, HNDL.out]) (ubs_all _) ?_; have N5 := hid ((N4.out.new HTT.out (below_setRow ((Below.refl _ _).alloc (Nat.le_refl _) _) (Nat.le_refl _) _ : Below w4.heap.size w4 ((w4.alloc (.cells (ubs m).toArray 35)).setRow w4.heap.size (ubs nd).toArray))).push (show At ((w4.alloc (.cells (ubs m).toArray 35)).setRow w4.heap.size (ubs nd).toArray) w4.heap.size (ubs nd).toArray 35 from setRow_heap _ _ _ _ _ _ (At.new w4 (ubs m).toArray 35))); generalize ((w4.alloc (.cells (ubs m).toArray 35)).setRow w4.heap.size (ubs nd).toArray) = w4x at N5 ⊢; generalize w4.heap.size = H at N5 ⊢)
          | (refine wpList_valW (by rfl) (run_loadTr (.tmp 8) rfl M rfl _ (N5.out.f (M, #[.int .i64 (k : Int), .slice A1 NL c1, .slice E 33 cE], 28) (by simp)) (HSZ.out _ rfl)) ?_; have c50 := at_act0 (N5.out.f (w.heap.size, (actV (ai, ah, ad)).toArray, 37) (by simp)))
          | (go_at_call 19; with_reducible (refine (HHL.out w4x A1 E c1 cE).mono ?_); rintro r6 w6 ⟨rfl, hb6⟩; have N6 := hid (N5.out.new HTT.out hb6); have c60 := at_act0 (N6.out.f (w.heap.size, (actV (ai, ah, ad)).toArray, 37) (by simp)); clear hb6 c50))
        case x21 => rw [HZE.out]; rfl
        case x22 => simp [Value.oneCell']
        try simp only [Act.put, List.setIfInBounds_toArray, List.set_cons_succ, List.set_cons_zero]
        refine wp_region_facts 11 11 [63, 64, 65, 66, 67, 68, 69, 70, 71, 72, 73] (fun j z _ => z = noF1 lv ai w.heap.size nd #[.int .i64 (k : Int), .slice A1 NL c1, .slice E 33 cE] j) (NoW Pt w S b k L A1 E [(H, (ubs nd).toArray, 35), (M, #[.int .i64 (k : Int), .slice A1 NL c1, .slice E 33 cE], 28), (w.heap.size, (actV (ai, ah, ad)).toArray, 37)]) (by kernel_rfl) (by kernel_rfl)
          (fun V V' h hb => h.new HTT.out hb) (fun _ _ _ _ h _ => h) (N6.out.new HTT.out (Below.refl _ _).drew) ?_ ?_
        · intro i hi vals W K hB hn hK
          simp only [frm_cons, frm_nil, List.set_cons_succ, List.set_cons_zero, Nat.reduceAdd] at hK ⊢
          rcases (by omega : i = 0 ∨ i = 1 ∨ i = 2 ∨ i = 3 ∨ i = 4 ∨ i = 5 ∨ i = 6 ∨ i = 7 ∨ i = 8 ∨ i = 9 ∨ i = 10) with rfl | rfl | rfl | rfl | rfl | rfl | rfl | rfl | rfl | rfl | rfl
          · refine wpOp_plain rfl rfl (wp_val (w' := W) (v := .nilIface) (by go_simp) ?_)
            exact hK _ _ rfl (Below.refl _ _)
          · have h0 := hn 0 (by decide +kernel)
            simp only [noF1] at h0
            simp only [h0] at hK ⊢
            refine wpOp_plain rfl rfl (wp_val (w' := W) (v := .bool false) (by go_simp) ?_)
            exact hK _ _ rfl (Below.refl _ _)
          · have h1 := hn 1 (by decide +kernel)
            simp only [noF1] at h1
            simp only [h1] at hK ⊢
            refine wpOp_plain rfl rfl (wp_val (w' := W) (v := .bool false) (by go_simp) ?_)
            exact hK _ _ rfl (Below.refl _ _)
          · have h2 := hn 2 (by decide +kernel)
            simp only [noF1] at h2
            simp only [h2] at hK ⊢
            refine wpOp_on rfl (by rfl) (wp_val (run_loadH (.tmp 12) rfl H 0 rfl nd (range_whole (hB.f (H, (ubs nd).toArray, 35) (by simp))) HNDL.out) ?_)
            exact hK _ _ rfl (Below.refl _ _)
          · have h2 := hn 2 (by decide +kernel)
            simp only [noF1] at h2
            simp only [h2] at hK ⊢
            refine wpOp_on rfl (by rfl) (wp_val (run_loadTr (.tmp 8) rfl M rfl _ (hB.f (M, #[.int .i64 (k : Int), .slice A1 NL c1, .slice E 33 cE], 28) (by simp)) (HSZ.out _ rfl)) ?_)
            exact hK _ _ rfl (Below.refl _ _)
          · have h2 := hn 2 (by decide +kernel)
            simp only [noF1] at h2
            simp only [h2] at hK ⊢
            refine wpOp_on rfl (by rfl) (wp_val (w' := W) (v := .int .i64 (lv : Int)) (by go_simp) ?_)
            exact hK _ _ rfl (Below.refl _ _)
          · have h2 := hn 2 (by decide +kernel)
            simp only [noF1] at h2
            simp only [h2] at hK ⊢
            refine wpOp_on rfl (by rfl) (wp_val (w' := W) (v := .pointer (some ⟨w.heap.size, 0, none⟩)) (by go_simp) ?_)
            exact hK _ _ rfl (Below.refl _ _)
          · have h2 := hn 2 (by decide +kernel)
            have h6 := hn 6 (by decide +kernel)
            simp only [noF1] at h2 h6
            simp only [h2, h6] at hK ⊢
            have q := at_act0 (hB.f (w.heap.size, (actV (ai, ah, ad)).toArray, 37) (by simp))
            refine wpOp_on rfl (by rfl) (wp_val (w' := W) (v := .int .u64 (ai : Int)) (by go_simp) ?_)
            exact hK _ _ rfl (Below.refl _ _)
          · have h2 := hn 2 (by decide +kernel)
            have h4 := hn 4 (by decide +kernel)
            have h5 := hn 5 (by decide +kernel)
            have h7 := hn 7 (by decide +kernel)
            simp only [noF1] at h2 h4 h5 h7
            simp only [h2, h4, h5, h7] at hK ⊢
            refine wpOp_on rfl (by rfl) ?_
            go_simp
            go_at_call 21
            refine (HRN.out W A1 E c1 cE hB.below hB.l hB.e).mono ?_
            rintro e W' ⟨rfl, hb⟩
            exact hK _ _ rfl hb
          · have h2 := hn 2 (by decide +kernel)
            have h3 := hn 3 (by decide +kernel)
            have h8 := hn 8 (by decide +kernel)
            simp only [noF1] at h2 h3 h8
            simp only [h2, h3, h8] at hK ⊢
            refine wpOp_on rfl (by rfl) (wp_val (run_neqH _ (.tmp 66) (.tmp 71) rfl nd nd HNDL.out HNDL.out rfl rfl false (by simp) W) ?_)
            exact hK _ _ rfl (Below.refl _ _)
          · have h2 := hn 2 (by decide +kernel)
            have h9 := hn 9 (by decide +kernel)
            simp only [noF1] at h2 h9
            simp only [h2, h9] at hK ⊢
            refine wpOp_plain rfl rfl (wp_val (w' := W) (v := .bool false) (by go_simp) ?_)
            exact hK _ _ rfl (Below.refl _ _)
        · intro vals W hB hF
          have h10 := hF 10 (by omega)
          simp only [noF1] at h10
          simp only [frm_cons, frm_nil, List.set_cons_succ, List.set_cons_zero, Nat.reduceAdd, h10]
          refine wpUpto_done (by decide +kernel) ?_ _
          have NX := hid hB
          have c60 := at_act0 (hB.f (w.heap.size, (actV (ai, ah, ad)).toArray, 37) (by simp))
          clear hB hF h10
          go_simp
          go_wp2_with (first
            | (go_at_call 22; refine (HPA.out W NX.out.below S b NX.out.t).mono ?_; rintro r7 w7 ⟨A9, c9, rfl, hb7⟩; have N7 := hid (NX.out.new HTT.out hb7); have c70 := at_act0 (N7.out.f (w.heap.size, (actV (ai, ah, ad)).toArray, 37) (by simp)); clear hb7 c60)
            | (go_at_call 23; refine (HLF.out w7 N7.out.below S b N7.out.t).mono ?_; rintro r8 w8 ⟨rfl, hb8⟩; have N8 := hid (N7.out.new HTT.out hb8); clear hb8 c70)
            | (refine Great.wpList_allocTo rfl _ rfl _ _ (HAH.out _ _ _ rfl) ?_)
            | (refine wpList_store_row rfl _ (.tmp 15) (.tmp 86) rfl w8.heap.size (ubs m).toArray rfl rfl 35 (ubs m).toArray (At.new _ _ _) (sizeH_of HNL2.out) (Eq.refl _) (ubs_all _) ?_; have N9 := hid ((N8.out.new HTT.out (below_setRow ((Below.refl _ _).alloc (Nat.le_refl _) _) (Nat.le_refl _) _ : Below w8.heap.size w8 ((w8.alloc (.cells (ubs m).toArray 35)).setRow w8.heap.size (ubs m).toArray))).push (show At ((w8.alloc (.cells (ubs m).toArray 35)).setRow w8.heap.size (ubs m).toArray) w8.heap.size (ubs m).toArray 35 from setRow_heap _ _ _ _ _ _ (At.new w8 (ubs m).toArray 35))); generalize ((w8.alloc (.cells (ubs m).toArray 35)).setRow w8.heap.size (ubs m).toArray) = w8x at N9 ⊢; generalize w8.heap.size = H9 at N9 ⊢)
            | (refine wpList_valW (by rfl) (run_loadTr (.tmp 8) rfl M rfl _ (N9.out.f (M, #[.int .i64 (k : Int), .slice A1 NL c1, .slice E 33 cE], 28) (by simp)) (HSZ.out _ rfl)) ?_; have c90 := at_act0 (N9.out.f (w.heap.size, (actV (ai, ah, ad)).toArray, 37) (by simp)))
            | (go_at_call 19; with_reducible (refine (HH0.out w8x A1 E c1 cE).mono ?_); rintro ra wa ⟨rfl, hba⟩; have NA := hid (N9.out.new HTT.out hba); clear hba c90)
            | (go_at_call 20; refine (HISE.out _).mono ?_; rintro ri wi ⟨rfl, rfl⟩))
          go_ret
          exact ⟨rfl, NA.out.below⟩
          
    | false =>
      cases h0 : hasB k 0 ai with
      | true =>
        have HND := hid (fun (V : World) (q : Below w.heap.size w V) (S : Nat → Prop) (b : Nat) (p : Pt S V b k L) => show Calls Tryd.prog 18 #[.pointer (some ⟨b, 0, none⟩), .int .i64 (lv : Int), .int .u64 (ai : Int)] V (fun r W' => r = .returned (.tuple #[.agg (ubs m).toArray, .iface 47 (.int .i64 1)]) ∧ Below V.heap.size V W') from by
          have := HTT.out.nodeOk (lv : Int) ai q p (by have := HBN.out; have := HLL.out; omega) HAI.out (by omega) (by have := HLV.out; omega)
          rw [hl] at this
          rw [HME.out]
          exact this)
        have HHL := hid (fun (V : World) (A1 E : Option Addr) (c1 cE : Nat) => show Calls Tryd.prog 19 #[.agg #[.int .i64 (k : Int), .slice A1 NL c1, .slice E 33 cE], .int .i64 (lv : Int), .int .u64 (ai : Int)] V (fun r w' => r = .returned (.bool false) ∧ Below V.heap.size V w') from by
          have := hasR_any k (lv : Int) ai A1 E NL c1 33 cE V HKK.out
          rwa [hl] at this)
        have HH0 := hid (fun (V : World) (A1 E : Option Addr) (c1 cE : Nat) => show Calls Tryd.prog 19 #[.agg #[.int .i64 (k : Int), .slice A1 NL c1, .slice E 33 cE], .int .i64 0, .int .u64 (ai : Int)] V (fun r w' => r = .returned (.bool true) ∧ Below V.heap.size V w') from by
          have := hasR_any k 0 ai A1 E NL c1 33 cE V HKK.out
          rwa [h0] at this)
        have HPA := hid (fun (V : World) (q : Below w.heap.size w V) (S : Nat → Prop) (b : Nat) (p : Pt S V b k L) => show Calls Tryd.prog 22 #[.pointer (some ⟨b, 0, none⟩), .int .u64 (ai : Int)] V (fun r W' => ∃ A9 c9, r = .returned (.tuple #[.slice A9 k c9, .nilIface]) ∧ Rd W' W'.heap.size A9 (ubs ps) ∧ Below V.heap.size V W') from by
          have := HTT.out.pathOk ai q p (by have := HBN.out; have := HLL.out; omega) HAI.out
          rw [h0, if_pos rfl, if_pos rfl, ← HPSE.out] at this
          exact this)
        have HLF := hid (fun (V : World) (q : Below w.heap.size w V) (S : Nat → Prop) (b : Nat) (p : Pt S V b k L) => show Calls Tryd.prog 23 #[.pointer (some ⟨b, 0, none⟩), .int .u64 (ai : Int)] V (fun r W' => r = .returned (.tuple #[.agg (ubs lf).toArray, .nilIface]) ∧ Below V.heap.size V W') from by
          have := HTT.out.leafOk ai q p (by have := HBN.out; have := HLL.out; omega) HAI.out
          rw [h0, if_pos rfl, ← HLFE.out] at this
          exact this)
        have HNM := hid (fun (V : World) (q : Below w.heap.size w V) (S : Nat → Prop) (b : Nat) (p : Pt S V b k L) => show Calls Tryd.prog 18 #[.pointer (some ⟨b, 0, none⟩), .int .i64 (-1), .int .u64 0] V (fun r W' => r = .returned (.tuple #[.agg (ubs m).toArray, .iface 47 (.int .i64 1)]) ∧ Below V.heap.size V W') from by
          have := HTT.out.nodeOk (-1) 0 q p (by have := HBN.out; have := HLL.out; omega) (by omega) (by omega) (by omega)
          rw [show hasB k (-1) 0 = false from rfl] at this
          rw [HME.out]
          exact this)
        have HRL := hid (fun (V : World) (A1 E : Option Addr) (c1 cE : Nat) (q : Below w.heap.size w V) (v : Lv V V.heap.size A1 L) (e : Ev V V.heap.size E) => show Calls Tryd.prog 21 #[.agg #[.int .i64 (k : Int), .slice A1 NL c1, .slice E 33 cE], .int .i64 0, .int .u64 (ai : Int)] V (fun r w' => r = .returned (.agg (ubs lf).toArray) ∧ Below V.heap.size V w') from by
          obtain ⟨gE, oE, rfl, _, _⟩ := e.hash (k := 0) (by omega)
          have := nodeR_any 0 (by omega) ai HAI.out L (k : Int) (some ⟨gE, oE, none⟩) A1 cE c1 V HGD.out.ok (by have := HBN.out; have := HLL.out; omega) v e (HTR.out V q) (HIB.out V q)
          rw [← HLFE.out, ← HNL.out] at this
          exact this)
        have HRP := hid (fun (V : World) (A1 E : Option Addr) (c1 cE : Nat) (q : Below w.heap.size w V) (v : Lv V V.heap.size A1 L) (e : Ev V V.heap.size E) => show Calls Tryd.prog 25 #[.agg #[.int .i64 (k : Int), .slice A1 NL c1, .slice E 33 cE], .int .u64 (ai : Int)] V (fun r w' => ∃ A1 c1, r = .returned (.slice A1 k c1) ∧ Rd w' w'.heap.size A1 (ubs ps) ∧ Below V.heap.size V w') from by
          obtain ⟨gE, oE, rfl, _, _⟩ := e.hash (k := 0) (by omega)
          have := pathR_any k HKK.out ai HAI.out L (some ⟨gE, oE, none⟩) A1 cE c1 V HGD.out.ok (by have := HBN.out; have := HLL.out; omega) v e (HTR.out V q) (HIB.out V q)
          rw [← HPSE.out, ← HNL.out] at this
          exact this)
        have HLFL := hid (show lf.length = 32 by rw [HLFE.out]; exact nodeS_length _ _ _ HGD.out.ok)
        have HHH := hid (fun (V : World) (A9 B9 : Option Addr) (c9 d9 : Nat) (a : Rd V V.heap.size A9 (ubs ps)) (b : Rd V V.heap.size B9 (ubs ps)) => show Calls Tryd.prog 24 #[.slice A9 k c9, .slice B9 k d9] V (fun r w' => r = .returned (.bool true) ∧ Below V.heap.size V w') from by
          have hpl : ps.length = 32 * k := by rw [HPSE.out]; exact pathS_length L HGD.out.ok ai k
          have := hashes_any k ps ps A9 B9 c9 d9 V hpl hpl a b (by have := HKK.out; omega)
          rwa [show decide (ps = ps) = true from decide_eq_true rfl] at this)
        clear hl h0 HNDE HLFE HPSE HKK HBN HLL HGD HAI HTR HIB HSC HOA HDA
        go_enter Tryd.func4, Tryd.ntmps4
        go_wp2_with (first
          | (rw [← hw0]; clear hw0; go_at_call 12; refine (HAL.out w0 HB0.out).mono ?_; rintro r1 w1 ⟨rfl, hb1⟩; have B1 := hid (HB0.out.trans (hb1.mono HB0.out.size)); have P1 := hid (HP0.out.new_ hb1); clear hb1)
          | (go_at_call 13; refine (HBO.out w1 B1.out).mono ?_; rintro r2 w2 ⟨S, b, A1, E, c1, cE, rfl, hk2⟩; simp only [ptr]; have N2 := hid (show NoW Pt w S b k L A1 E [(w.heap.size, (actV (ai, ah, ad)).toArray, 37)] w2 from ⟨hk2.t, hk2.l, hk2.e, fun q hq => by (obtain rfl : q = (w.heap.size, (actV (ai, ah, ad)).toArray, 37) := by simpa using hq); exact P1.out.new_ hk2.below, B1.out.trans (hk2.below.mono B1.out.size)⟩); clear hk2)
          | (refine Great.wpList_allocTo rfl _ rfl _ _ (HAT.out _ _ _ rfl) ?_)
          | (refine wpList_store_row rfl _ (.tmp 8) (.tmp 26) rfl w2.heap.size #[.int .i64 (k : Int), .slice A1 NL c1, .slice E 33 cE] rfl rfl 28 Z (At.new _ _ _) (HSZ.out _ rfl) ?x31 ?x32 ?x33; rotate_right; have hb3 : Below w2.heap.size w2 ((w2.alloc (.cells Z 28)).setRow w2.heap.size #[.int .i64 (k : Int), .slice A1 NL c1, .slice E 33 cE]) := below_setRow ((Below.refl _ _).alloc (Nat.le_refl _) _) (Nat.le_refl _) _; have N3 := hid ((N2.out.new HTT.out hb3).push (show At ((w2.alloc (.cells Z 28)).setRow w2.heap.size #[.int .i64 (k : Int), .slice A1 NL c1, .slice E 33 cE]) w2.heap.size #[.int .i64 (k : Int), .slice A1 NL c1, .slice E 33 cE] 28 from setRow_heap _ _ _ _ _ _ (At.new w2 Z 28))); clear hb3; generalize ((w2.alloc (.cells Z 28)).setRow w2.heap.size #[.int .i64 (k : Int), .slice A1 NL c1, .slice E 33 cE]) = w3 at N3 ⊢; generalize w2.heap.size = M at N3 ⊢; have c31 := (show w3.cell? ⟨w.heap.size, 1, none⟩ = some (.int .u8 (y.toNat : Int)) from by rw [HY.out]; exact at_ub_act1 HAHL.out (N3.out.f (w.heap.size, (actV (ai, ah, ad)).toArray, 37) (by simp))); have c30 := at_act0 (N3.out.f (w.heap.size, (actV (ai, ah, ad)).toArray, 37) (by simp)))
          | (go_at_call 18; with_reducible (refine (HND.out w3 N3.out.below S b N3.out.t).mono ?_); rintro r4 w4 ⟨rfl, hb4⟩; have N4 := hid (N3.out.new HTT.out hb4); clear hb4 c31 c30)
          | (refine Great.wpList_allocTo rfl _ rfl _ _ (HAH.out _ _ _ rfl) ?_)
          | (refine wpList_store_row rfl _ (.tmp 12) (.tmp 47) rfl w4.heap.size (ubs m).toArray rfl rfl 35 (ubs m).toArray (At.new _ _ _) (sizeH_of HNL2.out) (Eq.refl _) (ubs_all _) ?_; have N5 := hid ((N4.out.new HTT.out (below_setRow ((Below.refl _ _).alloc (Nat.le_refl _) _) (Nat.le_refl _) _ : Below w4.heap.size w4 ((w4.alloc (.cells (ubs m).toArray 35)).setRow w4.heap.size (ubs m).toArray))).push (show At ((w4.alloc (.cells (ubs m).toArray 35)).setRow w4.heap.size (ubs m).toArray) w4.heap.size (ubs m).toArray 35 from setRow_heap _ _ _ _ _ _ (At.new w4 (ubs m).toArray 35))); generalize ((w4.alloc (.cells (ubs m).toArray 35)).setRow w4.heap.size (ubs m).toArray) = w4x at N5 ⊢; generalize w4.heap.size = H at N5 ⊢)
          | (refine wpList_valW (by rfl) (run_loadTr (.tmp 8) rfl M rfl _ (N5.out.f (M, #[.int .i64 (k : Int), .slice A1 NL c1, .slice E 33 cE], 28) (by simp)) (HSZ.out _ rfl)) ?_; have c50 := at_act0 (N5.out.f (w.heap.size, (actV (ai, ah, ad)).toArray, 37) (by simp)))
          | (go_at_call 19; with_reducible (refine (HHL.out w4x A1 E c1 cE).mono ?_); rintro r6 w6 ⟨rfl, hb6⟩; have N6 := hid (N5.out.new HTT.out hb6); have c60 := at_act0 (N6.out.f (w.heap.size, (actV (ai, ah, ad)).toArray, 37) (by simp)); clear hb6 c50)
          | (go_at_call 20; refine (HISE.out _).mono ?_; rintro ri wi ⟨rfl, rfl⟩)
          | (refine wpList_valW (by rfl) (run_loadH (.tmp 12) rfl H 0 rfl m (range_whole (N6.out.f (H, (ubs m).toArray, 35) (by simp))) HNL2.out) ?_)
          | (refine wpList_valW (by rfl) (HBH.out _ _ _ rfl) ?_)
          | (refine wpList_valW (by rfl) (run_neqH _ (.tmp 59) (.tmp 60) rfl m m HNL2.out HNL2.out rfl rfl false (by simp) _) ?_)
          | (go_at_call 22; refine (HPA.out w6 N6.out.below S b N6.out.t).mono ?_; rintro r7 w7 ⟨A9, c9, rfl, hr9, hb7⟩; have N7 := hid (N6.out.new HTT.out hb7); have c70 := at_act0 (N7.out.f (w.heap.size, (actV (ai, ah, ad)).toArray, 37) (by simp)); have R7 := hid hr9; clear hr9; clear hb7 c60)
          | (go_at_call 23; refine (HLF.out w7 N7.out.below S b N7.out.t).mono ?_; rintro r8 w8 ⟨rfl, hb8⟩; have N8 := hid (N7.out.new HTT.out hb8); have R8 := hid (rd_new R7.out hb8); clear hb8 c70)
          | (refine Great.wpList_allocTo rfl _ rfl _ _ (HAH.out _ _ _ rfl) ?_)
          | (refine wpList_store_row rfl _ (.tmp 15) (.tmp 86) rfl w8.heap.size (ubs lf).toArray rfl rfl 35 (ubs m).toArray (At.new _ _ _) (sizeH_of HLFL.out) (by simp [ubs_length, HNL2.out, HLFL.out]) (ubs_all _) ?_; have N9 := hid ((N8.out.new HTT.out (below_setRow ((Below.refl _ _).alloc (Nat.le_refl _) _) (Nat.le_refl _) _ : Below w8.heap.size w8 ((w8.alloc (.cells (ubs m).toArray 35)).setRow w8.heap.size (ubs lf).toArray))).push (show At ((w8.alloc (.cells (ubs m).toArray 35)).setRow w8.heap.size (ubs lf).toArray) w8.heap.size (ubs lf).toArray 35 from setRow_heap _ _ _ _ _ _ (At.new w8 (ubs m).toArray 35))); have R9 := hid (rd_new R8.out (below_setRow ((Below.refl _ _).alloc (Nat.le_refl _) _) (Nat.le_refl _) _ : Below w8.heap.size w8 ((w8.alloc (.cells (ubs m).toArray 35)).setRow w8.heap.size (ubs lf).toArray))); generalize ((w8.alloc (.cells (ubs m).toArray 35)).setRow w8.heap.size (ubs lf).toArray) = w8x at N9 R9 ⊢; generalize w8.heap.size = H9 at N9 R9 ⊢)
          | (refine wpList_valW (by rfl) (run_loadTr (.tmp 8) rfl M rfl _ (N9.out.f (M, #[.int .i64 (k : Int), .slice A1 NL c1, .slice E 33 cE], 28) (by simp)) (HSZ.out _ rfl)) ?_; have c90 := at_act0 (N9.out.f (w.heap.size, (actV (ai, ah, ad)).toArray, 37) (by simp)))
          | (go_at_call 19; with_reducible (refine (HH0.out w8x A1 E c1 cE).mono ?_); rintro ra wa ⟨rfl, hba⟩; have NA := hid (N9.out.new HTT.out hba); have hbab := hba; have RAB := hid hbab; clear hbab; clear hba c90)
          | (go_at_call 18; with_reducible (refine (HNM.out wa NA.out.below S b NA.out.t).mono ?_); rintro rb wb ⟨rfl, hbb⟩; have NB := hid (NA.out.new HTT.out hbb); have RB := hid (rd_new (rd_new R9.out RAB.out) hbb); clear hbb)
          | (refine wpList_store_row rfl _ (.tmp 17) (.tmp 107) rfl wb.heap.size (ubs m).toArray rfl rfl 35 (ubs m).toArray (At.new _ _ _) (sizeH_of HNL2.out) (Eq.refl _) (ubs_all _) ?_; have NC := hid ((NB.out.new HTT.out (below_setRow ((Below.refl _ _).alloc (Nat.le_refl _) _) (Nat.le_refl _) _ : Below wb.heap.size wb ((wb.alloc (.cells (ubs m).toArray 35)).setRow wb.heap.size (ubs m).toArray))).push (show At ((wb.alloc (.cells (ubs m).toArray 35)).setRow wb.heap.size (ubs m).toArray) wb.heap.size (ubs m).toArray 35 from setRow_heap _ _ _ _ _ _ (At.new wb (ubs m).toArray 35))); have RC := hid (rd_new RB.out (below_setRow ((Below.refl _ _).alloc (Nat.le_refl _) _) (Nat.le_refl _) _ : Below wb.heap.size wb ((wb.alloc (.cells (ubs m).toArray 35)).setRow wb.heap.size (ubs m).toArray))); generalize ((wb.alloc (.cells (ubs m).toArray 35)).setRow wb.heap.size (ubs m).toArray) = wbx at NC RC ⊢; generalize wb.heap.size = HC at NC RC ⊢))
        case x31 => rw [HZE.out]; rfl
        case x32 => simp [Value.oneCell']
        try simp only [Act.put, List.setIfInBounds_toArray, List.set_cons_succ, List.set_cons_zero]
        refine wp_region_facts 27 27 [109, 110, 111, 112, 113, 114, 115, 116, 117, 118, 119, 120, 121, 122, 123, 124, 125, 126, 127, 128, 129, 130, 131, 132, 133, 134, 6] (noF2 ai w.heap.size k c9 A9 lf ps #[.int .i64 (k : Int), .slice A1 NL c1, .slice E 33 cE]) (fun V => NoW Pt w S b k L A1 E [(HC, (ubs m).toArray, 35), (H9, (ubs lf).toArray, 35), (H, (ubs m).toArray, 35), (M, #[.int .i64 (k : Int), .slice A1 NL c1, .slice E 33 cE], 28), (w.heap.size, (actV (ai, ah, ad)).toArray, 37)] V ∧ Rd V V.heap.size A9 (ubs ps)) (by kernel_rfl) (by kernel_rfl)
          (fun V V' h hb => ⟨h.1.new HTT.out hb, (Rd.below h.2 hb).mono hb.size⟩) (fun _ _ _ _ h hb => noF2_new h hb) (⟨NC.out.new HTT.out (Below.refl _ _).drew, RC.out⟩) ?_ ?_
        · intro i hi vals W K hB hn hK
          simp only [frm_cons, frm_nil, List.set_cons_succ, List.set_cons_zero, Nat.reduceAdd] at hK ⊢
          rcases (by omega : i = 0 ∨ i = 1 ∨ i = 2 ∨ i = 3 ∨ i = 4 ∨ i = 5 ∨ i = 6 ∨ i = 7 ∨ i = 8 ∨ i = 9 ∨ i = 10 ∨ i = 11 ∨ i = 12 ∨ i = 13 ∨ i = 14 ∨ i = 15 ∨ i = 16 ∨ i = 17 ∨ i = 18 ∨ i = 19 ∨ i = 20 ∨ i = 21 ∨ i = 22 ∨ i = 23 ∨ i = 24 ∨ i = 25 ∨ i = 26) with rfl | rfl | rfl | rfl | rfl | rfl | rfl | rfl | rfl | rfl | rfl | rfl | rfl | rfl | rfl | rfl | rfl | rfl | rfl | rfl | rfl | rfl | rfl | rfl | rfl | rfl | rfl
          · refine wpOp_plain rfl rfl (wp_val (w' := W) (v := .nilIface) (by go_simp) ?_)
            exact hK _ _ rfl (Below.refl _ _)
          · have h0 := hn 0 (by decide +kernel)
            simp only [noF2] at h0
            simp only [h0] at hK ⊢
            refine wpOp_plain rfl rfl (wp_val (w' := W) (v := .bool true) (by go_simp) ?_)
            exact hK _ _ rfl (Below.refl _ _)
          · have h1 := hn 1 (by decide +kernel)
            simp only [noF2] at h1
            simp only [h1] at hK ⊢
            refine wpOp_plain rfl rfl (wp_val (w' := W) (v := .bool true) (by go_simp) ?_)
            exact hK _ _ rfl (Below.refl _ _)
          · have h2 := hn 2 (by decide +kernel)
            simp only [noF2] at h2
            simp only [h2] at hK ⊢
            refine wpOp_on rfl (by rfl) (wp_val (w' := W) (v := .nilIface) (by go_simp) ?_)
            exact hK _ _ rfl (Below.refl _ _)
          · have h2 := hn 2 (by decide +kernel)
            have h3 := hn 3 (by decide +kernel)
            simp only [noF2] at h2 h3
            simp only [h2, h3] at hK ⊢
            refine wpOp_on rfl (by rfl) (wp_val (w' := W) (v := .bool true) (by go_simp) ?_)
            exact hK _ _ rfl (Below.refl _ _)
          · have h2 := hn 2 (by decide +kernel)
            have h4 := hn 4 (by decide +kernel)
            simp only [noF2] at h2 h4
            simp only [h2, h4] at hK ⊢
            refine wpOp_plain rfl rfl (wp_val (w' := W) (v := .bool true) (by go_simp) ?_)
            exact hK _ _ rfl (Below.refl _ _)
          · have h5 := hn 5 (by decide +kernel)
            simp only [noF2] at h5
            simp only [h5] at hK ⊢
            refine wpOp_plain rfl rfl (wp_val (w' := W) (v := .bool true) (by go_simp) ?_)
            exact hK _ _ rfl (Below.refl _ _)
          · have h6 := hn 6 (by decide +kernel)
            simp only [noF2] at h6
            simp only [h6] at hK ⊢
            refine wpOp_on rfl (by rfl) (wp_val (run_loadH (.tmp 15) rfl H9 0 rfl lf (range_whole (hB.1.f (H9, (ubs lf).toArray, 35) (by simp))) HLFL.out) ?_)
            exact hK _ _ rfl (Below.refl _ _)
          · have h6 := hn 6 (by decide +kernel)
            simp only [noF2] at h6
            simp only [h6] at hK ⊢
            refine wpOp_on rfl (by rfl) (wp_val (run_loadTr (.tmp 8) rfl M rfl _ (hB.1.f (M, #[.int .i64 (k : Int), .slice A1 NL c1, .slice E 33 cE], 28) (by simp)) (HSZ.out _ rfl)) ?_)
            exact hK _ _ rfl (Below.refl _ _)
          · have h6 := hn 6 (by decide +kernel)
            simp only [noF2] at h6
            simp only [h6] at hK ⊢
            refine wpOp_on rfl (by rfl) (wp_val (w' := W) (v := .pointer (some ⟨w.heap.size, 0, none⟩)) (by go_simp) ?_)
            exact hK _ _ rfl (Below.refl _ _)
          · have h6 := hn 6 (by decide +kernel)
            have h9 := hn 9 (by decide +kernel)
            simp only [noF2] at h6 h9
            simp only [h6, h9] at hK ⊢
            have q := at_act0 (hB.1.f (w.heap.size, (actV (ai, ah, ad)).toArray, 37) (by simp))
            refine wpOp_on rfl (by rfl) (wp_val (w' := W) (v := .int .u64 (ai : Int)) (by go_simp) ?_)
            exact hK _ _ rfl (Below.refl _ _)
          · have h6 := hn 6 (by decide +kernel)
            have h8 := hn 8 (by decide +kernel)
            have h10 := hn 10 (by decide +kernel)
            simp only [noF2] at h6 h8 h10
            simp only [h6, h8, h10] at hK ⊢
            refine wpOp_on rfl (by rfl) ?_
            go_simp
            go_at_call 21
            refine (HRL.out W A1 E c1 cE hB.1.below hB.1.l hB.1.e).mono ?_
            rintro e W' ⟨rfl, hb⟩
            exact hK _ _ rfl hb
          · have h6 := hn 6 (by decide +kernel)
            have h7 := hn 7 (by decide +kernel)
            have h11 := hn 11 (by decide +kernel)
            simp only [noF2] at h6 h7 h11
            simp only [h6, h7, h11] at hK ⊢
            refine wpOp_on rfl (by rfl) (wp_val (run_eqlH _ (.tmp 116) (.tmp 120) rfl lf lf HLFL.out HLFL.out rfl rfl true (by simp) W) ?_)
            exact hK _ _ rfl (Below.refl _ _)
          · have h6 := hn 6 (by decide +kernel)
            have h12 := hn 12 (by decide +kernel)
            simp only [noF2] at h6 h12
            simp only [h6, h12] at hK ⊢
            refine wpOp_plain rfl rfl (wp_val (w' := W) (v := .bool true) (by go_simp) ?_)
            exact hK _ _ rfl (Below.refl _ _)
          · have h13 := hn 13 (by decide +kernel)
            simp only [noF2] at h13
            simp only [h13] at hK ⊢
            refine wpOp_plain rfl rfl (wp_val (w' := W) (v := .bool true) (by go_simp) ?_)
            exact hK _ _ rfl (Below.refl _ _)
          · have h14 := hn 14 (by decide +kernel)
            simp only [noF2] at h14
            simp only [h14] at hK ⊢
            refine wpOp_on rfl (by rfl) (wp_val (w' := W) (v := .slice A9 k c9) (by go_simp) ?_)
            exact hK _ _ rfl (Below.refl _ _)
          · have h14 := hn 14 (by decide +kernel)
            simp only [noF2] at h14
            simp only [h14] at hK ⊢
            refine wpOp_on rfl (by rfl) (wp_val (run_loadTr (.tmp 8) rfl M rfl _ (hB.1.f (M, #[.int .i64 (k : Int), .slice A1 NL c1, .slice E 33 cE], 28) (by simp)) (HSZ.out _ rfl)) ?_)
            exact hK _ _ rfl (Below.refl _ _)
          · have h14 := hn 14 (by decide +kernel)
            simp only [noF2] at h14
            simp only [h14] at hK ⊢
            refine wpOp_on rfl (by rfl) (wp_val (w' := W) (v := .pointer (some ⟨w.heap.size, 0, none⟩)) (by go_simp) ?_)
            exact hK _ _ rfl (Below.refl _ _)
          · have h14 := hn 14 (by decide +kernel)
            have h17 := hn 17 (by decide +kernel)
            simp only [noF2] at h14 h17
            simp only [h14, h17] at hK ⊢
            have q := at_act0 (hB.1.f (w.heap.size, (actV (ai, ah, ad)).toArray, 37) (by simp))
            refine wpOp_on rfl (by rfl) (wp_val (w' := W) (v := .int .u64 (ai : Int)) (by go_simp) ?_)
            exact hK _ _ rfl (Below.refl _ _)
          · have h14 := hn 14 (by decide +kernel)
            have h16 := hn 16 (by decide +kernel)
            have h18 := hn 18 (by decide +kernel)
            simp only [noF2] at h14 h16 h18
            simp only [h14, h16, h18] at hK ⊢
            refine wpOp_on rfl (by rfl) ?_
            go_simp
            go_at_call 25
            refine (HRP.out W A1 E c1 cE hB.1.below hB.1.l hB.1.e).mono ?_
            rintro e W' ⟨B9, d9, rfl, hr, hb⟩
            exact hK _ _ ⟨B9, d9, rfl, hr⟩ hb
          · have h14 := hn 14 (by decide +kernel)
            have h15 := hn 15 (by decide +kernel)
            have h19 := hn 19 (by decide +kernel)
            simp only [noF2] at h14 h15
            obtain ⟨B19, c19, e19, R19⟩ := h19
            simp only [h14, h15, e19] at hK ⊢
            refine wpOp_on rfl (by rfl) ?_
            go_simp
            go_at_call 24
            refine (HHH.out W A9 B19 c9 c19 hB.2 R19).mono ?_
            rintro e W' ⟨rfl, hb⟩
            exact hK _ _ rfl hb
          · have h14 := hn 14 (by decide +kernel)
            have h20 := hn 20 (by decide +kernel)
            simp only [noF2] at h14 h20
            simp only [h14, h20] at hK ⊢
            refine wpOp_plain rfl rfl (wp_val (w' := W) (v := .bool true) (by go_simp) ?_)
            exact hK _ _ rfl (Below.refl _ _)
          · have h21 := hn 21 (by decide +kernel)
            simp only [noF2] at h21
            simp only [h21] at hK ⊢
            refine wpOp_plain rfl rfl (wp_val (w' := W) (v := .bool true) (by go_simp) ?_)
            exact hK _ _ rfl (Below.refl _ _)
          · have h22 := hn 22 (by decide +kernel)
            simp only [noF2] at h22
            simp only [h22] at hK ⊢
            refine wpOp_on rfl (by rfl) (wp_val (w' := W) (v := .iface 47 (.int .i64 1)) (by go_simp) ?_)
            exact hK _ _ rfl (Below.refl _ _)
          · have h22 := hn 22 (by decide +kernel)
            have h23 := hn 23 (by decide +kernel)
            simp only [noF2] at h22 h23
            simp only [h22, h23] at hK ⊢
            refine wpOp_on rfl (by rfl) ?_
            go_simp
            go_at_call 20
            refine (HISE.out W).mono ?_
            rintro e W' ⟨rfl, rfl⟩
            exact hK _ _ rfl (Below.refl _ _)
          · have h22 := hn 22 (by decide +kernel)
            have h24 := hn 24 (by decide +kernel)
            simp only [noF2] at h22 h24
            simp only [h22, h24] at hK ⊢
            refine wpOp_plain rfl rfl (wp_val (w' := W) (v := .bool true) (by go_simp) ?_)
            exact hK _ _ rfl (Below.refl _ _)
          · have h25 := hn 25 (by decide +kernel)
            simp only [noF2] at h25
            simp only [h25] at hK ⊢
            refine wpOp_plain rfl rfl (wp_val (w' := W) (v := .bool true) (by go_simp) ?_)
            exact hK _ _ rfl (Below.refl _ _)
        · intro vals W hB hF
          have h26 := hF 26 (by omega)
          simp only [noF2] at h26
          simp only [frm_cons, frm_nil, List.set_cons_succ, List.set_cons_zero, Nat.reduceAdd, h26]
          refine wpUpto_done (by decide +kernel) ?_ _
          have NX := hid hB.1.below
          clear hB hF h26
          go_simp
          go_wp2
          go_ret
          exact ⟨rfl, NX.out⟩
      | false =>
        have HND := hid (fun (V : World) (q : Below w.heap.size w V) (S : Nat → Prop) (b : Nat) (p : Pt S V b k L) => show Calls Tryd.prog 18 #[.pointer (some ⟨b, 0, none⟩), .int .i64 (lv : Int), .int .u64 (ai : Int)] V (fun r W' => r = .returned (.tuple #[.agg (ubs m).toArray, .iface 47 (.int .i64 1)]) ∧ Below V.heap.size V W') from by
          have := HTT.out.nodeOk (lv : Int) ai q p (by have := HBN.out; have := HLL.out; omega) HAI.out (by omega) (by have := HLV.out; omega)
          rw [hl] at this
          rw [HME.out]
          exact this)
        have HHL := hid (fun (V : World) (A1 E : Option Addr) (c1 cE : Nat) => show Calls Tryd.prog 19 #[.agg #[.int .i64 (k : Int), .slice A1 NL c1, .slice E 33 cE], .int .i64 (lv : Int), .int .u64 (ai : Int)] V (fun r w' => r = .returned (.bool false) ∧ Below V.heap.size V w') from by
          have := hasR_any k (lv : Int) ai A1 E NL c1 33 cE V HKK.out
          rwa [hl] at this)
        have HH0 := hid (fun (V : World) (A1 E : Option Addr) (c1 cE : Nat) => show Calls Tryd.prog 19 #[.agg #[.int .i64 (k : Int), .slice A1 NL c1, .slice E 33 cE], .int .i64 0, .int .u64 (ai : Int)] V (fun r w' => r = .returned (.bool false) ∧ Below V.heap.size V w') from by
          have := hasR_any k 0 ai A1 E NL c1 33 cE V HKK.out
          rwa [h0] at this)
        have HPA := hid (fun (V : World) (q : Below w.heap.size w V) (S : Nat → Prop) (b : Nat) (p : Pt S V b k L) => show Calls Tryd.prog 22 #[.pointer (some ⟨b, 0, none⟩), .int .u64 (ai : Int)] V (fun r W' => ∃ A9 c9, r = .returned (.tuple #[.slice A9 0 c9, .iface 47 (.int .i64 1)]) ∧ Below V.heap.size V W') from by
          have := HTT.out.pathOk ai q p (by have := HBN.out; have := HLL.out; omega) HAI.out
          rw [h0] at this
          exact this.mono fun r W' ⟨A9, c9, e1, _, e3⟩ => ⟨A9, c9, e1, e3⟩)
        have HLF := hid (fun (V : World) (q : Below w.heap.size w V) (S : Nat → Prop) (b : Nat) (p : Pt S V b k L) => show Calls Tryd.prog 23 #[.pointer (some ⟨b, 0, none⟩), .int .u64 (ai : Int)] V (fun r W' => r = .returned (.tuple #[.agg (ubs m).toArray, .iface 47 (.int .i64 1)]) ∧ Below V.heap.size V W') from by
          have := HTT.out.leafOk ai q p (by have := HBN.out; have := HLL.out; omega) HAI.out
          rw [h0] at this
          rw [HME.out]
          exact this)
        clear hl h0 HNDE HLFE HPSE HKK HBN HLL HGD HAI HTR HIB HSC HOA HDA
        go_enter Tryd.func4, Tryd.ntmps4
        go_wp2_with (first
          | (rw [← hw0]; clear hw0; go_at_call 12; refine (HAL.out w0 HB0.out).mono ?_; rintro r1 w1 ⟨rfl, hb1⟩; have B1 := hid (HB0.out.trans (hb1.mono HB0.out.size)); have P1 := hid (HP0.out.new_ hb1); clear hb1)
          | (go_at_call 13; refine (HBO.out w1 B1.out).mono ?_; rintro r2 w2 ⟨S, b, A1, E, c1, cE, rfl, hk2⟩; simp only [ptr]; have N2 := hid (show NoW Pt w S b k L A1 E [(w.heap.size, (actV (ai, ah, ad)).toArray, 37)] w2 from ⟨hk2.t, hk2.l, hk2.e, fun q hq => by (obtain rfl : q = (w.heap.size, (actV (ai, ah, ad)).toArray, 37) := by simpa using hq); exact P1.out.new_ hk2.below, B1.out.trans (hk2.below.mono B1.out.size)⟩); clear hk2)
          | (refine Great.wpList_allocTo rfl _ rfl _ _ (HAT.out _ _ _ rfl) ?_)
          | (refine wpList_store_row rfl _ (.tmp 8) (.tmp 26) rfl w2.heap.size #[.int .i64 (k : Int), .slice A1 NL c1, .slice E 33 cE] rfl rfl 28 Z (At.new _ _ _) (HSZ.out _ rfl) ?x41 ?x42 ?x43; rotate_right; have hb3 : Below w2.heap.size w2 ((w2.alloc (.cells Z 28)).setRow w2.heap.size #[.int .i64 (k : Int), .slice A1 NL c1, .slice E 33 cE]) := below_setRow ((Below.refl _ _).alloc (Nat.le_refl _) _) (Nat.le_refl _) _; have N3 := hid ((N2.out.new HTT.out hb3).push (show At ((w2.alloc (.cells Z 28)).setRow w2.heap.size #[.int .i64 (k : Int), .slice A1 NL c1, .slice E 33 cE]) w2.heap.size #[.int .i64 (k : Int), .slice A1 NL c1, .slice E 33 cE] 28 from setRow_heap _ _ _ _ _ _ (At.new w2 Z 28))); clear hb3; generalize ((w2.alloc (.cells Z 28)).setRow w2.heap.size #[.int .i64 (k : Int), .slice A1 NL c1, .slice E 33 cE]) = w3 at N3 ⊢; generalize w2.heap.size = M at N3 ⊢; have c31 := (show w3.cell? ⟨w.heap.size, 1, none⟩ = some (.int .u8 (y.toNat : Int)) from by rw [HY.out]; exact at_ub_act1 HAHL.out (N3.out.f (w.heap.size, (actV (ai, ah, ad)).toArray, 37) (by simp))); have c30 := at_act0 (N3.out.f (w.heap.size, (actV (ai, ah, ad)).toArray, 37) (by simp)))
          | (go_at_call 18; with_reducible (refine (HND.out w3 N3.out.below S b N3.out.t).mono ?_); rintro r4 w4 ⟨rfl, hb4⟩; have N4 := hid (N3.out.new HTT.out hb4); clear hb4 c31 c30)
          | (refine Great.wpList_allocTo rfl _ rfl _ _ (HAH.out _ _ _ rfl) ?_)
          | (refine wpList_store_row rfl _ (.tmp 12) (.tmp 47) rfl w4.heap.size (ubs m).toArray rfl rfl 35 (ubs m).toArray (At.new _ _ _) (sizeH_of HNL2.out) (Eq.refl _) (ubs_all _) ?_; have N5 := hid ((N4.out.new HTT.out (below_setRow ((Below.refl _ _).alloc (Nat.le_refl _) _) (Nat.le_refl _) _ : Below w4.heap.size w4 ((w4.alloc (.cells (ubs m).toArray 35)).setRow w4.heap.size (ubs m).toArray))).push (show At ((w4.alloc (.cells (ubs m).toArray 35)).setRow w4.heap.size (ubs m).toArray) w4.heap.size (ubs m).toArray 35 from setRow_heap _ _ _ _ _ _ (At.new w4 (ubs m).toArray 35))); generalize ((w4.alloc (.cells (ubs m).toArray 35)).setRow w4.heap.size (ubs m).toArray) = w4x at N5 ⊢; generalize w4.heap.size = H at N5 ⊢)
          | (refine wpList_valW (by rfl) (run_loadTr (.tmp 8) rfl M rfl _ (N5.out.f (M, #[.int .i64 (k : Int), .slice A1 NL c1, .slice E 33 cE], 28) (by simp)) (HSZ.out _ rfl)) ?_; have c50 := at_act0 (N5.out.f (w.heap.size, (actV (ai, ah, ad)).toArray, 37) (by simp)))
          | (go_at_call 19; with_reducible (refine (HHL.out w4x A1 E c1 cE).mono ?_); rintro r6 w6 ⟨rfl, hb6⟩; have N6 := hid (N5.out.new HTT.out hb6); have c60 := at_act0 (N6.out.f (w.heap.size, (actV (ai, ah, ad)).toArray, 37) (by simp)); clear hb6 c50)
          | (go_at_call 20; refine (HISE.out _).mono ?_; rintro ri wi ⟨rfl, rfl⟩)
          | (refine wpList_valW (by rfl) (run_loadH (.tmp 12) rfl H 0 rfl m (range_whole (N6.out.f (H, (ubs m).toArray, 35) (by simp))) HNL2.out) ?_)
          | (refine wpList_valW (by rfl) (HBH.out _ _ _ rfl) ?_)
          | (refine wpList_valW (by rfl) (run_neqH _ (.tmp 59) (.tmp 60) rfl m m HNL2.out HNL2.out rfl rfl false (by simp) _) ?_)
          | (go_at_call 22; refine (HPA.out w6 N6.out.below S b N6.out.t).mono ?_; rintro r7 w7 ⟨A9, c9, rfl, hb7⟩; have N7 := hid (N6.out.new HTT.out hb7); have c70 := at_act0 (N7.out.f (w.heap.size, (actV (ai, ah, ad)).toArray, 37) (by simp)); clear hb7 c60)
          | (go_at_call 23; refine (HLF.out w7 N7.out.below S b N7.out.t).mono ?_; rintro r8 w8 ⟨rfl, hb8⟩; have N8 := hid (N7.out.new HTT.out hb8); clear hb8 c70)
          | (refine Great.wpList_allocTo rfl _ rfl _ _ (HAH.out _ _ _ rfl) ?_)
          | (refine wpList_store_row rfl _ (.tmp 15) (.tmp 86) rfl w8.heap.size (ubs m).toArray rfl rfl 35 (ubs m).toArray (At.new _ _ _) (sizeH_of HNL2.out) (Eq.refl _) (ubs_all _) ?_; have N9 := hid ((N8.out.new HTT.out (below_setRow ((Below.refl _ _).alloc (Nat.le_refl _) _) (Nat.le_refl _) _ : Below w8.heap.size w8 ((w8.alloc (.cells (ubs m).toArray 35)).setRow w8.heap.size (ubs m).toArray))).push (show At ((w8.alloc (.cells (ubs m).toArray 35)).setRow w8.heap.size (ubs m).toArray) w8.heap.size (ubs m).toArray 35 from setRow_heap _ _ _ _ _ _ (At.new w8 (ubs m).toArray 35))); generalize ((w8.alloc (.cells (ubs m).toArray 35)).setRow w8.heap.size (ubs m).toArray) = w8x at N9 ⊢; generalize w8.heap.size = H9 at N9 ⊢)
          | (refine wpList_valW (by rfl) (run_loadTr (.tmp 8) rfl M rfl _ (N9.out.f (M, #[.int .i64 (k : Int), .slice A1 NL c1, .slice E 33 cE], 28) (by simp)) (HSZ.out _ rfl)) ?_; have c90 := at_act0 (N9.out.f (w.heap.size, (actV (ai, ah, ad)).toArray, 37) (by simp)))
          | (go_at_call 19; with_reducible (refine (HH0.out w8x A1 E c1 cE).mono ?_); rintro ra wa ⟨rfl, hba⟩; have NA := hid (N9.out.new HTT.out hba); clear hba c90))
        case x41 => rw [HZE.out]; rfl
        case x42 => simp [Value.oneCell']
        go_ret
        exact ⟨rfl, NA.out.below⟩
  · have HBO := hid (fun (V : World) (q : Below w.heap.size w V) => both_no t h n A c V q hb)
    rw [← hZ] at HBO
    clear hb hT hI hsc ho h1 h2 t hZ hai hah
    go_enter Tryd.func4, Tryd.ntmps4
    go_wp2_with (first
      | (rw [← hw0]; clear hw0; go_at_call 12; refine (HAL.out w0 HB0.out).mono ?_; rintro r1 w1 ⟨rfl, hb1⟩; have B1 := hid (HB0.out.trans (hb1.mono HB0.out.size)); have P1 := hid (HP0.out.new_ hb1); clear hb1)
      | (go_at_call 13; refine (HBO.out w1 B1.out).mono ?_; rintro r2 w2 ⟨rfl, hb2⟩; have B2 := hid (B1.out.trans (hb2.mono B1.out.size)); clear hb2)
      | (refine Great.wpList_allocTo rfl _ rfl _ _ (HAT.out _ _ _ rfl) ?_)
      | (refine wpList_store_row rfl _ (.tmp 8) (.tmp 26) rfl w2.heap.size Z rfl rfl 28 Z (At.new _ _ _) HZS.out rfl HZ1.out ?_; have B3 := hid (B2.out.trans ((below_setRow ((Below.refl _ _).alloc (Nat.le_refl _) _) (Nat.le_refl _) _ : Below w2.heap.size w2 ((w2.alloc (.cells Z 28)).setRow w2.heap.size Z)).mono B2.out.size))))
    go_ret
    exact ⟨rfl, B3.out⟩
end Go.Proofs.YthkbmpocfpbkoaaDoor
