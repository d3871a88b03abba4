/-
  Both of layer 9: the program's tree and the document's behind a script, over what the program's trees are to answer.
-/
import Derived.Test.YtdegmcfcbndelaaDoorL3
namespace Go.Proofs.YtdegmcfcbndelaaDoor
open Go.RowKit

theorem results_four {P : Program} {fn : Func} {u p v x : Tmp} {ty : TypeId} (h : fn.results = #[.tmp u, .cell p ty, .tmp v, .tmp x]) (tmps : Array Value) (w : World) (g : Nat) (t : TypeId) (cs : Array Value) (fr : Nat × Nat) (d : TypeDesc)
    (hp : tmps.getD p undef = .pointer (some ⟨g, 0, none⟩)) (hg : w.heap[g]? = some (.cells cs t fr))
    (hu : P.underlying ty = some d) (hd : (match d with | .struct _ | .array _ _ => true | _ => false) = true) (hi : (P.info? ty).map (·.size) = some cs.size) :
    (results fn tmps).run P w = .ok (.tuple #[tmps.getD u undef, .agg cs, tmps.getD v undef, tmps.getD x undef]) w := by
  have hp' : tmps[p]?.getD undef = .pointer (some ⟨g, 0, none⟩) := by simpa using hp
  simp [results, h, hp', asAddr, Result.andThen, run_loadVar_row w g t ty cs fr d hg hu hd hi]
theorem sizeTr_of (cs : Array Value) (h : cs.size = 3) : (Tryd.prog.info? 33).map (·.size) = some cs.size := by rw [sizeTr, h]
theorem run_build_tr0 {o : Oper} {a : Go.Act} {W : World} (ho : o.op = .build 33 #[]) : (execOp a.eval o).run Tryd.prog W = .ok (.value (.agg #[.int .i64 0, .slice none 0 0, .slice none 0 0])) W :=
  run_build_of _ _ ho _ (by kernel_rfl)
set_option maxRecDepth 100000 in
set_option maxHeartbeats 1000000 in
theorem both_large (h : Int) (n : Nat) (A : Option Addr) (c : Nat) (W : World) (hn : 25 < n) :
    Calls Tryd.prog 13 #[.int .i64 h, .slice A n c] W fun r W' => r = .returned (.tuple #[.pointer none, .agg #[.int .i64 0, .slice none 0 0, .slice none 0 0], .bool true, .bool false]) ∧ Below W.heap.size W W' := by
  have H0 := hid (At.new W #[.int .i64 0, .slice none 0 0, .slice none 0 0] 33)
  have HB0 := hid ((Below.refl W.heap.size W).alloc (Nat.le_refl _) (.cells #[.int .i64 0, .slice none 0 0, .slice none 0 0] 33))
  have HAT := hid (fun (o : Oper) (a : Go.Act) (W : World) (h : o.op = .alloc 33) => run_alloc_of (o := o) (a := a) (W := W) _ h _ zeroTr)
  have HBT := hid (fun (o : Oper) (a : Go.Act) (W : World) (h : o.op = .build 33 #[]) => run_build_tr0 (o := o) (a := a) (W := W) h)
  have hd : decide ((25 : Int) < (n : Int)) = true := by simp; omega
  obtain ⟨Z, hZ⟩ : ∃ Z : Array Value, Z = #[.int .i64 0, .slice none 0 0, .slice none 0 0] := ⟨_, rfl⟩
  have HZS := hid (sizeTr_of Z (by rw [hZ]; rfl))
  have HZ1 := hid (show Z.all (·.oneCell') = true by rw [hZ]; simp [Value.oneCell'])
  rw [← hZ] at H0 HB0 HAT HBT ⊢
  clear hZ hn
  go_enter Tryd.func13, Tryd.ntmps13
  go_wp2_with (first
    | (refine Great.wpList_allocTo rfl _ rfl _ _ (HAT.out _ _ _ rfl) ?_)
    | (refine wpList_valW (by rfl) (HBT.out _ _ _ rfl) ?_)
    | (refine wpList_store_row rfl _ (.tmp 5) (.tmp 18) rfl W.heap.size Z rfl rfl 33 Z H0.out HZS.out rfl HZ1.out ?_))
  refine bodyPost_ret (results_four rfl _ _ W.heap.size 33 Z (0, 0) _ rfl (setRow_heap _ _ _ _ _ _ H0.out) Tryd.underlying33 rfl HZS.out) rfl ?_
  exact ⟨rfl, below_setRow HB0.out (Nat.le_refl _) _⟩
set_option maxRecDepth 100000 in
set_option maxHeartbeats 1000000 in
theorem both_range {Pt : PtT} {w : World} (t : T9c Pt w) (h : Int) (n : Nat) (A : Option Addr) (c : Nat) (W : World) (hW : Below w.heap.size w W) (hn : n ≤ 25) (hh : h < 0 ∨ 32 < h) :
    Calls Tryd.prog 13 #[.int .i64 h, .slice A n c] W fun r W' => r = .returned (.tuple #[.pointer none, .agg #[.int .i64 0, .slice none 0 0, .slice none 0 0], .bool true, .bool false]) ∧ Below W.heap.size W W' := by
  have H0 := hid (At.new W #[.int .i64 0, .slice none 0 0, .slice none 0 0] 33)
  have HB0 := hid ((Below.refl W.heap.size W).alloc (Nat.le_refl _) (.cells #[.int .i64 0, .slice none 0 0, .slice none 0 0] 33))
  have HN := hid (show Calls Tryd.prog 22 #[.int .i64 h] (W.alloc (.cells #[.int .i64 0, .slice none 0 0, .slice none 0 0] 33)) (fun r W' => r = .returned (.tuple #[.pointer none, .iface 42 (.int .i64 1)]) ∧ Below (W.alloc (.cells #[.int .i64 0, .slice none 0 0, .slice none 0 0] 33)).heap.size (W.alloc (.cells #[.int .i64 0, .slice none 0 0, .slice none 0 0] 33)) W') from t.newNo _ h (hW.trans (HB0.out.mono hW.size)) hh)
  have HIS := hid (fun V => show Calls Tryd.prog 16 #[.iface 42 (.int .i64 1), .int .i64 1] V (fun e w' => e = .returned (.bool true) ∧ V = w') from by
    have := eis_any 1 1 V
    exact this)
  have HAT := hid (fun (o : Oper) (a : Go.Act) (W : World) (h : o.op = .alloc 33) => run_alloc_of (o := o) (a := a) (W := W) _ h _ zeroTr)
  have HBT := hid (fun (o : Oper) (a : Go.Act) (W : World) (h : o.op = .build 33 #[]) => run_build_tr0 (o := o) (a := a) (W := W) h)
  have hd : decide ((25 : Int) < (n : Int)) = false := by simp; omega
  obtain ⟨Z, hZ⟩ : ∃ Z : Array Value, Z = #[.int .i64 0, .slice none 0 0, .slice none 0 0] := ⟨_, rfl⟩
  have HZS := hid (sizeTr_of Z (by rw [hZ]; rfl))
  have HZ1 := hid (show Z.all (·.oneCell') = true by rw [hZ]; simp [Value.oneCell'])
  rw [← hZ] at H0 HB0 HAT HBT HN ⊢
  clear hZ hn t hW
  by_cases h0 : h < 0
  · have d0 : decide (h < 0) = true := decide_eq_true h0
    clear h0 hh
    go_enter Tryd.func13, Tryd.ntmps13
    go_wp2_with (first
      | (refine Great.wpList_allocTo rfl _ rfl _ _ (HAT.out _ _ _ rfl) ?_)
      | (refine wpList_valW (by rfl) (HBT.out _ _ _ rfl) ?_)
      | (go_at_call 22; refine HN.out.mono ?_; rintro e1 w1 ⟨rfl, hb1⟩; have H1 := hid (H0.out.new_ hb1); have B1 := hid (HB0.out.trans (hb1.mono HB0.out.size)); clear hb1)
      | (go_at_call 16; refine (HIS.out _).mono ?_; rintro e2 w2 ⟨rfl, rfl⟩)
      | (refine wpList_store_row rfl _ (.tmp 5) (.tmp 30) rfl W.heap.size Z rfl rfl 33 Z H1.out HZS.out rfl HZ1.out ?_))
    refine bodyPost_ret (results_four rfl _ _ W.heap.size 33 Z (0, 0) _ rfl (setRow_heap _ _ _ _ _ _ H1.out) Tryd.underlying33 rfl HZS.out) rfl ?_
    exact ⟨rfl, below_setRow B1.out (Nat.le_refl _) _⟩
  · have d0 : decide (h < 0) = false := decide_eq_false h0
    have d1 : decide ((32 : Int) < h) = true := decide_eq_true (by omega)
    clear h0 hh
    go_enter Tryd.func13, Tryd.ntmps13
    go_wp2_with (first
      | (refine Great.wpList_allocTo rfl _ rfl _ _ (HAT.out _ _ _ rfl) ?_)
      | (refine wpList_valW (by rfl) (HBT.out _ _ _ rfl) ?_)
      | (go_at_call 22; refine HN.out.mono ?_; rintro e1 w1 ⟨rfl, hb1⟩; have H1 := hid (H0.out.new_ hb1); have B1 := hid (HB0.out.trans (hb1.mono HB0.out.size)); clear hb1)
      | (go_at_call 16; refine (HIS.out _).mono ?_; rintro e2 w2 ⟨rfl, rfl⟩)
      | (refine wpList_store_row rfl _ (.tmp 5) (.tmp 30) rfl W.heap.size Z rfl rfl 33 Z H1.out HZS.out rfl HZ1.out ?_))
    refine bodyPost_ret (results_four rfl _ _ W.heap.size 33 Z (0, 0) _ rfl (setRow_heap _ _ _ _ _ _ H1.out) Tryd.underlying33 rfl HZS.out) rfl ?_
    exact ⟨rfl, below_setRow B1.out (Nat.le_refl _) _⟩
theorem Lv.notZ {V : World} {B g o R : Nat} {T : TypeId} {L : List (Nat × List UInt8)} (h : Lv V B (some ⟨g, o, none⟩) L) (hne : L ≠ []) (hz : At V R #[.int .i64 0, .slice none 0 0, .slice none 0 0] T) : g ≠ R := by
  rintro rfl
  cases L with
  | nil => exact hne rfl
  | cons p L =>
    obtain ⟨g', o', e, _, hc⟩ := h (by rw [lrow_cons, lfV]; simp)
    cases e
    have := hc 0 (.int .u64 (p.1 : Int)) (by rw [lrow_cons, lfV]; rfl)
    rw [Nat.add_zero, hz.cell] at this
    rcases o with _ | _ | _ | o <;> simp at this
theorem Ev.notZ {V : World} {B g o R : Nat} {T : TypeId} (h : Ev V B (some ⟨g, o, none⟩)) (hz : At V R #[.int .i64 0, .slice none 0 0, .slice none 0 0] T) : g ≠ R := by
  rintro rfl
  obtain ⟨g', o', e, _, hr⟩ := h.hash (k := 0) (by omega)
  cases e
  have hl := emptyL_length 0
  cases hE : emptyL 0 with
  | nil => rw [hE] at hl; cases hl
  | cons x l =>
    rw [hE] at hr
    have := hr 0 (.int .u8 (x.toNat : Int)) rfl
    simp only [Nat.mul_zero, Nat.add_zero, hz.cell] at this
    rcases o with _ | _ | _ | o <;> simp at this
/-- What Both has where it has trees. -/
structure BoW (Pt : PtT) (W : World) (S : Nat → Prop) (b h : Nat) (L : List (Nat × List UInt8)) (A1 E : Option Addr) (W' : World) : Prop where
  t : Pt S W' b h L
  l : Lv W' W'.heap.size A1 L
  e : Ev W' W'.heap.size E
  far : ∀ k, S k → W.heap.size ≤ k
  sA : ∀ g o, A1 = some ⟨g, o, none⟩ → L ≠ [] → ¬ S g
  sE : ∀ g o, E = some ⟨g, o, none⟩ → ¬ S g
  below : Below W.heap.size W W'
set_option maxRecDepth 100000 in
set_option maxHeartbeats 8000000 in
theorem both_ok {Pt : PtT} {w : World} (t : T9c Pt w) (h : Nat) (sc : List Act9) (A : Option Addr) (c : Nat) (W : World) (hW : Below w.heap.size w W) (hsc : Av W W.heap.size A sc) (ho : okA sc) (hn : sc.length ≤ 25) (hh : h ≤ 32) (hT : Tabr W) (hI : Tab W 1 IV.l) :
    Calls Tryd.prog 13 #[.int .i64 (h : Int), .slice A sc.length c] W fun r W' => ∃ S b A1 E c1 cE, r = .returned (.tuple #[ptr b, .agg #[.int .i64 (h : Int), .slice A1 (acts9 h sc).length c1, .slice E 33 cE], .bool true, .bool true]) ∧ BoW Pt W S b h (acts9 h sc) A1 E W' := by
  have H0 := hid (At.new W #[.int .i64 0, .slice none 0 0, .slice none 0 0] 33)
  have HB0 := hid ((Below.refl W.heap.size W).alloc (Nat.le_refl _) (.cells #[.int .i64 0, .slice none 0 0, .slice none 0 0] 33))
  have HW := hid hW
  have HN := hid (show Calls Tryd.prog 22 #[.int .i64 (h : Int)] (W.alloc (.cells #[.int .i64 0, .slice none 0 0, .slice none 0 0] 33)) (fun r W' => ∃ S b, r = .returned (.tuple #[.pointer (some ⟨b, 0, none⟩), .nilIface]) ∧ Pt S W' b h [] ∧ (∀ k, S k → (W.alloc (.cells #[.int .i64 0, .slice none 0 0, .slice none 0 0] 33)).heap.size ≤ k) ∧ Below (W.alloc (.cells #[.int .i64 0, .slice none 0 0, .slice none 0 0] 33)).heap.size (W.alloc (.cells #[.int .i64 0, .slice none 0 0, .slice none 0 0] 33)) W') from t.newOk _ h (hW.trans (HB0.out.mono hW.size)) hh)
  have HRN := hid (fun (V : World) (hb : Below W.heap.size W V) => newR9_any (h : Int) V (hT.below hb) (Tab.below (x := IV.a) (xs := [IV.b, IV.c, IV.d, IV.e, IV.f, IV.g, IV.h]) hI hb))
  have HTT := hid t
  have HSC := hid (fun (V : World) (hb : Below W.heap.size W V) => hsc.below hb)
  have HOA := hid ho
  have HNUM := hid (fun (k : Nat) V => enum_any k V)
  have HAT := hid (fun (o : Oper) (a : Go.Act) (W : World) (h : o.op = .alloc 33) => run_alloc_of (o := o) (a := a) (W := W) _ h _ zeroTr)
  have HAA := hid (fun (o : Oper) (a : Go.Act) (W : World) (h : o.op = .alloc 27) => run_alloc_of (o := o) (a := a) (W := W) _ h _ zeroAc)
  have HAH := hid (fun (o : Oper) (a : Go.Act) (W : World) (h : o.op = .alloc 25) => run_alloc_of (o := o) (a := a) (W := W) _ h _ zeroH8)
  have hd25 : decide ((25 : Int) < (sc.length : Int)) = false := by simp; omega
  have d0 : decide ((h : Int) < 0) = false := by simp
  have d1 : decide ((32 : Int) < (h : Int)) = false := by simp; omega
  obtain ⟨Z, hZ⟩ : ∃ Z : Array Value, Z = #[.int .i64 0, .slice none 0 0, .slice none 0 0] := ⟨_, rfl⟩
  have HZS := hid (sizeTr_of Z (by rw [hZ]; rfl))
  have HZE := hid hZ
  have HSZ := hid (fun (cs : Array Value) (e : cs.size = 3) => sizeTr_of cs e)
  have HHH := hid hh
  have HNN := hid hn
  rw [← hZ] at H0 HB0 HAT HN
  clear hZ hn hW hsc ho hT hI t hh
  obtain ⟨n, hn⟩ : ∃ n, n = sc.length := ⟨_, rfl⟩
  rw [← hn] at hd25 ⊢
  have HLN := hid hn
  clear hn
  go_enter Tryd.func13, Tryd.ntmps13
  go_wp2_with (first
    | (refine Great.wpList_allocTo rfl _ rfl _ _ (HAT.out _ _ _ rfl) ?_)
    | (go_at_call 22; refine HN.out.mono ?_; rintro e1 w1 ⟨S, b, rfl, p1, f1, hb1⟩; have P1 := hid p1; have F1 := hid f1; have H1 := hid (H0.out.new_ hb1); have B1 := hid (HB0.out.trans (hb1.mono HB0.out.size)); clear p1 f1 hb1)
    | (go_at_call 56; refine (HRN.out w1 B1.out).mono ?_; rintro e2 w2 ⟨g, cE, rfl, he2, hb2, hg2⟩; have E2 := hid he2; have G2 := hid hg2; have C2 := hid hb2; have B2 := hid (B1.out.trans (hb2.mono B1.out.size)); clear he2 hb2 hg2)
    | (refine wpList_store_row rfl _ (.tmp 10) (.tmp 38) rfl w2.heap.size #[.int .i64 (h : Int), .slice none 0 0, .slice (some ⟨g, 0, none⟩) 33 cE] rfl rfl 33 Z (heap_alloc_new _ _) (HSZ.out _ rfl) ?e5 ?e6 ?e7; rotate_right))
  case e5 => rw [HZE.out]; rfl
  case e6 => simp [Value.oneCell']
  have hbM : Below w2.heap.size w2 ((w2.alloc (.cells Z 33)).setRow w2.heap.size #[.int .i64 (h : Int), .slice none 0 0, .slice (some ⟨g, 0, none⟩) 33 cE]) := below_setRow ((Below.refl _ _).alloc (Nat.le_refl _) _) (Nat.le_refl _) _
  have hgl : g < w2.heap.size := by
    obtain ⟨g', o', e', hg', _⟩ := E2.out.hash (k := 0) (by omega)
    cases e'
    exact hg'
  have hS1 : ∀ k, S k → k < w1.heap.size := fun k hk => (HTT.out.inn P1.out k hk).2
  have KB := hid (show BtW Pt W S b h [] [] [(W.heap.size, Z, 33)] w2.heap.size none (some ⟨g, 0, none⟩) 0 cE ((w2.alloc (.cells Z 33)).setRow w2.heap.size #[.int .i64 (h : Int), .slice none 0 0, .slice (some ⟨g, 0, none⟩) 33 cE]) from by
    have hc := C2.out.size
    have hb := B1.out.size
    have hH := H1.out.lt
    refine ⟨HTT.out.new (HTT.out.new P1.out C2.out) hbM, setRow_heap _ _ _ _ _ _ (At.new w2 Z 33), ?_, E2.out.new hbM, fun q hq => ?_, fun hs => by have := hS1 _ hs; omega, (fun _ _ e => nomatch e), fun g' o' e => ?_, fun k hk => ?_, ⟨?_, fun q hq => ?_⟩, B2.out.trans (hbM.mono B2.out.size)⟩
    · exact (show Rd _ _ none (lrow []) by rw [lrow_nil]; exact Rd.nil _ _ _)
    · obtain rfl : q = (W.heap.size, Z, 33) := by simpa using hq
      refine ⟨(H1.out.new_ C2.out).new_ hbM, fun hs => ?_⟩
      have h2 : (W.alloc (.cells Z 33)).heap.size = W.heap.size + 1 := by simp
      have h3 := F1.out W.heap.size hs
      omega
    · obtain ⟨rfl, rfl⟩ : g = g' ∧ 0 = o' := by simpa using e
      have hG := G2.out
      exact ⟨fun hs => by have := hS1 _ hs; omega, by omega⟩
    · have h2 : (W.alloc (.cells Z 33)).heap.size = W.heap.size + 1 := by simp
      have h3 := F1.out k hk
      omega
    · omega
    · obtain rfl : q = (W.heap.size, Z, 33) := by simpa using hq
      show W.heap.size ≠ w2.heap.size
      omega)
  generalize ((w2.alloc (.cells Z 33)).setRow w2.heap.size #[.int .i64 (h : Int), .slice none 0 0, .slice (some ⟨g, 0, none⟩) 33 cE]) = w3 at KB ⊢
  generalize w2.heap.size = M at KB ⊢
  clear hbM hgl hS1 H0 HB0 HN HRN P1 F1 H1 B1 E2 G2 C2 B2 d0 d1 hd25
  go_wp2
  go_loopw [41] (fun v wr => ∃ (k : Nat) (S : Nat → Prop) (A1 : Option Addr) (c1 : Nat), k ≤ n ∧ v = .int .i64 (k : Int) ∧ BtW Pt W S b h (acts9 h (sc.take k)) (acts9 h (sc.take k)) [(W.heap.size, Z, 33)] M A1 (some ⟨g, 0, none⟩) c1 cE wr) (fun v _ => n - (intOf v).toNat)
  case atStart => exact ⟨0, S, none, 0, by omega, rfl, by rw [acts9_zero]; exact KB.out⟩
  case round =>
    clear KB S
    obtain ⟨k, S, A1, c1, hk, rfl, hKW⟩ := hrel
    by_cases hlt : k < n
    · have hd : decide ((k : Int) < (n : Int)) = true := by simp; omega
      have hkl : k < sc.length := by rw [← HLN.out]; exact hlt
      obtain ⟨a, ha⟩ : ∃ a, a = sc[k] := ⟨_, rfl⟩
      obtain ⟨q, o, rfl, hq, hra⟩ := (HSC.out wr hKW.below).act HOA.out hkl
      rw [← ha] at hra
      have hoa : a.1 < 18446744073709551616 ∧ a.2.1.length = 32 := by rw [ha]; exact HOA.out.get hkl
      obtain ⟨x, hx⟩ : ∃ x, x = o + k * 34 := ⟨_, rfl⟩
      have hra' : wr.rangeAt q x (actV a) := by rw [hx, show o + k * 34 = o + 34 * k by omega]; exact hra
      have hnx : acts9 h (sc.take (k + 1)) = act9 h (acts9 h (sc.take k)) a := by rw [ha]; exact acts9_next h sc k hkl
      have hle : (acts9 h (sc.take k)).length ≤ k := acts9_le h sc k (by omega)
      have HNX := hid hnx
      have hgd : Gd h (acts9 h (sc.take k)) := HTT.out.good hKW.t
      generalize acts9 h (sc.take k) = L at HNX hle hgd hKW
      have HKW := hid hKW
      have HRA := hid hra'
      have HOK := hid hoa
      have HGD := hid hgd
      have HLE := hid (show L.length ≤ 25 by have := HNN.out; have := HLN.out; omega)
      have e3 : o + k * 34 = x := hx.symm
      obtain ⟨k1, hk1⟩ : ∃ m, m = k + 1 := ⟨_, rfl⟩
      have HK1 := hid hk1
      have HKL := hid (show k1 ≤ n by omega)
      have HMS := hid (show n - k1 < n - k by omega)
      have e1 : IntKind.i64.wrap ((k : Int) + 1) = (k1 : Int) := by rw [IntKind.wrap_i64] <;> have := HNN.out <;> have := HLN.out <;> omega
      have e2 : (k : Int) + 1 = (k1 : Int) := by omega
      have ik : (k : Int) < (n : Int) := by omega
      have ew : IntKind.i64.wrap (k1 : Int) = (k1 : Int) := by rw [IntKind.wrap_i64] <;> have := HNN.out <;> have := HLN.out <;> omega
      obtain ⟨ai, ah, ad⟩ := a
      have HAL := hid (show ah.length = 32 from hoa.2)
      have HAI := hid (show ai < 18446744073709551616 from hoa.1)
      obtain ⟨NL, hNL⟩ : ∃ m, m = L.length := ⟨_, rfl⟩
      have HNL := hid hNL
      have HHB := hid (fun (V : World) (A1 : Option Addr) (c1 : Nat) => hasR_any h 0 ai A1 (some ⟨g, 0, none⟩) NL c1 33 cE V HHH.out)
      have HSL := hid (fun (V : World) (A1 : Option Addr) (c1 : Nat) (hs : List UInt8) (hl : hs.length = 32) (v : Lv V V.heap.size A1 L) (e : Ev V V.heap.size (some ⟨g, 0, none⟩)) => setR_any (h : Int) ai hs L (some ⟨g, 0, none⟩) A1 cE c1 V hl HGD.out.ok (by have := HLE.out; omega) v e)
      rw [← hNL] at HSL
      have hACT : act9 h L (ai, ah, ad) = if hasB h 0 ai then setT ai (if ad then emptyL 0 else ah) L else L := by unfold act9; rfl
      rw [hACT] at HNX
      clear hk1 hx hra hra' hoa hnx hle hgd hKW ha hq hkl hlt hNL hACT
      have HSET := hid (fun (V : World) (S : Nat → Prop) (hb : Below W.heap.size W V) (p : Pt S V b h L) (hs : List UInt8) (hl : hs.length = 32) => show Calls Tryd.prog 23 #[.pointer (some ⟨b, 0, none⟩), .int .u64 (ai : Int), .agg (ubs hs).toArray] V (fun r W' => r = .returned (eB (hasB h 0 ai)) ∧ ∃ S', Pt S' W' b h (if hasB h 0 ai then setT ai hs L else L) ∧ (∀ k, S' k → S k ∨ V.heap.size ≤ k) ∧ Fr S V W') from HTT.out.setOk ai hs (HW.out.trans (hb.mono HW.out.size)) p (by have := HLE.out; omega) HAI.out hl)
      have HDRP := hid (fun (V : World) (S : Nat → Prop) (hb : Below W.heap.size W V) (p : Pt S V b h L) => show Calls Tryd.prog 57 #[.pointer (some ⟨b, 0, none⟩), .int .u64 (ai : Int)] V (fun r W' => r = .returned (eB (hasB h 0 ai)) ∧ ∃ S', Pt S' W' b h (if hasB h 0 ai then setT ai (emptyL 0) L else L) ∧ (∀ k, S' k → S k ∨ V.heap.size ≤ k) ∧ Fr S V W') from HTT.out.dropOk ai (HW.out.trans (hb.mono HW.out.size)) p (by have := HLE.out; omega) HAI.out)
      have HRS := hid (setS_eq (i := ai) (h := if ad then emptyL 0 else ah) HGD.out.ord)
      cases ad with
      | false =>
        cases hg : hasB h 0 ai with
        | true =>
          rw [hg] at HHB HNX
          replace HNX := hid (show acts9 h (sc.take (k + 1)) = setT ai ah L from HNX.out)
          replace HRS := hid (show setS ai ah L = setT ai ah L from HRS.out)
          replace HSL := hid (fun (V : World) (A1 : Option Addr) (c1 : Nat) (v : Lv V V.heap.size A1 L) (e : Ev V V.heap.size (some ⟨g, 0, none⟩)) => HSL.out V A1 c1 ah HAL.out v e)
          rw [HRS.out] at HSL
          have HCL := hid (fun (V : World) (S : Nat → Prop) (hb : Below W.heap.size W V) (p : Pt S V b h L) => show Calls Tryd.prog 23 #[.pointer (some ⟨b, 0, none⟩), .int .u64 (ai : Int), .agg (ubs ah).toArray] V (fun r W' => r = .returned (.nilIface) ∧ ∃ S', Pt S' W' b h (setT ai ah L) ∧ (∀ k, S' k → S k ∨ V.heap.size ≤ k) ∧ Fr S V W') from by
            have := HSET.out V S hb p ah HAL.out
            rw [hg] at this
            exact this)
          have HNM := hid (fun V => show Calls Tryd.prog 44 #[.nilIface] V (fun e w' => e = .returned (.int .i64 0) ∧ V = w') from HNUM.out 0 V)
          obtain ⟨L2, hL2⟩ : ∃ l, l = setT ai ah L := ⟨_, rfl⟩
          rw [← hL2] at HCL HNX HSL
          obtain ⟨NL2, hNL2⟩ : ∃ m, m = L2.length := ⟨_, rfl⟩
          have HNL2 := hid hNL2
          rw [← hNL2] at HSL
          clear hL2 hNL2
          clear HSET HDRP HNUM hg
          go_wp2_with (first
            | (refine wpList_valW (by rfl) (run_loadAc (.tmp 43) rfl q x rfl (ai, ah, false) HRA.out HAL.out) ?_)
            | (refine Great.wpList_allocTo rfl _ rfl _ _ (HAA.out _ _ _ rfl) ?_)
            | (refine wpList_store_row rfl _ (.tmp 12) (.tmp 44) rfl wr.heap.size (actV (ai, ah, false)).toArray rfl rfl 27 (actV (0, n32, false)).toArray (heap_alloc_new _ _) (sizeAc_of HAL.out) ?x11 (actV_one _) ?x12; rotate_right; have hb1 : Below wr.heap.size wr ((wr.alloc (.cells (actV (0, n32, false)).toArray 27)).setRow wr.heap.size (actV (ai, ah, false)).toArray) := below_setRow ((Below.refl _ _).alloc (Nat.le_refl _) _) (Nat.le_refl _) _; have K1 := hid ((HKW.out.new HTT.out hb1).push (setRow_heap _ _ _ _ _ _ (At.new wr (actV (0, n32, false)).toArray 27)) (HTT.out.fresh HKW.out.t) HKW.out.freshM); clear hb1; generalize ((wr.alloc (.cells (actV (0, n32, false)).toArray 27)).setRow wr.heap.size (actV (ai, ah, false)).toArray) = w1 at K1 ⊢; generalize wr.heap.size = P at K1 ⊢; have c10 := at_act0 (K1.out.f (P, (actV (ai, ah, false)).toArray, 27) (by simp)).1; have M1 := hid (show At w1 M #[.int .i64 (h : Int), .slice A1 NL c1, .slice (some ⟨g, 0, none⟩) 33 cE] 33 by rw [HNL.out]; exact K1.out.m))
            | (refine wpList_valW (by rfl) (run_loadTr (.tmp 10) rfl M rfl _ M1.out (HSZ.out _ rfl)) ?_)
            | (go_at_call 15; refine (HHB.out w1 A1 c1).mono ?_; rintro r2 w2 ⟨rfl, hb2⟩; have K2 := hid (K1.out.new HTT.out hb2); have X2 := hid (at_act1 (K2.out.f (P, (actV (ai, ah, false)).toArray, 27) (by simp)).1); clear hb2 c10 M1 K1)
            | (refine wpList_valW (by rfl) (run_loadH (.tmp 50) rfl P 1 rfl ah X2.out HAL.out) ?_)
            | (refine Great.wpList_allocTo rfl _ rfl _ _ (HAH.out _ _ _ rfl) ?_)
            | (refine wpList_store_row rfl _ (.tmp 14) (.tmp 51) rfl w2.heap.size (ubs ah).toArray rfl rfl 25 (ubs n32).toArray (heap_alloc_new _ _) (sizeH_of HAL.out) ?x13 (ubs_all _) ?x14; rotate_right; have hb3 : Below w2.heap.size w2 ((w2.alloc (.cells (ubs n32).toArray 25)).setRow w2.heap.size (ubs ah).toArray) := below_setRow ((Below.refl _ _).alloc (Nat.le_refl _) _) (Nat.le_refl _) _; have ha3 : At ((w2.alloc (.cells (ubs n32).toArray 25)).setRow w2.heap.size (ubs ah).toArray) w2.heap.size (ubs ah).toArray 25 := setRow_heap _ _ _ _ _ _ (At.new w2 (ubs n32).toArray 25); have NSH := hid (HTT.out.fresh K2.out.t); have NMH := hid K2.out.freshM; have K4 := hid ((K2.out.new HTT.out hb3).push ha3 NSH.out NMH.out); clear hb3 ha3 NSH NMH X2 K2; generalize ((w2.alloc (.cells (ubs n32).toArray 25)).setRow w2.heap.size (ubs ah).toArray) = w4 at K4 ⊢; generalize w2.heap.size = H at K4 ⊢; have c433 := at_act33 HAL.out (K4.out.f (P, (actV (ai, ah, false)).toArray, 27) (by simp)).1; have c40 := at_act0 (K4.out.f (P, (actV (ai, ah, false)).toArray, 27) (by simp)).1)
            | (refine wpList_valW (by rfl) (run_loadH (.tmp 14) rfl H 0 rfl ah (range_whole (K4.out.f (H, (ubs ah).toArray, 25) (by simp)).1) HAL.out) ?_)
            | (go_at_call 23; refine (HCL.out w4 S K4.out.below K4.out.t).mono ?_; rintro r5 w5 ⟨rfl, S5, p5, f5, fr5⟩; have K5 := hid (K4.out.tree p5 f5 fr5); have c50 := at_act0 (K5.out.f (P, (actV (ai, ah, false)).toArray, 27) (by simp)).1; have M5 := hid (show At w5 M #[.int .i64 (h : Int), .slice A1 NL c1, .slice (some ⟨g, 0, none⟩) 33 cE] 33 by rw [HNL.out]; exact K5.out.m); clear p5 f5 fr5 K4 c40)
            | (go_at_call 44; refine (HNM.out _).mono ?_; rintro r6 w6 ⟨rfl, rfl⟩)
            | (refine wpList_valW (by rfl) (run_loadTr (.tmp 10) rfl M rfl _ M5.out (HSZ.out _ rfl)) ?_)
            | (refine wpList_valW (by rfl) (run_loadH (.tmp 14) rfl H 0 rfl ah (range_whole (K5.out.f (H, (ubs ah).toArray, 25) (by simp)).1) HAL.out) ?_)
            | (go_at_call 58; refine (HSL.out w5 A1 c1 K5.out.l K5.out.e).mono ?_; rintro r7 w7 ⟨A2, c2, rfl, hl7, he7, hb7, hn7⟩; have K7 := hid (K5.out.new HTT.out hb7); have N7 := hid (K5.out.away HTT.out hn7); have L7 := hid hl7; have M7 := hid (show At w7 M #[.int .i64 (h : Int), .slice A1 NL c1, .slice (some ⟨g, 0, none⟩) 33 cE] 33 by rw [HNL.out]; exact K7.out.m); clear hl7 he7 hb7 hn7 K5 c50 M5)
            | (refine wpList_store_row rfl _ (.tmp 10) (.tmp 78) rfl M #[.int .i64 (h : Int), .slice A2 NL2 c2, .slice (some ⟨g, 0, none⟩) 33 cE] rfl rfl 33 #[.int .i64 (h : Int), .slice A1 NL c1, .slice (some ⟨g, 0, none⟩) 33 cE] M7.out (HSZ.out _ rfl) ?x17 ?x18 ?x19; rotate_right))
          case x11 => simp [actV_length, HAL.out, n32_length]
          case x13 => simp [ubs_length, HAL.out, n32_length]
          case x17 => rfl
          case x18 => simp [Value.oneCell']
          have K8 := hid (show BtW Pt W S5 b h L2 L2 [(W.heap.size, Z, 33)] M A2 (some ⟨g, 0, none⟩) c2 cE (w7.setRow M #[.int .i64 (h : Int), .slice A2 NL2 c2, .slice (some ⟨g, 0, none⟩) 33 cE]) from by rw [HNL2.out]; exact ((K7.out.put HTT.out (c2 := c2) L7.out N7.out).pop).pop)
          generalize w7.setRow M #[.int .i64 (h : Int), .slice A2 NL2 c2, .slice (some ⟨g, 0, none⟩) 33 cE] = w8 at K8 ⊢
          go_roundw
          case rel => exact ⟨k1, S5, A2, c2, HKL.out, rfl, by rw [HK1.out, HNX.out]; exact K8.out⟩
          case measure =>
            show n - ((k1 : Int)).toNat < n - (k : Int).toNat
            rw [Int.toNat_natCast, Int.toNat_natCast]
            exact HMS.out
        | false =>
          rw [hg] at HHB HNX
          replace HNX := hid (show acts9 h (sc.take (k + 1)) = L from HNX.out)
          have HCL := hid (fun (V : World) (S : Nat → Prop) (hb : Below W.heap.size W V) (p : Pt S V b h L) => show Calls Tryd.prog 23 #[.pointer (some ⟨b, 0, none⟩), .int .u64 (ai : Int), .agg (ubs ah).toArray] V (fun r W' => r = .returned (.iface 42 (.int .i64 1)) ∧ ∃ S', Pt S' W' b h (L) ∧ (∀ k, S' k → S k ∨ V.heap.size ≤ k) ∧ Fr S V W') from by
            have := HSET.out V S hb p ah HAL.out
            rw [hg] at this
            exact this)
          have HNM := hid (fun V => show Calls Tryd.prog 44 #[.iface 42 (.int .i64 1)] V (fun e w' => e = .returned (.int .i64 1) ∧ V = w') from HNUM.out 1 V)
          clear HSET HDRP HNUM hg
          go_wp2_with (first
            | (refine wpList_valW (by rfl) (run_loadAc (.tmp 43) rfl q x rfl (ai, ah, false) HRA.out HAL.out) ?_)
            | (refine Great.wpList_allocTo rfl _ rfl _ _ (HAA.out _ _ _ rfl) ?_)
            | (refine wpList_store_row rfl _ (.tmp 12) (.tmp 44) rfl wr.heap.size (actV (ai, ah, false)).toArray rfl rfl 27 (actV (0, n32, false)).toArray (heap_alloc_new _ _) (sizeAc_of HAL.out) ?x21 (actV_one _) ?x22; rotate_right; have hb1 : Below wr.heap.size wr ((wr.alloc (.cells (actV (0, n32, false)).toArray 27)).setRow wr.heap.size (actV (ai, ah, false)).toArray) := below_setRow ((Below.refl _ _).alloc (Nat.le_refl _) _) (Nat.le_refl _) _; have K1 := hid ((HKW.out.new HTT.out hb1).push (setRow_heap _ _ _ _ _ _ (At.new wr (actV (0, n32, false)).toArray 27)) (HTT.out.fresh HKW.out.t) HKW.out.freshM); clear hb1; generalize ((wr.alloc (.cells (actV (0, n32, false)).toArray 27)).setRow wr.heap.size (actV (ai, ah, false)).toArray) = w1 at K1 ⊢; generalize wr.heap.size = P at K1 ⊢; have c10 := at_act0 (K1.out.f (P, (actV (ai, ah, false)).toArray, 27) (by simp)).1; have M1 := hid (show At w1 M #[.int .i64 (h : Int), .slice A1 NL c1, .slice (some ⟨g, 0, none⟩) 33 cE] 33 by rw [HNL.out]; exact K1.out.m))
            | (refine wpList_valW (by rfl) (run_loadTr (.tmp 10) rfl M rfl _ M1.out (HSZ.out _ rfl)) ?_)
            | (go_at_call 15; refine (HHB.out w1 A1 c1).mono ?_; rintro r2 w2 ⟨rfl, hb2⟩; have K2 := hid (K1.out.new HTT.out hb2); have X2 := hid (at_act1 (K2.out.f (P, (actV (ai, ah, false)).toArray, 27) (by simp)).1); clear hb2 c10 M1 K1)
            | (refine wpList_valW (by rfl) (run_loadH (.tmp 50) rfl P 1 rfl ah X2.out HAL.out) ?_)
            | (refine Great.wpList_allocTo rfl _ rfl _ _ (HAH.out _ _ _ rfl) ?_)
            | (refine wpList_store_row rfl _ (.tmp 14) (.tmp 51) rfl w2.heap.size (ubs ah).toArray rfl rfl 25 (ubs n32).toArray (heap_alloc_new _ _) (sizeH_of HAL.out) ?x23 (ubs_all _) ?x24; rotate_right; have hb3 : Below w2.heap.size w2 ((w2.alloc (.cells (ubs n32).toArray 25)).setRow w2.heap.size (ubs ah).toArray) := below_setRow ((Below.refl _ _).alloc (Nat.le_refl _) _) (Nat.le_refl _) _; have ha3 : At ((w2.alloc (.cells (ubs n32).toArray 25)).setRow w2.heap.size (ubs ah).toArray) w2.heap.size (ubs ah).toArray 25 := setRow_heap _ _ _ _ _ _ (At.new w2 (ubs n32).toArray 25); have NSH := hid (HTT.out.fresh K2.out.t); have NMH := hid K2.out.freshM; have K4 := hid ((K2.out.new HTT.out hb3).push ha3 NSH.out NMH.out); clear hb3 ha3 NSH NMH X2 K2; generalize ((w2.alloc (.cells (ubs n32).toArray 25)).setRow w2.heap.size (ubs ah).toArray) = w4 at K4 ⊢; generalize w2.heap.size = H at K4 ⊢; have c433 := at_act33 HAL.out (K4.out.f (P, (actV (ai, ah, false)).toArray, 27) (by simp)).1; have c40 := at_act0 (K4.out.f (P, (actV (ai, ah, false)).toArray, 27) (by simp)).1)
            | (refine wpList_valW (by rfl) (run_loadH (.tmp 14) rfl H 0 rfl ah (range_whole (K4.out.f (H, (ubs ah).toArray, 25) (by simp)).1) HAL.out) ?_)
            | (go_at_call 23; refine (HCL.out w4 S K4.out.below K4.out.t).mono ?_; rintro r5 w5 ⟨rfl, S5, p5, f5, fr5⟩; have K5 := hid (K4.out.tree p5 f5 fr5); have c50 := at_act0 (K5.out.f (P, (actV (ai, ah, false)).toArray, 27) (by simp)).1; have M5 := hid (show At w5 M #[.int .i64 (h : Int), .slice A1 NL c1, .slice (some ⟨g, 0, none⟩) 33 cE] 33 by rw [HNL.out]; exact K5.out.m); clear p5 f5 fr5 K4 c40)
            | (go_at_call 44; refine (HNM.out _).mono ?_; rintro r6 w6 ⟨rfl, rfl⟩))
          case x21 => simp [actV_length, HAL.out, n32_length]
          case x23 => simp [ubs_length, HAL.out, n32_length]
          go_roundw
          case rel => exact ⟨k1, S5, A1, c1, HKL.out, rfl, by rw [HK1.out, HNX.out]; exact K5.out.pop.pop⟩
          case measure =>
            show n - ((k1 : Int)).toNat < n - (k : Int).toNat
            rw [Int.toNat_natCast, Int.toNat_natCast]
            exact HMS.out
      | true =>
        cases hg : hasB h 0 ai with
        | true =>
          rw [hg] at HHB HNX
          replace HNX := hid (show acts9 h (sc.take (k + 1)) = setT ai (emptyL 0) L from HNX.out)
          replace HRS := hid (show setS ai (emptyL 0) L = setT ai (emptyL 0) L from HRS.out)
          replace HSL := hid (fun (V : World) (A1 : Option Addr) (c1 : Nat) (v : Lv V V.heap.size A1 L) (e : Ev V V.heap.size (some ⟨g, 0, none⟩)) => HSL.out V A1 c1 (emptyL 0) (emptyL_length 0) v e)
          rw [HRS.out] at HSL
          have HCL := hid (fun (V : World) (S : Nat → Prop) (hb : Below W.heap.size W V) (p : Pt S V b h L) => show Calls Tryd.prog 57 #[.pointer (some ⟨b, 0, none⟩), .int .u64 (ai : Int)] V (fun r W' => r = .returned (.nilIface) ∧ ∃ S', Pt S' W' b h (setT ai (emptyL 0) L) ∧ (∀ k, S' k → S k ∨ V.heap.size ≤ k) ∧ Fr S V W') from by
            have := HDRP.out V S hb p
            rw [hg] at this
            exact this)
          have HNM := hid (fun V => show Calls Tryd.prog 44 #[.nilIface] V (fun e w' => e = .returned (.int .i64 0) ∧ V = w') from HNUM.out 0 V)
          obtain ⟨L2, hL2⟩ : ∃ l, l = setT ai (emptyL 0) L := ⟨_, rfl⟩
          rw [← hL2] at HCL HNX HSL
          obtain ⟨NL2, hNL2⟩ : ∃ m, m = L2.length := ⟨_, rfl⟩
          have HNL2 := hid hNL2
          rw [← hNL2] at HSL
          clear hL2 hNL2
          clear HSET HDRP HNUM hg
          go_wp2_with (first
            | (refine wpList_valW (by rfl) (run_loadAc (.tmp 43) rfl q x rfl (ai, ah, true) HRA.out HAL.out) ?_)
            | (refine Great.wpList_allocTo rfl _ rfl _ _ (HAA.out _ _ _ rfl) ?_)
            | (refine wpList_store_row rfl _ (.tmp 12) (.tmp 44) rfl wr.heap.size (actV (ai, ah, true)).toArray rfl rfl 27 (actV (0, n32, false)).toArray (heap_alloc_new _ _) (sizeAc_of HAL.out) ?x31 (actV_one _) ?x32; rotate_right; have hb1 : Below wr.heap.size wr ((wr.alloc (.cells (actV (0, n32, false)).toArray 27)).setRow wr.heap.size (actV (ai, ah, true)).toArray) := below_setRow ((Below.refl _ _).alloc (Nat.le_refl _) _) (Nat.le_refl _) _; have K1 := hid ((HKW.out.new HTT.out hb1).push (setRow_heap _ _ _ _ _ _ (At.new wr (actV (0, n32, false)).toArray 27)) (HTT.out.fresh HKW.out.t) HKW.out.freshM); clear hb1; generalize ((wr.alloc (.cells (actV (0, n32, false)).toArray 27)).setRow wr.heap.size (actV (ai, ah, true)).toArray) = w1 at K1 ⊢; generalize wr.heap.size = P at K1 ⊢; have c10 := at_act0 (K1.out.f (P, (actV (ai, ah, true)).toArray, 27) (by simp)).1; have M1 := hid (show At w1 M #[.int .i64 (h : Int), .slice A1 NL c1, .slice (some ⟨g, 0, none⟩) 33 cE] 33 by rw [HNL.out]; exact K1.out.m))
            | (refine wpList_valW (by rfl) (run_loadTr (.tmp 10) rfl M rfl _ M1.out (HSZ.out _ rfl)) ?_)
            | (go_at_call 15; refine (HHB.out w1 A1 c1).mono ?_; rintro r2 w2 ⟨rfl, hb2⟩; have K2 := hid (K1.out.new HTT.out hb2); have X2 := hid (at_act1 (K2.out.f (P, (actV (ai, ah, true)).toArray, 27) (by simp)).1); clear hb2 c10 M1 K1)
            | (refine wpList_valW (by rfl) (run_loadH (.tmp 50) rfl P 1 rfl ah X2.out HAL.out) ?_)
            | (refine Great.wpList_allocTo rfl _ rfl _ _ (HAH.out _ _ _ rfl) ?_)
            | (refine wpList_store_row rfl _ (.tmp 14) (.tmp 51) rfl w2.heap.size (ubs ah).toArray rfl rfl 25 (ubs n32).toArray (heap_alloc_new _ _) (sizeH_of HAL.out) ?x33 (ubs_all _) ?x34; rotate_right; have hb3 : Below w2.heap.size w2 ((w2.alloc (.cells (ubs n32).toArray 25)).setRow w2.heap.size (ubs ah).toArray) := below_setRow ((Below.refl _ _).alloc (Nat.le_refl _) _) (Nat.le_refl _) _; have ha3 : At ((w2.alloc (.cells (ubs n32).toArray 25)).setRow w2.heap.size (ubs ah).toArray) w2.heap.size (ubs ah).toArray 25 := setRow_heap _ _ _ _ _ _ (At.new w2 (ubs n32).toArray 25); have NSH := hid (HTT.out.fresh K2.out.t); have NMH := hid K2.out.freshM; have B3 := hid hb3; have A3 := hid ha3; clear hb3 ha3 X2; generalize ((w2.alloc (.cells (ubs n32).toArray 25)).setRow w2.heap.size (ubs ah).toArray) = w3 at B3 A3 ⊢; have K3 := hid (K2.out.new HTT.out B3.out); have c333 := at_act33 HAL.out (K3.out.f (P, (actV (ai, ah, true)).toArray, 27) (by simp)).1; (have c32 : w3.cell? ⟨M, 2, none⟩ = some (.slice (some ⟨g, 0, none⟩) 33 cE) := by rw [K3.out.m.cell 2]; rfl); have X3 := hid K3.out.e.hash0; clear K3)
            | (refine wpList_valW (by rfl) (run_loadH (.tmp 56) rfl g 0 rfl (emptyL 0) X3.out (emptyL_length 0)) ?_)
            | (refine wpList_store_row rfl _ (.tmp 14) (.tmp 57) rfl w2.heap.size (ubs (emptyL 0)).toArray rfl rfl 25 (ubs ah).toArray A3.out (sizeH_of (emptyL_length 0)) ?x35 (ubs_all _) ?x36; rotate_right; have K4 := hid ((K2.out.new HTT.out (below_setRow B3.out (Nat.le_refl _) (ubs (emptyL 0)).toArray)).push (setRow_heap _ _ _ _ _ _ A3.out) NSH.out NMH.out); clear B3 A3 NSH NMH X3 K2 c333 c32; generalize (w3.setRow w2.heap.size (ubs (emptyL 0)).toArray) = w4 at K4 ⊢; generalize w2.heap.size = H at K4 ⊢; have c40 := at_act0 (K4.out.f (P, (actV (ai, ah, true)).toArray, 27) (by simp)).1)
            | (go_at_call 57; refine (HCL.out w4 S K4.out.below K4.out.t).mono ?_; rintro r5 w5 ⟨rfl, S5, p5, f5, fr5⟩; have K5 := hid (K4.out.tree p5 f5 fr5); have c50 := at_act0 (K5.out.f (P, (actV (ai, ah, true)).toArray, 27) (by simp)).1; have M5 := hid (show At w5 M #[.int .i64 (h : Int), .slice A1 NL c1, .slice (some ⟨g, 0, none⟩) 33 cE] 33 by rw [HNL.out]; exact K5.out.m); clear p5 f5 fr5 K4 c40)
            | (go_at_call 44; refine (HNM.out _).mono ?_; rintro r6 w6 ⟨rfl, rfl⟩)
            | (refine wpList_valW (by rfl) (run_loadTr (.tmp 10) rfl M rfl _ M5.out (HSZ.out _ rfl)) ?_)
            | (refine wpList_valW (by rfl) (run_loadH (.tmp 14) rfl H 0 rfl (emptyL 0) (range_whole (K5.out.f (H, (ubs (emptyL 0)).toArray, 25) (by simp)).1) (emptyL_length 0)) ?_)
            | (go_at_call 58; refine (HSL.out w5 A1 c1 K5.out.l K5.out.e).mono ?_; rintro r7 w7 ⟨A2, c2, rfl, hl7, he7, hb7, hn7⟩; have K7 := hid (K5.out.new HTT.out hb7); have N7 := hid (K5.out.away HTT.out hn7); have L7 := hid hl7; have M7 := hid (show At w7 M #[.int .i64 (h : Int), .slice A1 NL c1, .slice (some ⟨g, 0, none⟩) 33 cE] 33 by rw [HNL.out]; exact K7.out.m); clear hl7 he7 hb7 hn7 K5 c50 M5)
            | (refine wpList_store_row rfl _ (.tmp 10) (.tmp 78) rfl M #[.int .i64 (h : Int), .slice A2 NL2 c2, .slice (some ⟨g, 0, none⟩) 33 cE] rfl rfl 33 #[.int .i64 (h : Int), .slice A1 NL c1, .slice (some ⟨g, 0, none⟩) 33 cE] M7.out (HSZ.out _ rfl) ?x37 ?x38 ?x39; rotate_right))
          case x31 => simp [actV_length, HAL.out, n32_length]
          case x33 => simp [ubs_length, HAL.out, n32_length]
          case x35 => simp [ubs_length, HAL.out, emptyL_length]
          case x37 => rfl
          case x38 => simp [Value.oneCell']
          have K8 := hid (show BtW Pt W S5 b h L2 L2 [(W.heap.size, Z, 33)] M A2 (some ⟨g, 0, none⟩) c2 cE (w7.setRow M #[.int .i64 (h : Int), .slice A2 NL2 c2, .slice (some ⟨g, 0, none⟩) 33 cE]) from by rw [HNL2.out]; exact ((K7.out.put HTT.out (c2 := c2) L7.out N7.out).pop).pop)
          generalize w7.setRow M #[.int .i64 (h : Int), .slice A2 NL2 c2, .slice (some ⟨g, 0, none⟩) 33 cE] = w8 at K8 ⊢
          go_roundw
          case rel => exact ⟨k1, S5, A2, c2, HKL.out, rfl, by rw [HK1.out, HNX.out]; exact K8.out⟩
          case measure =>
            show n - ((k1 : Int)).toNat < n - (k : Int).toNat
            rw [Int.toNat_natCast, Int.toNat_natCast]
            exact HMS.out
        | false =>
          rw [hg] at HHB HNX
          replace HNX := hid (show acts9 h (sc.take (k + 1)) = L from HNX.out)
          have HCL := hid (fun (V : World) (S : Nat → Prop) (hb : Below W.heap.size W V) (p : Pt S V b h L) => show Calls Tryd.prog 57 #[.pointer (some ⟨b, 0, none⟩), .int .u64 (ai : Int)] V (fun r W' => r = .returned (.iface 42 (.int .i64 1)) ∧ ∃ S', Pt S' W' b h (L) ∧ (∀ k, S' k → S k ∨ V.heap.size ≤ k) ∧ Fr S V W') from by
            have := HDRP.out V S hb p
            rw [hg] at this
            exact this)
          have HNM := hid (fun V => show Calls Tryd.prog 44 #[.iface 42 (.int .i64 1)] V (fun e w' => e = .returned (.int .i64 1) ∧ V = w') from HNUM.out 1 V)
          clear HSET HDRP HNUM hg
          go_wp2_with (first
            | (refine wpList_valW (by rfl) (run_loadAc (.tmp 43) rfl q x rfl (ai, ah, true) HRA.out HAL.out) ?_)
            | (refine Great.wpList_allocTo rfl _ rfl _ _ (HAA.out _ _ _ rfl) ?_)
            | (refine wpList_store_row rfl _ (.tmp 12) (.tmp 44) rfl wr.heap.size (actV (ai, ah, true)).toArray rfl rfl 27 (actV (0, n32, false)).toArray (heap_alloc_new _ _) (sizeAc_of HAL.out) ?x41 (actV_one _) ?x42; rotate_right; have hb1 : Below wr.heap.size wr ((wr.alloc (.cells (actV (0, n32, false)).toArray 27)).setRow wr.heap.size (actV (ai, ah, true)).toArray) := below_setRow ((Below.refl _ _).alloc (Nat.le_refl _) _) (Nat.le_refl _) _; have K1 := hid ((HKW.out.new HTT.out hb1).push (setRow_heap _ _ _ _ _ _ (At.new wr (actV (0, n32, false)).toArray 27)) (HTT.out.fresh HKW.out.t) HKW.out.freshM); clear hb1; generalize ((wr.alloc (.cells (actV (0, n32, false)).toArray 27)).setRow wr.heap.size (actV (ai, ah, true)).toArray) = w1 at K1 ⊢; generalize wr.heap.size = P at K1 ⊢; have c10 := at_act0 (K1.out.f (P, (actV (ai, ah, true)).toArray, 27) (by simp)).1; have M1 := hid (show At w1 M #[.int .i64 (h : Int), .slice A1 NL c1, .slice (some ⟨g, 0, none⟩) 33 cE] 33 by rw [HNL.out]; exact K1.out.m))
            | (refine wpList_valW (by rfl) (run_loadTr (.tmp 10) rfl M rfl _ M1.out (HSZ.out _ rfl)) ?_)
            | (go_at_call 15; refine (HHB.out w1 A1 c1).mono ?_; rintro r2 w2 ⟨rfl, hb2⟩; have K2 := hid (K1.out.new HTT.out hb2); have X2 := hid (at_act1 (K2.out.f (P, (actV (ai, ah, true)).toArray, 27) (by simp)).1); clear hb2 c10 M1 K1)
            | (refine wpList_valW (by rfl) (run_loadH (.tmp 50) rfl P 1 rfl ah X2.out HAL.out) ?_)
            | (refine Great.wpList_allocTo rfl _ rfl _ _ (HAH.out _ _ _ rfl) ?_)
            | (refine wpList_store_row rfl _ (.tmp 14) (.tmp 51) rfl w2.heap.size (ubs ah).toArray rfl rfl 25 (ubs n32).toArray (heap_alloc_new _ _) (sizeH_of HAL.out) ?x43 (ubs_all _) ?x44; rotate_right; have hb3 : Below w2.heap.size w2 ((w2.alloc (.cells (ubs n32).toArray 25)).setRow w2.heap.size (ubs ah).toArray) := below_setRow ((Below.refl _ _).alloc (Nat.le_refl _) _) (Nat.le_refl _) _; have ha3 : At ((w2.alloc (.cells (ubs n32).toArray 25)).setRow w2.heap.size (ubs ah).toArray) w2.heap.size (ubs ah).toArray 25 := setRow_heap _ _ _ _ _ _ (At.new w2 (ubs n32).toArray 25); have NSH := hid (HTT.out.fresh K2.out.t); have NMH := hid K2.out.freshM; have B3 := hid hb3; have A3 := hid ha3; clear hb3 ha3 X2; generalize ((w2.alloc (.cells (ubs n32).toArray 25)).setRow w2.heap.size (ubs ah).toArray) = w3 at B3 A3 ⊢; have K3 := hid (K2.out.new HTT.out B3.out); have c333 := at_act33 HAL.out (K3.out.f (P, (actV (ai, ah, true)).toArray, 27) (by simp)).1; (have c32 : w3.cell? ⟨M, 2, none⟩ = some (.slice (some ⟨g, 0, none⟩) 33 cE) := by rw [K3.out.m.cell 2]; rfl); have X3 := hid K3.out.e.hash0; clear K3)
            | (refine wpList_valW (by rfl) (run_loadH (.tmp 56) rfl g 0 rfl (emptyL 0) X3.out (emptyL_length 0)) ?_)
            | (refine wpList_store_row rfl _ (.tmp 14) (.tmp 57) rfl w2.heap.size (ubs (emptyL 0)).toArray rfl rfl 25 (ubs ah).toArray A3.out (sizeH_of (emptyL_length 0)) ?x45 (ubs_all _) ?x46; rotate_right; have K4 := hid ((K2.out.new HTT.out (below_setRow B3.out (Nat.le_refl _) (ubs (emptyL 0)).toArray)).push (setRow_heap _ _ _ _ _ _ A3.out) NSH.out NMH.out); clear B3 A3 NSH NMH X3 K2 c333 c32; generalize (w3.setRow w2.heap.size (ubs (emptyL 0)).toArray) = w4 at K4 ⊢; generalize w2.heap.size = H at K4 ⊢; have c40 := at_act0 (K4.out.f (P, (actV (ai, ah, true)).toArray, 27) (by simp)).1)
            | (go_at_call 57; refine (HCL.out w4 S K4.out.below K4.out.t).mono ?_; rintro r5 w5 ⟨rfl, S5, p5, f5, fr5⟩; have K5 := hid (K4.out.tree p5 f5 fr5); have c50 := at_act0 (K5.out.f (P, (actV (ai, ah, true)).toArray, 27) (by simp)).1; have M5 := hid (show At w5 M #[.int .i64 (h : Int), .slice A1 NL c1, .slice (some ⟨g, 0, none⟩) 33 cE] 33 by rw [HNL.out]; exact K5.out.m); clear p5 f5 fr5 K4 c40)
            | (go_at_call 44; refine (HNM.out _).mono ?_; rintro r6 w6 ⟨rfl, rfl⟩))
          case x41 => simp [actV_length, HAL.out, n32_length]
          case x43 => simp [ubs_length, HAL.out, n32_length]
          case x45 => simp [ubs_length, HAL.out, emptyL_length]
          go_roundw
          case rel => exact ⟨k1, S5, A1, c1, HKL.out, rfl, by rw [HK1.out, HNX.out]; exact K5.out.pop.pop⟩
          case measure =>
            show n - ((k1 : Int)).toNat < n - (k : Int).toNat
            rw [Int.toNat_natCast, Int.toNat_natCast]
            exact HMS.out
    · obtain rfl : k = n := by omega
      have hd : decide ((k : Int) < (k : Int)) = false := by simp
      have hfull : sc.take k = sc := List.take_of_length_le (by rw [← HLN.out]; exact Nat.le_refl _)
      rw [hfull] at hKW
      have HLF := hid (show sc.length = k from HLN.out.symm)
      have HKW := hid hKW
      clear hKW hfull
      obtain ⟨L, hL⟩ : ∃ L, L = acts9 h sc := ⟨_, rfl⟩
      rw [← hL] at HKW
      have HLS := hid hL
      clear hL
      obtain ⟨NL, hNL⟩ : ∃ m, m = L.length := ⟨_, rfl⟩
      have HNL := hid hNL
      have HM := hid (fun (V : World) (hb : Below wr.heap.size wr V) => show At V M #[.int .i64 (h : Int), .slice A1 NL c1, .slice (some ⟨g, 0, none⟩) 33 cE] 33 by rw [hNL]; exact HKW.out.m.new_ hb)
      obtain ⟨O, hO⟩ : ∃ O : Array Value, O = #[.int .i64 (h : Int), .slice A1 NL c1, .slice (some ⟨g, 0, none⟩) 33 cE] := ⟨_, rfl⟩
      rw [← hO] at HM
      have HOE := hid hO
      have HOS := hid (sizeTr_of O (by rw [hO]; rfl))
      have HOZ := hid (show Z.size = O.size by rw [HZE.out, hO]; rfl)
      have HO1 := hid (show O.all (·.oneCell') = true by rw [hO]; simp [Value.oneCell'])
      clear hO hNL
      have HR0 := hid (HKW.out.f (W.heap.size, Z, 33) (by simp)).1
      have HMR := hid (HKW.out.fM.2 (W.heap.size, Z, 33) (by simp))
      go_upto_region 23 with (fail)
      have AT := hid (show At wr.drew M O 33 from HM.out _ (Below.refl _ _).drew)
      try simp only [Act.put, List.setIfInBounds_toArray, List.set_cons_succ, List.set_cons_zero]
      refine wp_region_upto (fun V => At V M O 33) 6 6 (by kernel_rfl) (by kernel_rfl) ?_
      refine wpUpto_takeL (i := 0) (v := .pointer (some ⟨b, 0, none⟩)) rfl rfl (by decide +kernel) (by decide +kernel) (by decide +kernel) (by decide +kernel) (by decide) (fun _ _ _ h => h) (Or.inl ⟨by rfl, ?_⟩) AT.out ?_
      · (intro V hSV; go_simp)
      simp only [List.set_cons_succ, List.set_cons_zero]
      refine wpUpto_takeL (i := 1) (v := .agg O) rfl rfl (by decide +kernel) (by decide +kernel) (by decide +kernel) (by decide +kernel) (by decide) (fun _ _ _ h => h) (Or.inl ⟨by rfl, ?_⟩) AT.out ?_
      · (intro V hSV; exact run_loadTr (.tmp 10) rfl M rfl O hSV HOS.out)
      simp only [List.set_cons_succ, List.set_cons_zero]
      refine wpUpto_takeL (i := 2) (v := .pointer (some ⟨b, 0, none⟩)) rfl rfl (by decide +kernel) (by decide +kernel) (by decide +kernel) (by decide +kernel) (by decide) (fun _ _ _ h => h) (Or.inl ⟨by rfl, ?_⟩) AT.out ?_
      · (intro V hSV; go_simp)
      simp only [List.set_cons_succ, List.set_cons_zero]
      refine wpUpto_one (i := 3) rfl (by decide +kernel) rfl ?_
      intro Q0 hQ0
      refine wp_unit (run_store_row 33 (.tmp 5) (.tmp 81) rfl W.heap.size O rfl rfl 33 Z (HR0.out.drew) HOS.out HOZ.out HO1.out) ?_
      have BT := hid (show At (wr.drew.setRow W.heap.size O) M O 33 from AT.out.setRow_far (Ne.symm HMR.out))
      refine hQ0.out _ _ (fun _ => BT.out) ?_
      clear hQ0 Q0 AT
      try simp only [Act.put, List.setIfInBounds_toArray]
      refine wpUpto_takeL (i := 4) (v := .bool true) rfl rfl (by decide +kernel) (by decide +kernel) (by decide +kernel) (by decide +kernel) (by decide) (fun _ _ _ h => h) (Or.inl ⟨by rfl, ?_⟩) BT.out ?_
      · (intro V hSV; go_simp)
      simp only [List.set_cons_succ, List.set_cons_zero]
      refine wpUpto_takeL (i := 5) (v := .bool true) rfl rfl (by decide +kernel) (by decide +kernel) (by decide +kernel) (by decide +kernel) (by decide) (fun _ _ _ h => h) (Or.inl ⟨by rfl, ?_⟩) BT.out ?_
      · (intro V hSV; go_simp)
      simp only [List.set_cons_succ, List.set_cons_zero]
      refine wpUpto_done (by decide +kernel) ?_ _
      go_simp
      go_wp2
      refine bodyPost_ret (results_four rfl _ _ W.heap.size 33 O (0, 0) _ rfl (setRow_heap _ _ _ _ _ _ HR0.out.drew) Tryd.underlying33 rfl HOS.out) rfl ?_
      have hsz : (wr.drew.setRow W.heap.size O).heap.size = wr.heap.size := by simp [World.setRow]
      have hz : At wr W.heap.size #[.int .i64 0, .slice none 0 0, .slice none 0 0] 33 := by have := HR0.out; rwa [HZE.out] at this
      simp only [← HLS.out]
      refine ⟨S, b, A1, some ⟨g, 0, none⟩, ⟨c1, cE, by rw [HOE.out, HNL.out]; rfl⟩, HTT.out.keep HKW.out.t (by rw [hsz]; exact Nat.le_refl _) fun j hj => setRow_other _ _ _ _ fun e => (HKW.out.f (W.heap.size, Z, 33) (by simp)).2 (by rw [← e]; exact hj), ?_, Rd.row (W := wr.drew) HKW.out.e.drew (fun g' o' e => by cases e; exact Ev.notZ HKW.out.e hz) _, HKW.out.far, fun g' o' e hne => (HKW.out.sA g' o' e hne).1, fun g' o' e => (HKW.out.sE g' o' e).1, below_setRow HKW.out.below.drew (Nat.le_refl _) _⟩
      by_cases hne : L = []
      · subst hne
        exact (show Rd _ _ A1 (lrow []) by rw [lrow_nil]; exact Rd.nil _ _ _)
      · refine Rd.row (W := wr.drew) HKW.out.l.drew (fun g' o' e => ?_) _
        subst e
        exact Lv.notZ HKW.out.l hne hz
end Go.Proofs.YtdegmcfcbndelaaDoor
