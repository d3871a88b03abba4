/-
  What a script of sets leaves; the law of SpanBack.
-/
import Derived.Test.YtlmecjnlinalkaaDoorTn
import Derived.Test.YtlmecjnlinalkaaDoorM4
import Derived.Test.YtlmecjnlinalkaaDoorM2
namespace Go.Proofs.YtlmecjnlinalkaaDoor

def setA (a : Act9) : Act9 := (a.1, a.2.1, false)
def sets9 (h : Nat) (l : List Act9) : List (Nat × List UInt8) := l.foldl (fun L a => act9 h L (setA a)) []
theorem sets9_zero (h : Nat) (l : List Act9) : sets9 h (l.take 0) = [] := rfl
theorem sets9_next (h : Nat) (l : List Act9) (k : Nat) (hk : k < l.length) : sets9 h (l.take (k + 1)) = (if hasB h 0 (l[k]).1 then setT (l[k]).1 (l[k]).2.1 (sets9 h (l.take k)) else sets9 h (l.take k)) := by
  unfold sets9
  rw [List.take_succ_eq_append_getElem hk, List.foldl_append]
  show act9 h _ (setA _) = _
  unfold act9 setA
  rfl
theorem Gd.sets {h : Nat} (hh : h ≤ 32) {l : List Act9} (ho : okA l) : Gd h (sets9 h l) := by
  have : ∀ (l : List Act9) (L : List (Nat × List UInt8)), okA l → Gd h L → Gd h (l.foldl (fun L a => act9 h L (setA a)) L) := by
    intro l
    induction l with
    | nil => exact fun L _ g => g
    | cons a l ih => exact fun L ho g => ih _ (fun b hb => ho b (by simp [hb])) (g.act (a := setA a) (ho a (by simp)).2)
  exact this l [] ho (Gd.nil hh)
theorem sets9_le (h : Nat) (l : List Act9) : ∀ k, k ≤ l.length → (sets9 h (l.take k)).length ≤ k := by
  intro k
  induction k with
  | zero => intro _; rw [sets9_zero]; simp
  | succ k ih =>
    intro hk
    rw [sets9_next h l k (by omega)]
    have := ih (by omega)
    split
    · have := setT_le (l[k]).1 (l[k]).2.1 (sets9 h (l.take k)); omega
    · omega
/-- Set from the last one on. -/
def back (f : Nat → Option (List UInt8)) : List Act9 → List (Nat × List UInt8)
  | [] => []
  | a :: l => match f a.1 with
    | some x => setT a.1 x (back f l)
    | none => back f l
attribute [irreducible] sets9 back
end Go.Proofs.YtlmecjnlinalkaaDoor
namespace Go.Proofs.YtlmecjnlinalkaaDoor
open Go.RowKit

/-- The tree, and the span as it came in. -/
structure SbT (Pt : PtT) (w : World) (S : Nat → Prop) (b k : Nat) (L : List (Nat × List UInt8)) (Bx : Nat) (I : Array Value) (V : World) : Prop where
  t : Pt S V b k L
  x : At V Bx I 72
  s : ∀ j, S j → Bx < j
  below : Below w.heap.size w V
theorem SbT.new {Pt : PtT} {w V V' : World} {S : Nat → Prop} {b k Bx : Nat} {L : List (Nat × List UInt8)} {I : Array Value} (t : T9c Pt w) (x : SbT Pt w S b k L Bx I V) (hb : Below V.heap.size V V') : SbT Pt w S b k L Bx I V' :=
  ⟨t.new x.t hb, x.x.new_ hb, x.s, x.below.trans (hb.mono x.below.size)⟩
theorem SbT.set {Pt : PtT} {w V V' : World} {S S' : Nat → Prop} {b k Bx : Nat} {L L' : List (Nat × List UInt8)} {I : Array Value} (t : T9c Pt w) (x : SbT Pt w S b k L Bx I V) (p : Pt S' V' b k L') (hs : ∀ j, S' j → S j ∨ V.heap.size ≤ j) (hf : Fr S V V') : SbT Pt w S' b k L' Bx I V' :=
  ⟨p, (hf.block Bx x.x.lt (fun e => by have := x.s Bx e; omega)).trans x.x, fun j hj => by
    have := x.x.lt
    rcases hs j hj with h | h
    · exact x.s j h
    · omega, x.below.trans (hf.below (fun j hj => (t.inn x.t j hj).1) x.below.size)⟩
theorem rd11_on {V V' : World} {A : Option Addr} {xs : List Value} (h : Rd V V.heap.size A xs) (hb : Below V.heap.size V V') : Rd V' V'.heap.size A xs := (Rd.below h hb).mono hb.size
/-- What the law looks at in the end. -/
structure SbW (Pt : PtT) (w : World) (S : Nat → Prop) (b k : Nat) (L : List (Nat × List UInt8)) (Bx : Nat) (I : Array Value) (G : Nat) (J : Array Value) (AI : Option Addr) (l : List Nat) (AL P1 P2 : Option Addr) (lv bl br : List UInt8) (V : World) : Prop where
  t : SbT Pt w S b k L Bx I V
  p : At V G J 74
  i : Nu V V.heap.size AI l
  lv : Rd V V.heap.size AL (ubs lv)
  l : Rd V V.heap.size P1 (ubs bl)
  r : Rd V V.heap.size P2 (ubs br)
theorem SbW.new {Pt : PtT} {w V V' : World} {S : Nat → Prop} {b k Bx G : Nat} {L : List (Nat × List UInt8)} {I J : Array Value} {AI AL P1 P2 : Option Addr} {l : List Nat} {lv bl br : List UInt8} (t : T9c Pt w) (x : SbW Pt w S b k L Bx I G J AI l AL P1 P2 lv bl br V) (hb : Below V.heap.size V V') : SbW Pt w S b k L Bx I G J AI l AL P1 P2 lv bl br V' :=
  ⟨x.t.new t hb, x.p.new_ hb, x.i.new hb, rd11_on x.lv hb, rd11_on x.l hb, rd11_on x.r hb⟩
theorem nu_first {V : World} {g o f m : Nat} (h : Nu V V.heap.size (some ⟨g, o, none⟩) (List.range' f m)) (hm : 1 ≤ m) : V.cell? ⟨g, o, none⟩ = some (.int .u64 (f : Int)) := by
  obtain ⟨g', o', e, -, c⟩ := h.at (j := 0) (by rw [List.length_range']; omega)
  cases e
  rw [List.getElem_range'] at c
  simpa using c
/-- What the last region yields. -/
def sbF11 (b k f m Bx gI oI cI cnt G : Nat) (P1 P2 AL : Option Addr) (nl nr d1 d2 cl : Nat) (J : Array Value) (rt : List UInt8) : Nat → Value
  | 0 => .nilIface
  | 3 => .nilIface
  | 7 => .slice (some ⟨gI, oI, none⟩) m cI
  | 8 => .int .i64 (m : Int)
  | 9 => .pointer (some ⟨Bx, 1, none⟩)
  | 10 => .int .i64 (m : Int)
  | 14 => .slice (some ⟨gI, oI, none⟩) m cI
  | 15 => .pointer (some ⟨gI, oI, none⟩)
  | 16 => .int .u64 (f : Int)
  | 17 => .pointer (some ⟨Bx, 0, none⟩)
  | 18 => .int .u64 (f : Int)
  | 22 => .int .i64 (cnt : Int)
  | 23 => .pointer (some ⟨G, 0, none⟩)
  | 24 => .slice P1 nl d1
  | 25 => .int .i64 (nl : Int)
  | 26 => .pointer (some ⟨G, 1, none⟩)
  | 27 => .slice P2 nr d2
  | 28 => .int .i64 (nr : Int)
  | 29 => .int .i64 (cnt : Int)
  | 33 => .pointer (some ⟨b, 0, none⟩)
  | 34 => .agg (ubs rt).toArray
  | 35 => .int .i64 (k : Int)
  | 36 => .pointer (some ⟨Bx, 0, none⟩)
  | 37 => .int .u64 (f : Int)
  | 38 => .slice AL m cl
  | 39 => .agg J
  | 40 => .nilIface
  | _ => .bool true
set_option maxRecDepth 100000 in
set_option maxHeartbeats 8000000 in
theorem spanBack_law {Pt : PtT} {w : World} (t : T9c Pt w) (HALV : Alive11C w) (h : Int) (sc : List Act9) (A : Option Addr) (c : Nat) (hsc : Av w w.heap.size A sc) (ho : okA sc) (f : Nat) (m : Int) (hf : f < 18446744073709551616) (hT : Tabs w) :
    Calls Tryd.prog 9 #[.int .i64 h, .slice A sc.length c, .agg #[.int .u64 (f : Int), .int .i64 m]] w fun r w' => r = .returned (.bool true) ∧ Below w.heap.size w w' := by
  obtain ⟨w0, hw0⟩ : ∃ w0, w0 = w.alloc (.cells #[.int .u64 (f : Int), .int .i64 m] 72) := ⟨_, rfl⟩
  have hb0 : Below w.heap.size w w0 := by rw [hw0]; exact (Below.refl _ _).alloc (Nat.le_refl _) _
  have HB0 := hid hb0
  have HX0 := hid (show At w0 w.heap.size #[.int .u64 (f : Int), .int .i64 m] 72 by rw [hw0]; exact At.new _ _ _)
  have HAL := hid (HALV w0 hb0)
  obtain ⟨Bx, hBx⟩ : ∃ q, q = w.heap.size := ⟨_, rfl⟩
  rw [← hBx] at HX0
  have HBX := hid hBx
  clear hBx
  obtain ⟨n, hn⟩ : ∃ n, n = sc.length := ⟨_, rfl⟩
  rw [← hn]
  by_cases hs : 25 < n
  · have d1 : decide ((25 : Int) < (n : Int)) = true := by simp; omega
    have d1n : decide (25 < n) = true := by simpa using hs
    clear t HALV hsc ho hT hn hs hf hb0
    go_enter Tryd.func9, Tryd.ntmps9
    go_wp2_with (first
      | (rw [← hw0]; clear hw0; rw [← HBX.out]; (go_at_call 39; refine HAL.out.mono ?_; rintro r1 w1 ⟨rfl, hb1⟩; have B1 := hid (HB0.out.trans (hb1.mono HB0.out.size)); have X1 := hid (HX0.out.new_ hb1); have qa := X1.out.cell 0; have qb := X1.out.cell 1; simp at qa qb; clear hb1)))
    go_ret
    exact ⟨rfl, B1.out⟩
  have d1 : decide ((25 : Int) < (n : Int)) = false := by simp; omega
  have d1n : decide (25 < n) = false := by simp; omega
  have HN1 := hid (show ∀ h : Int, h < 0 ∨ 32 < h → ∀ (V : World) (q : Below w.heap.size w V), Calls Tryd.prog 21 #[.int .i64 h] V (fun r W' => r = .returned (.tuple #[.pointer none, .iface 42 (.int .i64 1)]) ∧ Below V.heap.size V W') from fun h hh V q => t.newNo V h q hh)
  have HTT := hid t
  have HSC := hid (fun (V : World) (q : Below w.heap.size w V) => (show Av V w.heap.size A sc from hsc.below q))
  have HOA := hid ho
  have HLL := hid (show sc.length ≤ 25 by omega)
  have HLN := hid hn
  have HTB := hid (fun (V : World) (q : Below w.heap.size w V) => hT.below q)
  have HAA := hid (fun (o : Oper) (a : Go.Act) (W : World) (h : o.op = .alloc 27) => run_alloc_of (o := o) (a := a) (W := W) _ h _ zeroAc)
  have HIS := hid (fun V => show Calls Tryd.prog 15 #[.iface 42 (.int .i64 1), .int .i64 1] V (fun e w' => e = .returned (.bool true) ∧ V = w') from by
    have := eis_any 1 1 V
    exact this)
  obtain ⟨JZ, hJZ⟩ : ∃ J : Array Value, J = #[.slice none 0 0, .slice none 0 0] := ⟨_, rfl⟩
  have HJE := hid hJZ
  have HJS0 := hid (show (Tryd.prog.info? 74).map (·.size) = some JZ.size by rw [hJZ]; exact sizePf)
  have HJ10 := hid (show JZ.all (·.oneCell') = true by rw [hJZ]; simp [Value.oneCell'])
  have HAP := hid (fun (o : Oper) (a : Go.Act) (W : World) (h : o.op = .alloc 74) => show (execOp a.eval o).run Tryd.prog W = .ok (.value (.pointer (some ⟨W.heap.size, 0, none⟩))) (W.alloc (.cells JZ 74)) from run_alloc_of (o := o) (a := a) (W := W) _ h _ (by rw [hJZ]; kernel_rfl))
  obtain ⟨I, hIE⟩ : ∃ I : Array Value, I = #[.int .u64 (f : Int), .int .i64 m] := ⟨_, rfl⟩
  have HIE := hid hIE
  have HFF := hid hf
  clear t HALV hsc ho hT hs hf hb0 hJZ hIE hn
  by_cases hl : 60 < m
  · have l1 : decide (60 < m) = true := decide_eq_true (by omega)
    by_cases hl2 : m ≤ 256
    · have l2 : decide (m ≤ 256) = true := decide_eq_true (by omega)
      clear hl hl2
      go_enter Tryd.func9, Tryd.ntmps9
      go_wp2_with (first
        | (rw [← hw0]; clear hw0; rw [← HBX.out]; (go_at_call 39; refine HAL.out.mono ?_; rintro r1 w1 ⟨rfl, hb1⟩; have B1 := hid (HB0.out.trans (hb1.mono HB0.out.size)); have X1 := hid (HX0.out.new_ hb1); have qa := X1.out.cell 0; have qb := X1.out.cell 1; simp at qa qb; clear hb1)))
      go_ret
      exact ⟨rfl, B1.out⟩
    · have l2 : decide (m ≤ 256) = false := decide_eq_false (by omega)
      have HNO := hid (fun k : Nat => show spanB (k : Int) f m = false from spanB_no (.inr (.inr (.inr (by omega)))))
      clear hl hl2
      by_cases hh : h < 0 ∨ 32 < h
      · have HN := hid (HN1.out h hh)
        clear hh
        go_enter Tryd.func9, Tryd.ntmps9
        go_wp2_with (first
          | (rw [← hw0]; clear hw0; rw [← HBX.out]; (go_at_call 39; refine HAL.out.mono ?_; rintro r1 w1 ⟨rfl, hb1⟩; have B1 := hid (HB0.out.trans (hb1.mono HB0.out.size)); have X1 := hid (HX0.out.new_ hb1); have qa := X1.out.cell 0; have qb := X1.out.cell 1; simp at qa qb; clear hb1))
          | (go_at_call 21; refine (HN.out w1 B1.out).mono ?_; rintro r2 w2 ⟨rfl, hb2⟩; have B2 := hid (B1.out.trans (hb2.mono B1.out.size)); clear hb2))
        go_ret
        exact ⟨rfl, B2.out⟩
      · obtain ⟨k, rfl⟩ : ∃ k : Nat, h = (k : Int) := ⟨h.toNat, by omega⟩
        have hk : k ≤ 32 := by omega
        clear hh HN1
        have HN := hid (fun (V : World) (q : Below w.heap.size w V) => show Calls Tryd.prog 21 #[.int .i64 (k : Int)] V (fun r W' => ∃ S b, r = .returned (.tuple #[.pointer (some ⟨b, 0, none⟩), .nilIface]) ∧ Pt S W' b k [] ∧ (∀ k, S k → V.heap.size ≤ k) ∧ Below V.heap.size V W') from HTT.out.newOk V k q hk)
        have HGD := hid (Gd.sets hk HOA.out)
        have HLE := hid (fun j hj => sets9_le k sc j hj)
        have HKK := hid hk
        clear hk
        go_enter Tryd.func9, Tryd.ntmps9
        go_upto_region 9 with (first
          | (rw [← hw0]; clear hw0; rw [← HBX.out]; (go_at_call 39; refine HAL.out.mono ?_; rintro r1 w1 ⟨rfl, hb1⟩; have B1 := hid (HB0.out.trans (hb1.mono HB0.out.size)); have X1 := hid (HX0.out.new_ hb1); have qa := X1.out.cell 0; have qb := X1.out.cell 1; simp at qa qb; clear hb1))
          | (go_at_call 21; refine (HN.out w1 B1.out).mono ?_; rintro r2 w2 ⟨S1, b1, rfl, p1, f1, hb2⟩; have X2 := hid (show SbT Pt w S1 b1 k [] Bx I w2 from ⟨p1, by rw [HIE.out]; exact X1.out.new_ hb2, (fun j hj => Nat.lt_of_lt_of_le X1.out.lt (f1 j hj)), B1.out.trans (hb2.mono B1.out.size)⟩); clear p1 f1 hb2 qa qb))
        go_loopw [42] (fun v wr => ∃ (j : Nat) (S1 : Nat → Prop), j ≤ n ∧ v = .int .i64 (j : Int) ∧ Hid (SbT Pt w S1 b1 k (sets9 k (sc.take j)) Bx I wr)) (fun v _ => n - (intOf v).toNat)
        case atStart => exact ⟨0, S1, by omega, rfl, by rw [sets9_zero]; exact X2⟩
        case round =>
          clear X2 S1 B1 X1
          obtain ⟨j, S1, hj, rfl, HX⟩ := hrel
          by_cases hlt : j < n
          · have hd : decide ((j : Int) < (n : Int)) = true := by simp; omega
            have hjl : j < sc.length := by rw [← HLN.out]; exact hlt
            obtain ⟨a, ha⟩ : ∃ a, a = sc[j] := ⟨_, rfl⟩
            obtain ⟨q, o, eA, hq, hra⟩ := (HSC.out wr HX.out.below).act HOA.out hjl
            rw [← ha] at hra
            have hoa : a.1 < 18446744073709551616 ∧ a.2.1.length = 32 := by rw [ha]; exact HOA.out.get hjl
            obtain ⟨x, hx⟩ : ∃ x, x = o + j * 34 := ⟨_, rfl⟩
            have hra' : wr.rangeAt q x (actV a) := by rw [hx, show o + j * 34 = o + 34 * j by omega]; exact hra
            have hnx := sets9_next k sc j hjl
            rw [← ha] at hnx
            have HLD := hid (show (sets9 k (sc.take j)).length ≤ 1000 by have := HLE.out j (by omega); have := HLL.out; omega)
            obtain ⟨j1, hj1⟩ : ∃ m, m = j + 1 := ⟨_, rfl⟩
            rw [← hj1] at hnx
            have HJL := hid (show j1 ≤ n by omega)
            have HMS := hid (show n - j1 < n - j by omega)
            have e2 : (j : Int) + 1 = (j1 : Int) := by omega
            have ew : IntKind.i64.wrap (j1 : Int) = (j1 : Int) := by rw [IntKind.wrap_i64] <;> have := HLL.out <;> have := HLN.out <;> omega
            have ik : (j : Int) < (n : Int) := by omega
            have e3 : o + j * 34 = x := hx.symm
            generalize sets9 k (sc.take j) = LD at hnx HLD HX
            have HRA := hid hra'
            have HAL2 := hid hoa.2
            have HAI := hid hoa.1
            subst eA
            clear hjl ha hq hra hoa hra' hx hj1 hlt hj
            cases hb : hasB k 0 a.1 with
            | false =>
              rw [hb] at hnx
              rw [if_neg (by simp)] at hnx
              have HST := hid (fun (V : World) (S : Nat → Prop) (p : Pt S V b1 k LD) (q : Below w.heap.size w V) => show Calls Tryd.prog 22 #[.pointer (some ⟨b1, 0, none⟩), .int .u64 (a.1 : Int), .agg (ubs a.2.1).toArray] V (fun r W' => r = .returned (.iface 42 (.int .i64 1)) ∧ ∃ S', Pt S' W' b1 k LD ∧ (∀ k, S' k → S k ∨ V.heap.size ≤ k) ∧ Fr S V W') from by
                have := HTT.out.setOk a.1 a.2.1 q p HLD.out HAI.out HAL2.out
                rw [hb] at this
                exact this)
              have HNX := hid hnx
              clear hb hnx
              go_wp2_with (first
                | (refine wpList_valW (by rfl) (run_loadAc (.tmp 44) rfl q x rfl a HRA.out HAL2.out) ?_)
                | (refine Great.wpList_allocTo rfl _ rfl _ _ (HAA.out _ _ _ rfl) ?_)
                | (refine wpList_store_row rfl _ (.tmp 10) (.tmp 45) rfl wr.heap.size (actV a).toArray rfl rfl 27 (actV (0, n32, false)).toArray (heap_alloc_new _ _) (sizeAc_of HAL2.out) ?ya2b (actV_one _) ?yb2b; rotate_right; have hb8 : Below wr.heap.size wr ((wr.alloc (.cells (actV (0, n32, false)).toArray 27)).setRow wr.heap.size (actV a).toArray) := below_setRow ((Below.refl _ _).alloc (Nat.le_refl _) _) (Nat.le_refl _) _; have A8 := hid (show At ((wr.alloc (.cells (actV (0, n32, false)).toArray 27)).setRow wr.heap.size (actV a).toArray) wr.heap.size (actV a).toArray 27 from setRow_heap _ _ _ _ _ _ (At.new wr _ _)); have X8 := hid (HX.out.new HTT.out hb8); have c80 := at_act0 A8.out; clear hb8; generalize ((wr.alloc (.cells (actV (0, n32, false)).toArray 27)).setRow wr.heap.size (actV a).toArray) = w8 at X8 A8 c80 ⊢; generalize wr.heap.size = Q at A8 c80 ⊢)
                | (refine wpList_valW (by rfl) (run_loadH (.tmp 49) rfl Q 1 rfl a.2.1 (at_act1 A8.out) HAL2.out) ?_)
                | (go_at_call 22; refine (HST.out w8 S1 X8.out.t X8.out.below).mono ?_; rintro r9 w9 ⟨rfl, S9, p9, f9, fr9⟩; have X9 := hid (X8.out.set HTT.out p9 f9 fr9); clear p9 f9 fr9 c80))
              case ya2b => rw [List.size_toArray, List.size_toArray, actV_length HAL2.out, actV_length (a := (0, n32, false)) n32_length]
              go_roundw
              case rel => exact ⟨j1, S9, HJL.out, rfl, by rw [HNX.out]; exact X9⟩
              case measure =>
                show n - ((j1 : Int)).toNat < n - (j : Int).toNat
                rw [Int.toNat_natCast, Int.toNat_natCast]
                exact HMS.out
            | true =>
              rw [hb] at hnx
              rw [if_pos rfl] at hnx
              have HST := hid (fun (V : World) (S : Nat → Prop) (p : Pt S V b1 k LD) (q : Below w.heap.size w V) => show Calls Tryd.prog 22 #[.pointer (some ⟨b1, 0, none⟩), .int .u64 (a.1 : Int), .agg (ubs a.2.1).toArray] V (fun r W' => r = .returned .nilIface ∧ ∃ S', Pt S' W' b1 k (setT a.1 a.2.1 LD) ∧ (∀ k, S' k → S k ∨ V.heap.size ≤ k) ∧ Fr S V W') from by
                have := HTT.out.setOk a.1 a.2.1 q p HLD.out HAI.out HAL2.out
                rw [hb] at this
                exact this)
              have HNX := hid hnx
              clear hb hnx
              go_wp2_with (first
                | (refine wpList_valW (by rfl) (run_loadAc (.tmp 44) rfl q x rfl a HRA.out HAL2.out) ?_)
                | (refine Great.wpList_allocTo rfl _ rfl _ _ (HAA.out _ _ _ rfl) ?_)
                | (refine wpList_store_row rfl _ (.tmp 10) (.tmp 45) rfl wr.heap.size (actV a).toArray rfl rfl 27 (actV (0, n32, false)).toArray (heap_alloc_new _ _) (sizeAc_of HAL2.out) ?ya1b (actV_one _) ?yb1b; rotate_right; have hb8 : Below wr.heap.size wr ((wr.alloc (.cells (actV (0, n32, false)).toArray 27)).setRow wr.heap.size (actV a).toArray) := below_setRow ((Below.refl _ _).alloc (Nat.le_refl _) _) (Nat.le_refl _) _; have A8 := hid (show At ((wr.alloc (.cells (actV (0, n32, false)).toArray 27)).setRow wr.heap.size (actV a).toArray) wr.heap.size (actV a).toArray 27 from setRow_heap _ _ _ _ _ _ (At.new wr _ _)); have X8 := hid (HX.out.new HTT.out hb8); have c80 := at_act0 A8.out; clear hb8; generalize ((wr.alloc (.cells (actV (0, n32, false)).toArray 27)).setRow wr.heap.size (actV a).toArray) = w8 at X8 A8 c80 ⊢; generalize wr.heap.size = Q at A8 c80 ⊢)
                | (refine wpList_valW (by rfl) (run_loadH (.tmp 49) rfl Q 1 rfl a.2.1 (at_act1 A8.out) HAL2.out) ?_)
                | (go_at_call 22; refine (HST.out w8 S1 X8.out.t X8.out.below).mono ?_; rintro r9 w9 ⟨rfl, S9, p9, f9, fr9⟩; have X9 := hid (X8.out.set HTT.out p9 f9 fr9); clear p9 f9 fr9 c80))
              case ya1b => rw [List.size_toArray, List.size_toArray, actV_length HAL2.out, actV_length (a := (0, n32, false)) n32_length]
              go_roundw
              case rel => exact ⟨j1, S9, HJL.out, rfl, by rw [HNX.out]; exact X9⟩
              case measure =>
                show n - ((j1 : Int)).toNat < n - (j : Int).toNat
                rw [Int.toNat_natCast, Int.toNat_natCast]
                exact HMS.out
          · obtain rfl : j = n := by omega
            have hd : decide ((j : Int) < (j : Int)) = false := by simp
            have hfull : sc.take j = sc := List.take_of_length_le (by rw [← HLN.out]; exact Nat.le_refl _)
            rw [hfull] at HX
            have HLD := hid (show (sets9 k sc).length ≤ 1000 by have := HLE.out sc.length (Nat.le_refl _); rw [List.take_length] at this; have := HLL.out; omega)
            generalize sets9 k sc = L at HX HLD HGD
            have qa := HX.out.x.cell 0
            have qb := HX.out.x.cell 1
            rw [HIE.out] at qa qb
            simp at qa qb
            clear hfull hlt hj HLE HSC HAA HOA HN
            have hg := HNO.out k
            have HMK := hid (fun (V : World) (q : Below w.heap.size w V) (S : Nat → Prop) (p : Pt S V b1 k L) => show Calls Tryd.prog 40 #[.pointer (some ⟨b1, 0, none⟩), .int .u64 (f : Int), .int .i64 m] V (fun r W' => r = .returned (.tuple #[.agg JZ, .iface 42 (.int .i64 1)]) ∧ Below V.heap.size V W') from by
              rw [HJE.out]
              exact pmake11_no HTT.out q p f m HFF.out hg)
            obtain ⟨J, hJ⟩ : ∃ J, J = JZ := ⟨_, rfl⟩
            have HJS := hid (show (Tryd.prog.info? 74).map (·.size) = some J.size by rw [hJ]; exact HJS0.out)
            have HJ1 := hid (show J.all (·.oneCell') = true by rw [hJ]; exact HJ10.out)
            have HJZ := hid (show JZ.size = J.size by rw [hJ])
            rw [← hJ] at HMK
            clear hJ hg
            go_wp2_with (first
              | (refine Great.wpList_allocTo rfl _ rfl _ _ (HAP.out _ _ _ rfl) ?_)
              | (go_at_call 40; refine (HMK.out wr HX.out.below S1 HX.out.t).mono ?_; rintro r4 w4 ⟨rfl, hb4⟩; have X4 := hid (HX.out.new HTT.out hb4); clear hb4 qa qb)
              | (refine wpList_store_row rfl _ (.tmp 11) (.tmp 60) rfl w4.heap.size J rfl rfl 74 JZ (At.new _ _ _) HJS.out HJZ.out HJ1.out ?_; have hb5 : Below w4.heap.size w4 ((w4.alloc (.cells JZ 74)).setRow w4.heap.size J) := below_setRow ((Below.refl _ _).alloc (Nat.le_refl _) _) (Nat.le_refl _) _; have X5 := hid (X4.out.new HTT.out hb5); clear hb5; generalize ((w4.alloc (.cells JZ 74)).setRow w4.heap.size J) = w5 at X5 ⊢; generalize w4.heap.size = G at ⊢; have qc := X5.out.x.cell 0; have qd := X5.out.x.cell 1; rw [HIE.out] at qc qd; simp at qc qd)
              | (go_at_call 15; refine (HIS.out _).mono ?_; rintro ri wi ⟨rfl, hwi⟩; rw [← hwi]; clear hwi))
            go_ret
            exact ⟨rfl, X5.out.below⟩
  · have l1 : decide (60 < m) = false := decide_eq_false (by omega)
    have HM60 := hid (show m ≤ 60 by omega)
    clear hl
    by_cases hh : h < 0 ∨ 32 < h
    · have HN := hid (HN1.out h hh)
      clear hh
      go_enter Tryd.func9, Tryd.ntmps9
      go_wp2_with (first
        | (rw [← hw0]; clear hw0; rw [← HBX.out]; (go_at_call 39; refine HAL.out.mono ?_; rintro r1 w1 ⟨rfl, hb1⟩; have B1 := hid (HB0.out.trans (hb1.mono HB0.out.size)); have X1 := hid (HX0.out.new_ hb1); have qa := X1.out.cell 0; have qb := X1.out.cell 1; simp at qa qb; clear hb1))
        | (go_at_call 21; refine (HN.out w1 B1.out).mono ?_; rintro r2 w2 ⟨rfl, hb2⟩; have B2 := hid (B1.out.trans (hb2.mono B1.out.size)); clear hb2))
      go_ret
      exact ⟨rfl, B2.out⟩
    · obtain ⟨k, rfl⟩ : ∃ k : Nat, h = (k : Int) := ⟨h.toNat, by omega⟩
      have hk : k ≤ 32 := by omega
      clear hh HN1
      have HN := hid (fun (V : World) (q : Below w.heap.size w V) => show Calls Tryd.prog 21 #[.int .i64 (k : Int)] V (fun r W' => ∃ S b, r = .returned (.tuple #[.pointer (some ⟨b, 0, none⟩), .nilIface]) ∧ Pt S W' b k [] ∧ (∀ k, S k → V.heap.size ≤ k) ∧ Below V.heap.size V W') from HTT.out.newOk V k q hk)
      have HGD := hid (Gd.sets hk HOA.out)
      have HLE := hid (fun j hj => sets9_le k sc j hj)
      have HKK := hid hk
      clear hk
      go_enter Tryd.func9, Tryd.ntmps9
      go_upto_region 9 with (first
        | (rw [← hw0]; clear hw0; rw [← HBX.out]; (go_at_call 39; refine HAL.out.mono ?_; rintro r1 w1 ⟨rfl, hb1⟩; have B1 := hid (HB0.out.trans (hb1.mono HB0.out.size)); have X1 := hid (HX0.out.new_ hb1); have qa := X1.out.cell 0; have qb := X1.out.cell 1; simp at qa qb; clear hb1))
        | (go_at_call 21; refine (HN.out w1 B1.out).mono ?_; rintro r2 w2 ⟨S1, b1, rfl, p1, f1, hb2⟩; have X2 := hid (show SbT Pt w S1 b1 k [] Bx I w2 from ⟨p1, by rw [HIE.out]; exact X1.out.new_ hb2, (fun j hj => Nat.lt_of_lt_of_le X1.out.lt (f1 j hj)), B1.out.trans (hb2.mono B1.out.size)⟩); clear p1 f1 hb2 qa qb))
      go_loopw [42] (fun v wr => ∃ (j : Nat) (S1 : Nat → Prop), j ≤ n ∧ v = .int .i64 (j : Int) ∧ Hid (SbT Pt w S1 b1 k (sets9 k (sc.take j)) Bx I wr)) (fun v _ => n - (intOf v).toNat)
      case atStart => exact ⟨0, S1, by omega, rfl, by rw [sets9_zero]; exact X2⟩
      case round =>
        clear X2 S1 B1 X1
        obtain ⟨j, S1, hj, rfl, HX⟩ := hrel
        by_cases hlt : j < n
        · have hd : decide ((j : Int) < (n : Int)) = true := by simp; omega
          have hjl : j < sc.length := by rw [← HLN.out]; exact hlt
          obtain ⟨a, ha⟩ : ∃ a, a = sc[j] := ⟨_, rfl⟩
          obtain ⟨q, o, eA, hq, hra⟩ := (HSC.out wr HX.out.below).act HOA.out hjl
          rw [← ha] at hra
          have hoa : a.1 < 18446744073709551616 ∧ a.2.1.length = 32 := by rw [ha]; exact HOA.out.get hjl
          obtain ⟨x, hx⟩ : ∃ x, x = o + j * 34 := ⟨_, rfl⟩
          have hra' : wr.rangeAt q x (actV a) := by rw [hx, show o + j * 34 = o + 34 * j by omega]; exact hra
          have hnx := sets9_next k sc j hjl
          rw [← ha] at hnx
          have HLD := hid (show (sets9 k (sc.take j)).length ≤ 1000 by have := HLE.out j (by omega); have := HLL.out; omega)
          obtain ⟨j1, hj1⟩ : ∃ m, m = j + 1 := ⟨_, rfl⟩
          rw [← hj1] at hnx
          have HJL := hid (show j1 ≤ n by omega)
          have HMS := hid (show n - j1 < n - j by omega)
          have e2 : (j : Int) + 1 = (j1 : Int) := by omega
          have ew : IntKind.i64.wrap (j1 : Int) = (j1 : Int) := by rw [IntKind.wrap_i64] <;> have := HLL.out <;> have := HLN.out <;> omega
          have ik : (j : Int) < (n : Int) := by omega
          have e3 : o + j * 34 = x := hx.symm
          generalize sets9 k (sc.take j) = LD at hnx HLD HX
          have HRA := hid hra'
          have HAL2 := hid hoa.2
          have HAI := hid hoa.1
          subst eA
          clear hjl ha hq hra hoa hra' hx hj1 hlt hj
          cases hb : hasB k 0 a.1 with
          | false =>
            rw [hb] at hnx
            rw [if_neg (by simp)] at hnx
            have HST := hid (fun (V : World) (S : Nat → Prop) (p : Pt S V b1 k LD) (q : Below w.heap.size w V) => show Calls Tryd.prog 22 #[.pointer (some ⟨b1, 0, none⟩), .int .u64 (a.1 : Int), .agg (ubs a.2.1).toArray] V (fun r W' => r = .returned (.iface 42 (.int .i64 1)) ∧ ∃ S', Pt S' W' b1 k LD ∧ (∀ k, S' k → S k ∨ V.heap.size ≤ k) ∧ Fr S V W') from by
              have := HTT.out.setOk a.1 a.2.1 q p HLD.out HAI.out HAL2.out
              rw [hb] at this
              exact this)
            have HNX := hid hnx
            clear hb hnx
            go_wp2_with (first
              | (refine wpList_valW (by rfl) (run_loadAc (.tmp 44) rfl q x rfl a HRA.out HAL2.out) ?_)
              | (refine Great.wpList_allocTo rfl _ rfl _ _ (HAA.out _ _ _ rfl) ?_)
              | (refine wpList_store_row rfl _ (.tmp 10) (.tmp 45) rfl wr.heap.size (actV a).toArray rfl rfl 27 (actV (0, n32, false)).toArray (heap_alloc_new _ _) (sizeAc_of HAL2.out) ?ya2a (actV_one _) ?yb2a; rotate_right; have hb8 : Below wr.heap.size wr ((wr.alloc (.cells (actV (0, n32, false)).toArray 27)).setRow wr.heap.size (actV a).toArray) := below_setRow ((Below.refl _ _).alloc (Nat.le_refl _) _) (Nat.le_refl _) _; have A8 := hid (show At ((wr.alloc (.cells (actV (0, n32, false)).toArray 27)).setRow wr.heap.size (actV a).toArray) wr.heap.size (actV a).toArray 27 from setRow_heap _ _ _ _ _ _ (At.new wr _ _)); have X8 := hid (HX.out.new HTT.out hb8); have c80 := at_act0 A8.out; clear hb8; generalize ((wr.alloc (.cells (actV (0, n32, false)).toArray 27)).setRow wr.heap.size (actV a).toArray) = w8 at X8 A8 c80 ⊢; generalize wr.heap.size = Q at A8 c80 ⊢)
              | (refine wpList_valW (by rfl) (run_loadH (.tmp 49) rfl Q 1 rfl a.2.1 (at_act1 A8.out) HAL2.out) ?_)
              | (go_at_call 22; refine (HST.out w8 S1 X8.out.t X8.out.below).mono ?_; rintro r9 w9 ⟨rfl, S9, p9, f9, fr9⟩; have X9 := hid (X8.out.set HTT.out p9 f9 fr9); clear p9 f9 fr9 c80))
            case ya2a => rw [List.size_toArray, List.size_toArray, actV_length HAL2.out, actV_length (a := (0, n32, false)) n32_length]
            go_roundw
            case rel => exact ⟨j1, S9, HJL.out, rfl, by rw [HNX.out]; exact X9⟩
            case measure =>
              show n - ((j1 : Int)).toNat < n - (j : Int).toNat
              rw [Int.toNat_natCast, Int.toNat_natCast]
              exact HMS.out
          | true =>
            rw [hb] at hnx
            rw [if_pos rfl] at hnx
            have HST := hid (fun (V : World) (S : Nat → Prop) (p : Pt S V b1 k LD) (q : Below w.heap.size w V) => show Calls Tryd.prog 22 #[.pointer (some ⟨b1, 0, none⟩), .int .u64 (a.1 : Int), .agg (ubs a.2.1).toArray] V (fun r W' => r = .returned .nilIface ∧ ∃ S', Pt S' W' b1 k (setT a.1 a.2.1 LD) ∧ (∀ k, S' k → S k ∨ V.heap.size ≤ k) ∧ Fr S V W') from by
              have := HTT.out.setOk a.1 a.2.1 q p HLD.out HAI.out HAL2.out
              rw [hb] at this
              exact this)
            have HNX := hid hnx
            clear hb hnx
            go_wp2_with (first
              | (refine wpList_valW (by rfl) (run_loadAc (.tmp 44) rfl q x rfl a HRA.out HAL2.out) ?_)
              | (refine Great.wpList_allocTo rfl _ rfl _ _ (HAA.out _ _ _ rfl) ?_)
              | (refine wpList_store_row rfl _ (.tmp 10) (.tmp 45) rfl wr.heap.size (actV a).toArray rfl rfl 27 (actV (0, n32, false)).toArray (heap_alloc_new _ _) (sizeAc_of HAL2.out) ?ya1a (actV_one _) ?yb1a; rotate_right; have hb8 : Below wr.heap.size wr ((wr.alloc (.cells (actV (0, n32, false)).toArray 27)).setRow wr.heap.size (actV a).toArray) := below_setRow ((Below.refl _ _).alloc (Nat.le_refl _) _) (Nat.le_refl _) _; have A8 := hid (show At ((wr.alloc (.cells (actV (0, n32, false)).toArray 27)).setRow wr.heap.size (actV a).toArray) wr.heap.size (actV a).toArray 27 from setRow_heap _ _ _ _ _ _ (At.new wr _ _)); have X8 := hid (HX.out.new HTT.out hb8); have c80 := at_act0 A8.out; clear hb8; generalize ((wr.alloc (.cells (actV (0, n32, false)).toArray 27)).setRow wr.heap.size (actV a).toArray) = w8 at X8 A8 c80 ⊢; generalize wr.heap.size = Q at A8 c80 ⊢)
              | (refine wpList_valW (by rfl) (run_loadH (.tmp 49) rfl Q 1 rfl a.2.1 (at_act1 A8.out) HAL2.out) ?_)
              | (go_at_call 22; refine (HST.out w8 S1 X8.out.t X8.out.below).mono ?_; rintro r9 w9 ⟨rfl, S9, p9, f9, fr9⟩; have X9 := hid (X8.out.set HTT.out p9 f9 fr9); clear p9 f9 fr9 c80))
            case ya1a => rw [List.size_toArray, List.size_toArray, actV_length HAL2.out, actV_length (a := (0, n32, false)) n32_length]
            go_roundw
            case rel => exact ⟨j1, S9, HJL.out, rfl, by rw [HNX.out]; exact X9⟩
            case measure =>
              show n - ((j1 : Int)).toNat < n - (j : Int).toNat
              rw [Int.toNat_natCast, Int.toNat_natCast]
              exact HMS.out
        · obtain rfl : j = n := by omega
          have hd : decide ((j : Int) < (j : Int)) = false := by simp
          have hfull : sc.take j = sc := List.take_of_length_le (by rw [← HLN.out]; exact Nat.le_refl _)
          rw [hfull] at HX
          have HLD := hid (show (sets9 k sc).length ≤ 1000 by have := HLE.out sc.length (Nat.le_refl _); rw [List.take_length] at this; have := HLL.out; omega)
          generalize sets9 k sc = L at HX HLD HGD
          have qa := HX.out.x.cell 0
          have qb := HX.out.x.cell 1
          rw [HIE.out] at qa qb
          simp at qa qb
          clear hfull hlt hj HLE HSC HAA HOA HN
          cases hg : spanB (k : Int) f m with
          | true =>
            obtain ⟨k', m1, ek, em, -, hm1, hm2, hfm⟩ := spanB_parts hg
            obtain rfl : k = k' := by omega
            subst em
            have hm60 : m1 ≤ 60 := by have := HM60.out; omega
            have hpw : (2 : Nat) ^ k ≤ 2 ^ 32 := Nat.pow_le_pow_right (by omega) HKK.out
            have hrg := rgt_span hg
            have hok := HGD.out.ok
            have HMK := hid (fun (V : World) (S : Nat → Prop) (x : SbT Pt w S b1 k L Bx I V) => pmake11_okc HTT.out x.below x.t HLD.out f m1 hg)
            have HIX := hid (fun V => pindices_ok f m1 V (span32 hg))
            have HLV := hid (fun (V : World) (S : Nat → Prop) (x : SbT Pt w S b1 k L Bx I V) (A : Option Addr) (c : Nat) (a : Nu V V.heap.size A (List.range' f m1)) => show Calls Tryd.prog 28 #[.pointer (some ⟨b1, 0, none⟩), .slice A m1 c] V (fun r W' => ∃ A1 c1, r = .returned (.tuple #[.slice A1 m1 c1, .nilIface]) ∧ Rd W' W'.heap.size A1 (ubs (leavesS L (List.range' f m1))) ∧ Below V.heap.size V W') from by
              have := pleaves_ok HTT.out x.below x.t HLD.out (List.range' f m1) A c a hrg
              rw [List.length_range'] at this
              refine this.mono ?_
              rintro r W' ⟨A4, c4, h1, h2, h3, -⟩
              exact ⟨A4, c4, h1, h2, h3⟩)
            obtain ⟨cnt, hcnt⟩ : ∃ n, n = (sidL f k).length + (sidR (f + m1 - 1) k).length := ⟨_, rfl⟩
            have HCT := hid (fun (V : World) (A : Option Addr) (c : Nat) (a : Nu V V.heap.size A (List.range' f m1)) (hc : m1 ≤ c) => show Calls Tryd.prog 29 #[.int .i64 (k : Int), .slice A m1 c] V (fun r W' => r = .returned (.tuple #[.int .i64 (cnt : Int), .nilIface]) ∧ Below V.heap.size V W') from by
              have := pcount_any (k : Int) (List.range' f m1) A c V a (by rw [List.length_range']; exact hc)
              rw [List.length_range', hrg, if_pos rfl, Int.toNat_natCast, spots_span hm1 HKK.out hfm, ← hcnt] at this
              exact this)
            have hll := leavesS_length hok (List.range' f m1)
            rw [List.length_range'] at hll
            have hl1 := besideS_length hok (sidL f k)
            have hl2 := besideS_length hok (sidR (f + m1 - 1) k)
            obtain ⟨rt, hrt⟩ : ∃ x, x = nodeS k 0 L := ⟨_, rfl⟩
            have HRL := hid (show rt.length = 32 by rw [hrt]; exact nodeS_length _ _ _ hok)
            have HTR := hid (fun (V : World) (S : Nat → Prop) (x : SbT Pt w S b1 k L Bx I V) => show Calls Tryd.prog 23 #[.pointer (some ⟨b1, 0, none⟩)] V (fun r W' => r = .returned (.agg (ubs rt).toArray) ∧ Below V.heap.size V W') from by
              rw [hrt]
              exact HTT.out.rootOk x.below x.t HLD.out)
            have HCK := hid (fun (V : World) (q : Below w.heap.size w V) (AL P1 P2 : Option Addr) (cl d1 d2 : Nat) (e1 : (sidL f k).length ≤ d1) (e2 : (sidR (f + m1 - 1) k).length ≤ d2) (r0 : Rd V V.heap.size AL (ubs (leavesS L (List.range' f m1)))) (r1 : Rd V V.heap.size P1 (ubs (besideS L (sidL f k)))) (r2 : Rd V V.heap.size P2 (ubs (besideS L (sidR (f + m1 - 1) k)))) => show Calls Tryd.prog 49 #[.agg (ubs rt).toArray, .int .i64 (k : Int), .int .u64 (f : Int), .slice AL m1 cl, .agg #[.slice P1 (sidL f k).length d1, .slice P2 (sidR (f + m1 - 1) k).length d2]] V (fun r W' => r = .returned .nilIface ∧ Below V.heap.size V W') from by
              have := pcheck11_any rt HRL.out (k : Int) f m1 (sidL f k).length (sidR (f + m1 - 1) k).length cl d1 d2 _ _ _ AL P1 P2 V HFF.out e1 e2 hll hl1 hl2 r0 r1 r2 (HTB.out V q)
              rw [hrt, ck_span hok hg, ← hrt, errV_zero] at this
              exact this)
            have hsl := sidL_length f k
            have hsr := sidR_length (f + m1 - 1) k
            generalize leavesS L (List.range' f m1) = lv at HLV HCK
            generalize besideS L (sidL f k) = bl at HMK HCK
            generalize besideS L (sidR (f + m1 - 1) k) = br at HMK HCK
            generalize (sidL f k).length = nl at HMK HCK hcnt hsl
            generalize (sidR (f + m1 - 1) k).length = nr at HMK HCK hcnt hsr
            have ec : (nl : Int) + (nr : Int) = (cnt : Int) := by omega
            have ewc : IntKind.i64.wrap (cnt : Int) = (cnt : Int) := by rw [IntKind.wrap_i64] <;> have := HKK.out <;> omega
            have hm0 : ¬ m1 = 0 := by omega
            have hmp : 0 < m1 := by omega
            have hmi : (0 : Int) < (m1 : Int) := by omega
            have HM1 := hid hm1
            clear hg ek hm1 hm2 hfm hm60 hpw hrg hok hll hl1 hl2 hrt hcnt hsl hsr HM60 HGD HTB HIS HLN HLL HLD
            go_upto_region 16 with (first
              | (go_at_call 40; refine (HMK.out wr S1 HX.out).mono ?_; rintro r4 w4 ⟨P1, d1, P2, d2, rfl, hp1, hp2, hb4, hd1, hd2⟩; have X4 := hid (HX.out.new HTT.out hb4); have R4 := hid (show Rd w4 w4.heap.size P1 (ubs bl) ∧ Rd w4 w4.heap.size P2 (ubs br) from ⟨hp1, hp2⟩); have D4 := hid (show nl ≤ d1 ∧ nr ≤ d2 from ⟨hd1, hd2⟩); obtain ⟨J, hJ⟩ : ∃ J : Array Value, J = #[.slice P1 nl d1, .slice P2 nr d2] := ⟨_, rfl⟩; rw [← hJ]; have HJS := hid (show (Tryd.prog.info? 74).map (·.size) = some J.size by rw [hJ]; exact sizePf); have HJ1 := hid (show J.all (·.oneCell') = true by rw [hJ]; simp [Value.oneCell']); have HJZ := hid (show JZ.size = J.size by rw [hJ, HJE.out]; rfl); have HJJ := hid hJ; clear hp1 hp2 hJ hb4 hd1 hd2 qa qb)
              | (refine Great.wpList_allocTo rfl _ rfl _ _ (HAP.out _ _ _ rfl) ?_)
              | (refine wpList_store_row rfl _ (.tmp 11) (.tmp 60) rfl w4.heap.size J rfl rfl 74 JZ (At.new _ _ _) HJS.out HJZ.out HJ1.out ?_; have hb5 : Below w4.heap.size w4 ((w4.alloc (.cells JZ 74)).setRow w4.heap.size J) := below_setRow ((Below.refl _ _).alloc (Nat.le_refl _) _) (Nat.le_refl _) _; have X5 := hid (X4.out.new HTT.out hb5); have P5 := hid (show At ((w4.alloc (.cells JZ 74)).setRow w4.heap.size J) w4.heap.size J 74 from setRow_heap _ _ _ _ _ _ (At.new _ _ _)); have R5 := hid (show Rd ((w4.alloc (.cells JZ 74)).setRow w4.heap.size J) ((w4.alloc (.cells JZ 74)).setRow w4.heap.size J).heap.size P1 (ubs bl) ∧ Rd ((w4.alloc (.cells JZ 74)).setRow w4.heap.size J) ((w4.alloc (.cells JZ 74)).setRow w4.heap.size J).heap.size P2 (ubs br) from ⟨rd11_on R4.out.1 hb5, rd11_on R4.out.2 hb5⟩); clear hb5; generalize ((w4.alloc (.cells JZ 74)).setRow w4.heap.size J) = w5 at X5 P5 R5 ⊢; generalize w4.heap.size = G at P5 ⊢; have qc := X5.out.x.cell 0; have qd := X5.out.x.cell 1; rw [HIE.out] at qc qd; simp at qc qd))
            clear HMK HAP X4 R4 HX HJZ HJ1
            go_upto_region 17 with (first
              | (go_at_call 50; refine (HIX.out w5).mono ?_; rintro r6 w6 ⟨AI, cI, rfl, hcI, hnI, hb6⟩; obtain ⟨gI, oI, rfl, -, -⟩ := hnI.at (j := 0) (by rw [List.length_range']; exact HM1.out); have X6 := hid (X5.out.new HTT.out hb6); have P6 := hid (P5.out.new_ hb6); have R6 := hid (show Rd w6 w6.heap.size P1 (ubs bl) ∧ Rd w6 w6.heap.size P2 (ubs br) from ⟨rd11_on R5.out.1 hb6, rd11_on R5.out.2 hb6⟩); have I6 := hid hnI; have C6 := hid hcI; clear hcI hnI hb6 qc qd))
            clear HIX X5 P5 R5
            go_upto_region 18 with (first
              | (go_at_call 28; refine (HLV.out w6 S1 X6.out _ cI I6.out).mono ?_; rintro r7 w7 ⟨AL, cl, rfl, hr7, hb7⟩; have W7 := hid (show SbW Pt w S1 b1 k L Bx I G J (some ⟨gI, oI, none⟩) (List.range' f m1) AL P1 P2 lv bl br w7 from ⟨X6.out.new HTT.out hb7, P6.out.new_ hb7, I6.out.new hb7, hr7, rd11_on R6.out.1 hb7, rd11_on R6.out.2 hb7⟩); clear hr7 hb7))
            clear HLV X6 P6 R6 I6
            go_upto_region 19 with (first
              | (go_at_call 29; refine (HCT.out w7 _ cI W7.out.i C6.out).mono ?_; rintro r8 w8 ⟨rfl, hb8⟩; have W8 := hid (W7.out.new HTT.out hb8); clear hb8))
            clear HCT W7 C6
            try simp only [Act.put, List.setIfInBounds_toArray, List.set_cons_succ, List.set_cons_zero]
            refine wp_region_facts 44 44 [83, 84, 85, 86, 87, 88, 89, 90, 91, 92, 93, 94, 95, 96, 97, 98, 99, 100, 101, 102, 103, 104, 105, 106, 107, 108, 109, 110, 111, 112, 113, 114, 115, 116, 117, 118, 119, 120, 121, 122, 123, 124, 125, 6] (fun j z _ => z = sbF11 b1 k f m1 Bx gI oI cI cnt G P1 P2 AL nl nr d1 d2 cl J rt j) (SbW Pt w S1 b1 k L Bx I G J (some ⟨gI, oI, none⟩) (List.range' f m1) AL P1 P2 lv bl br) (by kernel_rfl) (by kernel_rfl)
              (fun V V' h hb => h.new HTT.out hb) (fun _ _ _ _ h _ => h) (W8.out.new HTT.out (Below.refl _ _).drew) ?_ ?_
            · intro i hi vals W K hB hn hK
              simp only [frm_cons, frm_nil, List.set_cons_succ, List.set_cons_zero, Nat.reduceAdd] at hK ⊢
              rcases (by omega : i = 0 ∨ i = 1 ∨ i = 2 ∨ i = 3 ∨ i = 4 ∨ i = 5 ∨ i = 6 ∨ i = 7 ∨ i = 8 ∨ i = 9 ∨ i = 10 ∨ i = 11 ∨ i = 12 ∨ i = 13 ∨ i = 14 ∨ i = 15 ∨ i = 16 ∨ i = 17 ∨ i = 18 ∨ i = 19 ∨ i = 20 ∨ i = 21 ∨ i = 22 ∨ i = 23 ∨ i = 24 ∨ i = 25 ∨ i = 26 ∨ i = 27 ∨ i = 28 ∨ i = 29 ∨ i = 30 ∨ i = 31 ∨ i = 32 ∨ i = 33 ∨ i = 34 ∨ i = 35 ∨ i = 36 ∨ i = 37 ∨ i = 38 ∨ i = 39 ∨ i = 40 ∨ i = 41 ∨ i = 42 ∨ i = 43) with rfl | rfl | rfl | rfl | rfl | rfl | rfl | rfl | rfl | rfl | rfl | rfl | rfl | rfl | rfl | rfl | rfl | rfl | rfl | rfl | rfl | rfl | rfl | rfl | rfl | rfl | rfl | rfl | rfl | rfl | rfl | rfl | rfl | rfl | rfl | rfl | rfl | rfl | rfl | rfl | rfl | rfl | rfl | rfl
              · refine wpOp_plain rfl rfl (wp_val (w' := W) (v := .nilIface) (by go_simp) ?_)
                exact hK _ _ rfl (Below.refl _ _)
              · have h0 := hn 0 (by decide +kernel)
                simp only [sbF11] at h0
                simp only [h0] at hK ⊢
                refine wpOp_plain rfl rfl (wp_val (w' := W) (v := .bool true) (by go_simp) ?_)
                exact hK _ _ rfl (Below.refl _ _)
              · have h1 := hn 1 (by decide +kernel)
                simp only [sbF11] at h1
                simp only [h1] at hK ⊢
                refine wpOp_plain rfl rfl (wp_val (w' := W) (v := .bool true) (by go_simp) ?_)
                exact hK _ _ rfl (Below.refl _ _)
              · have h2 := hn 2 (by decide +kernel)
                simp only [sbF11] at h2
                simp only [h2] at hK ⊢
                refine wpOp_on rfl (by rfl) (wp_val (w' := W) (v := .nilIface) (by go_simp) ?_)
                exact hK _ _ rfl (Below.refl _ _)
              · have h3 := hn 3 (by decide +kernel)
                have h2 := hn 2 (by decide +kernel)
                simp only [sbF11] at h3 h2
                simp only [h3, h2] at hK ⊢
                refine wpOp_on rfl (by rfl) (wp_val (w' := W) (v := .bool true) (by go_simp) ?_)
                exact hK _ _ rfl (Below.refl _ _)
              · have h2 := hn 2 (by decide +kernel)
                have h4 := hn 4 (by decide +kernel)
                simp only [sbF11] at h2 h4
                simp only [h2, h4] at hK ⊢
                refine wpOp_plain rfl rfl (wp_val (w' := W) (v := .bool true) (by go_simp) ?_)
                exact hK _ _ rfl (Below.refl _ _)
              · have h5 := hn 5 (by decide +kernel)
                simp only [sbF11] at h5
                simp only [h5] at hK ⊢
                refine wpOp_plain rfl rfl (wp_val (w' := W) (v := .bool true) (by go_simp) ?_)
                exact hK _ _ rfl (Below.refl _ _)
              · have h6 := hn 6 (by decide +kernel)
                simp only [sbF11] at h6
                simp only [h6] at hK ⊢
                refine wpOp_on rfl (by rfl) (wp_val (w' := W) (v := .slice (some ⟨gI, oI, none⟩) m1 cI) (by go_simp) ?_)
                exact hK _ _ rfl (Below.refl _ _)
              · have h7 := hn 7 (by decide +kernel)
                have h6 := hn 6 (by decide +kernel)
                simp only [sbF11] at h7 h6
                simp only [h7, h6] at hK ⊢
                refine wpOp_on rfl (by rfl) (wp_val (w' := W) (v := .int .i64 (m1 : Int)) (by go_simp) ?_)
                exact hK _ _ rfl (Below.refl _ _)
              · have h6 := hn 6 (by decide +kernel)
                simp only [sbF11] at h6
                simp only [h6] at hK ⊢
                refine wpOp_on rfl (by rfl) (wp_val (w' := W) (v := .pointer (some ⟨Bx, 1, none⟩)) (by go_simp) ?_)
                exact hK _ _ rfl (Below.refl _ _)
              · have h9 := hn 9 (by decide +kernel)
                have h6 := hn 6 (by decide +kernel)
                simp only [sbF11] at h9 h6
                simp only [h9, h6] at hK ⊢
                refine wpOp_on rfl (by rfl) (wp_val (w' := W) (v := .int .i64 (m1 : Int)) (by have c := hB.t.x.cell 1; rw [HIE.out] at c; simp at c; go_simp) ?_)
                exact hK _ _ rfl (Below.refl _ _)
              · have h8 := hn 8 (by decide +kernel)
                have h10 := hn 10 (by decide +kernel)
                have h6 := hn 6 (by decide +kernel)
                simp only [sbF11] at h8 h10 h6
                simp only [h8, h10, h6] at hK ⊢
                refine wpOp_on rfl (by rfl) (wp_val (w' := W) (v := .bool true) (by go_simp) ?_)
                exact hK _ _ rfl (Below.refl _ _)
              · have h6 := hn 6 (by decide +kernel)
                have h11 := hn 11 (by decide +kernel)
                simp only [sbF11] at h6 h11
                simp only [h6, h11] at hK ⊢
                refine wpOp_plain rfl rfl (wp_val (w' := W) (v := .bool true) (by go_simp) ?_)
                exact hK _ _ rfl (Below.refl _ _)
              · have h12 := hn 12 (by decide +kernel)
                simp only [sbF11] at h12
                simp only [h12] at hK ⊢
                refine wpOp_plain rfl rfl (wp_val (w' := W) (v := .bool true) (by go_simp) ?_)
                exact hK _ _ rfl (Below.refl _ _)
              · have h13 := hn 13 (by decide +kernel)
                simp only [sbF11] at h13
                simp only [h13] at hK ⊢
                refine wpOp_on rfl (by rfl) (wp_val (w' := W) (v := .slice (some ⟨gI, oI, none⟩) m1 cI) (by go_simp) ?_)
                exact hK _ _ rfl (Below.refl _ _)
              · have h14 := hn 14 (by decide +kernel)
                have h13 := hn 13 (by decide +kernel)
                simp only [sbF11] at h14 h13
                simp only [h14, h13] at hK ⊢
                refine wpOp_on rfl (by rfl) (wp_val (w' := W) (v := .pointer (some ⟨gI, oI, none⟩)) (by go_simp) ?_)
                exact hK _ _ rfl (Below.refl _ _)
              · have h15 := hn 15 (by decide +kernel)
                have h13 := hn 13 (by decide +kernel)
                simp only [sbF11] at h15 h13
                simp only [h15, h13] at hK ⊢
                refine wpOp_on rfl (by rfl) (wp_val (w' := W) (v := .int .u64 (f : Int)) (by have c := nu_first hB.i HM1.out; go_simp) ?_)
                exact hK _ _ rfl (Below.refl _ _)
              · have h13 := hn 13 (by decide +kernel)
                simp only [sbF11] at h13
                simp only [h13] at hK ⊢
                refine wpOp_on rfl (by rfl) (wp_val (w' := W) (v := .pointer (some ⟨Bx, 0, none⟩)) (by go_simp) ?_)
                exact hK _ _ rfl (Below.refl _ _)
              · have h17 := hn 17 (by decide +kernel)
                have h13 := hn 13 (by decide +kernel)
                simp only [sbF11] at h17 h13
                simp only [h17, h13] at hK ⊢
                refine wpOp_on rfl (by rfl) (wp_val (w' := W) (v := .int .u64 (f : Int)) (by have c := hB.t.x.cell 0; rw [HIE.out] at c; simp at c; go_simp) ?_)
                exact hK _ _ rfl (Below.refl _ _)
              · have h16 := hn 16 (by decide +kernel)
                have h18 := hn 18 (by decide +kernel)
                have h13 := hn 13 (by decide +kernel)
                simp only [sbF11] at h16 h18 h13
                simp only [h16, h18, h13] at hK ⊢
                refine wpOp_on rfl (by rfl) (wp_val (w' := W) (v := .bool true) (by go_simp) ?_)
                exact hK _ _ rfl (Below.refl _ _)
              · have h13 := hn 13 (by decide +kernel)
                have h19 := hn 19 (by decide +kernel)
                simp only [sbF11] at h13 h19
                simp only [h13, h19] at hK ⊢
                refine wpOp_plain rfl rfl (wp_val (w' := W) (v := .bool true) (by go_simp) ?_)
                exact hK _ _ rfl (Below.refl _ _)
              · have h20 := hn 20 (by decide +kernel)
                simp only [sbF11] at h20
                simp only [h20] at hK ⊢
                refine wpOp_plain rfl rfl (wp_val (w' := W) (v := .bool true) (by go_simp) ?_)
                exact hK _ _ rfl (Below.refl _ _)
              · have h21 := hn 21 (by decide +kernel)
                simp only [sbF11] at h21
                simp only [h21] at hK ⊢
                refine wpOp_on rfl (by rfl) (wp_val (w' := W) (v := .int .i64 (cnt : Int)) (by go_simp) ?_)
                exact hK _ _ rfl (Below.refl _ _)
              · have h21 := hn 21 (by decide +kernel)
                simp only [sbF11] at h21
                simp only [h21] at hK ⊢
                refine wpOp_on rfl (by rfl) (wp_val (w' := W) (v := .pointer (some ⟨G, 0, none⟩)) (by go_simp) ?_)
                exact hK _ _ rfl (Below.refl _ _)
              · have h23 := hn 23 (by decide +kernel)
                have h21 := hn 21 (by decide +kernel)
                simp only [sbF11] at h23 h21
                simp only [h23, h21] at hK ⊢
                refine wpOp_on rfl (by rfl) (wp_val (w' := W) (v := .slice P1 nl d1) (by have c := hB.p.cell 0; rw [HJJ.out] at c; simp at c; go_simp) ?_)
                exact hK _ _ rfl (Below.refl _ _)
              · have h24 := hn 24 (by decide +kernel)
                have h21 := hn 21 (by decide +kernel)
                simp only [sbF11] at h24 h21
                simp only [h24, h21] at hK ⊢
                refine wpOp_on rfl (by rfl) (wp_val (w' := W) (v := .int .i64 (nl : Int)) (by go_simp) ?_)
                exact hK _ _ rfl (Below.refl _ _)
              · have h21 := hn 21 (by decide +kernel)
                simp only [sbF11] at h21
                simp only [h21] at hK ⊢
                refine wpOp_on rfl (by rfl) (wp_val (w' := W) (v := .pointer (some ⟨G, 1, none⟩)) (by go_simp) ?_)
                exact hK _ _ rfl (Below.refl _ _)
              · have h26 := hn 26 (by decide +kernel)
                have h21 := hn 21 (by decide +kernel)
                simp only [sbF11] at h26 h21
                simp only [h26, h21] at hK ⊢
                refine wpOp_on rfl (by rfl) (wp_val (w' := W) (v := .slice P2 nr d2) (by have c := hB.p.cell 1; rw [HJJ.out] at c; simp at c; go_simp) ?_)
                exact hK _ _ rfl (Below.refl _ _)
              · have h27 := hn 27 (by decide +kernel)
                have h21 := hn 21 (by decide +kernel)
                simp only [sbF11] at h27 h21
                simp only [h27, h21] at hK ⊢
                refine wpOp_on rfl (by rfl) (wp_val (w' := W) (v := .int .i64 (nr : Int)) (by go_simp) ?_)
                exact hK _ _ rfl (Below.refl _ _)
              · have h25 := hn 25 (by decide +kernel)
                have h28 := hn 28 (by decide +kernel)
                have h21 := hn 21 (by decide +kernel)
                simp only [sbF11] at h25 h28 h21
                simp only [h25, h28, h21] at hK ⊢
                refine wpOp_on rfl (by rfl) (wp_val (w' := W) (v := .int .i64 (cnt : Int)) (by go_simp) ?_)
                exact hK _ _ rfl (Below.refl _ _)
              · have h22 := hn 22 (by decide +kernel)
                have h29 := hn 29 (by decide +kernel)
                have h21 := hn 21 (by decide +kernel)
                simp only [sbF11] at h22 h29 h21
                simp only [h22, h29, h21] at hK ⊢
                refine wpOp_on rfl (by rfl) (wp_val (w' := W) (v := .bool true) (by go_simp) ?_)
                exact hK _ _ rfl (Below.refl _ _)
              · have h21 := hn 21 (by decide +kernel)
                have h30 := hn 30 (by decide +kernel)
                simp only [sbF11] at h21 h30
                simp only [h21, h30] at hK ⊢
                refine wpOp_plain rfl rfl (wp_val (w' := W) (v := .bool true) (by go_simp) ?_)
                exact hK _ _ rfl (Below.refl _ _)
              · have h31 := hn 31 (by decide +kernel)
                simp only [sbF11] at h31
                simp only [h31] at hK ⊢
                refine wpOp_plain rfl rfl (wp_val (w' := W) (v := .bool true) (by go_simp) ?_)
                exact hK _ _ rfl (Below.refl _ _)
              · have h32 := hn 32 (by decide +kernel)
                simp only [sbF11] at h32
                simp only [h32] at hK ⊢
                refine wpOp_on rfl (by rfl) (wp_val (w' := W) (v := .pointer (some ⟨b1, 0, none⟩)) (by go_simp) ?_)
                exact hK _ _ rfl (Below.refl _ _)
              · have h33 := hn 33 (by decide +kernel)
                have h32 := hn 32 (by decide +kernel)
                simp only [sbF11] at h33 h32
                simp only [h33, h32] at hK ⊢
                refine wpOp_on rfl (by rfl) ?_
                go_simp
                go_at_call 23
                refine (HTR.out W S1 hB.t).mono ?_
                rintro e W' ⟨rfl, hb⟩
                exact hK _ _ rfl hb
              · have h32 := hn 32 (by decide +kernel)
                simp only [sbF11] at h32
                simp only [h32] at hK ⊢
                refine wpOp_on rfl (by rfl) (wp_val (w' := W) (v := .int .i64 (k : Int)) (by go_simp) ?_)
                exact hK _ _ rfl (Below.refl _ _)
              · have h32 := hn 32 (by decide +kernel)
                simp only [sbF11] at h32
                simp only [h32] at hK ⊢
                refine wpOp_on rfl (by rfl) (wp_val (w' := W) (v := .pointer (some ⟨Bx, 0, none⟩)) (by go_simp) ?_)
                exact hK _ _ rfl (Below.refl _ _)
              · have h36 := hn 36 (by decide +kernel)
                have h32 := hn 32 (by decide +kernel)
                simp only [sbF11] at h36 h32
                simp only [h36, h32] at hK ⊢
                refine wpOp_on rfl (by rfl) (wp_val (w' := W) (v := .int .u64 (f : Int)) (by have c := hB.t.x.cell 0; rw [HIE.out] at c; simp at c; go_simp) ?_)
                exact hK _ _ rfl (Below.refl _ _)
              · have h32 := hn 32 (by decide +kernel)
                simp only [sbF11] at h32
                simp only [h32] at hK ⊢
                refine wpOp_on rfl (by rfl) (wp_val (w' := W) (v := .slice AL m1 cl) (by go_simp) ?_)
                exact hK _ _ rfl (Below.refl _ _)
              · have h32 := hn 32 (by decide +kernel)
                simp only [sbF11] at h32
                simp only [h32] at hK ⊢
                refine wpOp_on rfl (by rfl) (wp_val (run_load_row 74 (.tmp 11) rfl G rfl 74 J _ hB.p Tryd.underlying74 rfl HJS.out) ?_)
                exact hK _ _ rfl (Below.refl _ _)
              · have h34 := hn 34 (by decide +kernel)
                have h35 := hn 35 (by decide +kernel)
                have h37 := hn 37 (by decide +kernel)
                have h38 := hn 38 (by decide +kernel)
                have h39 := hn 39 (by decide +kernel)
                have h32 := hn 32 (by decide +kernel)
                simp only [sbF11] at h34 h35 h37 h38 h39 h32
                simp only [h34, h35, h37, h38, h39, h32] at hK ⊢
                refine wpOp_on rfl (by rfl) ?_
                go_simp
                go_at_call 49
                refine ((by have := HCK.out W hB.t.below AL P1 P2 cl d1 d2 D4.out.1 D4.out.2 hB.lv hB.l hB.r; rw [← HJJ.out] at this; exact this : Calls _ _ _ _ (fun r W' => r = .returned .nilIface ∧ Below W.heap.size W W'))).mono ?_
                rintro e W' ⟨rfl, hb⟩
                exact hK _ _ rfl hb
              · have h40 := hn 40 (by decide +kernel)
                have h32 := hn 32 (by decide +kernel)
                simp only [sbF11] at h40 h32
                simp only [h40, h32] at hK ⊢
                refine wpOp_on rfl (by rfl) (wp_val (w' := W) (v := .bool true) (by go_simp) ?_)
                exact hK _ _ rfl (Below.refl _ _)
              · have h32 := hn 32 (by decide +kernel)
                have h41 := hn 41 (by decide +kernel)
                simp only [sbF11] at h32 h41
                simp only [h32, h41] at hK ⊢
                refine wpOp_plain rfl rfl (wp_val (w' := W) (v := .bool true) (by go_simp) ?_)
                exact hK _ _ rfl (Below.refl _ _)
              · have h42 := hn 42 (by decide +kernel)
                simp only [sbF11] at h42
                simp only [h42] at hK ⊢
                refine wpOp_plain rfl rfl (wp_val (w' := W) (v := .bool true) (by go_simp) ?_)
                exact hK _ _ rfl (Below.refl _ _)
            · intro vals W hB hF
              have h43 := hF 43 (by omega)
              simp only [sbF11] at h43
              simp only [frm_cons, frm_nil, List.set_cons_succ, List.set_cons_zero, Nat.reduceAdd, h43]
              refine wpUpto_done (by decide +kernel) ?_ _
              have NX := hid hB.t.below
              clear hB hF h43
              go_simp
              go_wp2
              go_ret
              exact ⟨rfl, NX.out⟩
          | false =>
            have HMK := hid (fun (V : World) (q : Below w.heap.size w V) (S : Nat → Prop) (p : Pt S V b1 k L) => show Calls Tryd.prog 40 #[.pointer (some ⟨b1, 0, none⟩), .int .u64 (f : Int), .int .i64 m] V (fun r W' => r = .returned (.tuple #[.agg JZ, .iface 42 (.int .i64 1)]) ∧ Below V.heap.size V W') from by
              rw [HJE.out]
              exact pmake11_no HTT.out q p f m HFF.out hg)
            obtain ⟨J, hJ⟩ : ∃ J, J = JZ := ⟨_, rfl⟩
            have HJS := hid (show (Tryd.prog.info? 74).map (·.size) = some J.size by rw [hJ]; exact HJS0.out)
            have HJ1 := hid (show J.all (·.oneCell') = true by rw [hJ]; exact HJ10.out)
            have HJZ := hid (show JZ.size = J.size by rw [hJ])
            rw [← hJ] at HMK
            clear hJ hg
            go_wp2_with (first
              | (refine Great.wpList_allocTo rfl _ rfl _ _ (HAP.out _ _ _ rfl) ?_)
              | (go_at_call 40; refine (HMK.out wr HX.out.below S1 HX.out.t).mono ?_; rintro r4 w4 ⟨rfl, hb4⟩; have X4 := hid (HX.out.new HTT.out hb4); clear hb4 qa qb)
              | (refine wpList_store_row rfl _ (.tmp 11) (.tmp 60) rfl w4.heap.size J rfl rfl 74 JZ (At.new _ _ _) HJS.out HJZ.out HJ1.out ?_; have hb5 : Below w4.heap.size w4 ((w4.alloc (.cells JZ 74)).setRow w4.heap.size J) := below_setRow ((Below.refl _ _).alloc (Nat.le_refl _) _) (Nat.le_refl _) _; have X5 := hid (X4.out.new HTT.out hb5); clear hb5; generalize ((w4.alloc (.cells JZ 74)).setRow w4.heap.size J) = w5 at X5 ⊢; generalize w4.heap.size = G at ⊢; have qc := X5.out.x.cell 0; have qd := X5.out.x.cell 1; rw [HIE.out] at qc qd; simp at qc qd)
              | (go_at_call 15; refine (HIS.out _).mono ?_; rintro ri wi ⟨rfl, hwi⟩; rw [← hwi]; clear hwi))
            go_ret
            exact ⟨rfl, X5.out.below⟩
end Go.Proofs.YtlmecjnlinalkaaDoor
