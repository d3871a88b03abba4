/-
  Layer 13, the document's side: Same.
-/
import Derived.Test.YtfmbpdjcoopaeaaDoorM6
import Derived.Test.YtfmbpdjcoopaeaaDoorSq
import Derived.Test.YtfmbpdjcoopaeaaDoorV3
import Derived.Test.YtfmbpdjcoopaeaaDoorY1
namespace Go.Proofs.YtfmbpdjcoopaeaaDoor
open Go.RowKit

/-- An operation whose run is known. -/
theorem oper_valW {P : Program} {o : Oper} {a : Go.Act} {w w' : World} {K : Go.Act → World → Prop} {Q : Exit → Go.Act → World → Prop} {v : Value} (hrun : (execOp a.eval o).run P w = .ok (.value v) w') (h : K (a.put o.dst v) w') : o.wp P a w K Q := by
  unfold Oper.wp
  rw [hrun]
  exact h
theorem run_neq16 {o : Oper} {a : Go.Act} (t2 : TypeId) (x y : Operand) (ho : o.op = .binOp .neq 30 x y t2) (u v : List UInt8) (hu : u.length = 16) (hv : v.length = 16) (hx : a.eval x = .agg (ubs u).toArray) (hy : a.eval y = .agg (ubs v).toArray) (r : Bool) (hr : (u == v) = !r) (w : World) :
    (execOp a.eval o).run Tryd.prog w = .ok (.value (.bool r)) w :=
  run_neq_op _ _ x y ho _ _ hx hy guard16 r w (by rw [run_neq_struct, run_eq_block w u v hu hv 9998, hr]; cases r <;> rfl)
theorem run_loadSvAt {o : Oper} {a : Go.Act} {W : World} (x : Operand) (ho : o.op = .load 44 x) (b off : Nat) (hx : a.eval x = .pointer (some ⟨b, off, none⟩)) (l : List Value) (hc : W.rangeAt b off l) (hl : l.length = 49) : (execOp a.eval o).run Tryd.prog W = .ok (.value (.agg l.toArray)) W :=
  run_load_part _ x ho b off hx l _ hc Tryd.underlying44 rfl (by rw [sizeSv, hl])
/-- An operation of a quiet walk whose run is known. -/
theorem quiet_runC {P : Program} {C : World → Prop} {a : Go.Act} {o : Oper} {K : Go.Act → Prop} {v : Value} (h : ∀ w, C w → (execOp a.eval o).run P w = .ok (.value v) w) (hk : K (a.put o.dst v)) : o.quiet P a C K :=
  ⟨v, fun w hw => by unfold Oper.quietAt; rw [h w hw]; exact ⟨rfl, rfl⟩, hk⟩
theorem sl_same (x : Sl13) : (x.1 == x.1 && x.2.1 == x.2.1 && x.2.2 == x.2.2) = !false := by simp
theorem sl_ne {x y : Sl13} (h : x ≠ y) : (x.1 == y.1 && x.2.1 == y.2.1 && x.2.2 == y.2.2) = !true := by
  obtain ⟨a, b, c⟩ := x
  obtain ⟨a', b', c'⟩ := y
  refine Bool.eq_false_iff.2 fun e => h ?_
  simp only [Bool.and_eq_true, beq_iff_eq] at e
  obtain ⟨⟨rfl, rfl⟩, rfl⟩ := e
  rfl
/-- Two tickets in memory. -/
structure SmW (w : World) (C D : List Value) (V : World) : Prop where
  bl : Below w.heap.size w V
  a : At V w.heap.size C.toArray 107
  b : At V (w.heap.size + 1) D.toArray 107
section
variable {w V V' : World} {C D : List Value}
theorem SmW.start : SmW w C D ((w.alloc (.cells C.toArray 107)).alloc (.cells D.toArray 107)) := ⟨((Below.refl _ _).alloc (Nat.le_refl _) _).alloc (by simp) _, (At.new _ _ _).alloc _, At.new_at (by simp)⟩
theorem SmW.new (k : SmW w C D V) (hb : Below V.heap.size V V') : SmW w C D V' := ⟨k.bl.trans (hb.mono k.bl.size), k.a.new_ hb, k.b.new_ hb⟩
theorem SmW.drewN (k : SmW w C D V) (n : Nat) : SmW w C D (V.drewN n) := ⟨below_drewN k.bl n, k.a, k.b⟩
end
set_option maxRecDepth 100000 in
set_option maxHeartbeats 4000000 in
theorem sameR_p (p : Nat) (e : Nat) (kd : Int) (b : Nat) (tg : List UInt8) (p' : Nat) (e' : Nat) (kd' : Int) (b' : Nat) (tg' : List UInt8) (l l' : List Nat) (s s' : List Sl13) (AI AS BI BS : Option Addr) (cI cS dI dS : Nat) (w : World) (ht : okT (⟨p, e, ⟨kd, l, s, b⟩, tg⟩ : Tk13)) (hu : okT (⟨p', e', ⟨kd', l', s', b'⟩, tg'⟩ : Tk13)) (hm : OrI w w.heap.size ⟨kd, l, s, b⟩ AI AS cI cS) (hn : OrI w w.heap.size ⟨kd', l', s', b'⟩ BI BS dI dS) (hl1 : l.length ≤ 1000000) (hl2 : s.length ≤ 1000000) (hq : p ≠ p') :
    Calls Tryd.prog 64 #[.agg (tkV ⟨p, e, ⟨kd, l, s, b⟩, tg⟩ AI AS cI cS).toArray, .agg (tkV ⟨p', e', ⟨kd', l', s', b'⟩, tg'⟩ BI BS dI dS).toArray] w fun r w' => r = .returned (.bool false) ∧ Below w.heap.size w w' := by
  obtain ⟨C, hC⟩ : ∃ C, C = tkV ⟨p, e, ⟨kd, l, s, b⟩, tg⟩ AI AS cI cS := ⟨_, rfl⟩
  obtain ⟨D, hD⟩ : ∃ D, D = tkV ⟨p', e', ⟨kd', l', s', b'⟩, tg'⟩ BI BS dI dS := ⟨_, rfl⟩
  have K0 := hid (SmW.start (w := w) (C := C) (D := D))
  obtain ⟨n, hnn⟩ : ∃ n, n = l.length := ⟨_, rfl⟩
  obtain ⟨n', hnn'⟩ : ∃ n, n = l'.length := ⟨_, rfl⟩
  obtain ⟨m, hmm⟩ : ∃ n, n = s.length := ⟨_, rfl⟩
  obtain ⟨m', hmm'⟩ : ∃ n, n = s'.length := ⟨_, rfl⟩
  have HTG := hid (show tg.length = 16 from ht.2.2.2)
  have HTG' := hid (show tg'.length = 16 from hu.2.2.2)
  have HOC := hid (fun (V : World) (x : SmW w C D V) => show ((V.cell? ⟨w.heap.size, 0, none⟩ = some (.int .u64 (p : Int)) ∧ V.cell? ⟨w.heap.size, 1, none⟩ = some (.int .u64 (e : Int))) ∧ V.cell? ⟨w.heap.size, 2, none⟩ = some (.int .i64 kd) ∧ V.cell? ⟨w.heap.size, 3, none⟩ = some (.slice AI n cI) ∧ V.cell? ⟨w.heap.size, 4, none⟩ = some (.slice AS m cS) ∧ V.cell? ⟨w.heap.size, 5, none⟩ = some (.int .u64 (b : Int))) ∧
      (V.cell? ⟨w.heap.size + 1, 0, none⟩ = some (.int .u64 (p' : Int)) ∧ V.cell? ⟨w.heap.size + 1, 1, none⟩ = some (.int .u64 (e' : Int))) ∧ V.cell? ⟨w.heap.size + 1, 2, none⟩ = some (.int .i64 kd') ∧ V.cell? ⟨w.heap.size + 1, 3, none⟩ = some (.slice BI n' dI) ∧ V.cell? ⟨w.heap.size + 1, 4, none⟩ = some (.slice BS m' dS) ∧ V.cell? ⟨w.heap.size + 1, 5, none⟩ = some (.int .u64 (b' : Int)) from by
    have h1 := x.a
    have h2 := x.b
    rw [hC] at h1
    rw [hD] at h2
    rw [hnn, hnn', hmm, hmm']
    exact ⟨tkV_cells h1, tkV_cells h2⟩)
  have HOT := hid (fun (V : World) (x : SmW w C D V) => show V.rangeAt w.heap.size 6 (ubs tg) ∧ V.rangeAt (w.heap.size + 1) 6 (ubs tg') from by
    have h1 := x.a
    have h2 := x.b
    rw [hC] at h1
    rw [hD] at h2
    exact ⟨tkV_tag h1, tkV_tag h2⟩)
  have HI := hid (fun (V : World) (x : Below w.heap.size w V) => show Nu V V.heap.size AI l ∧ Nu V V.heap.size BI l' from ⟨(hm.later x).i, (hn.later x).i⟩)
  have HS1 := hid (fun (V : World) (x : Below w.heap.size w V) => show Ss V V.heap.size AS s ∧ Ss V V.heap.size BS s' from ⟨(hm.later x).s, (hn.later x).s⟩)
  have HK := hid (show (∀ x ∈ s, okS x) ∧ ∀ x ∈ s', okS x from ⟨ht.2.2.1.2.1, hu.2.2.1.2.1⟩)
  have HN := hid (show n = l.length ∧ n ≤ 1000000 from ⟨hnn, by rw [hnn]; exact hl1⟩)
  have HM := hid (show m = s.length ∧ m ≤ 1000000 from ⟨hmm, by rw [hmm]; exact hl2⟩)
  have HN' := hid hnn'
  have HM' := hid hmm'
  rw [← hC, ← hD]
  obtain ⟨⟨⟨c0, c1⟩, c2, c3, c4, c5⟩, ⟨d0, d1⟩, d2, d3, d4, d5⟩ := HOC.out _ K0.out
  have f0 : ((p : Int) != (p' : Int)) = true := by simp; omega
  have f0b : ((p : Int) == (p' : Int)) = false := by simp; omega
  have f0c : decide ((p : Int) = (p' : Int)) = false := by simp; omega
  have f0n : (p != p') = true := by simp; omega
  have f0m : (p == p') = false := by simp; omega
  have f0d : decide (p = p') = false := by simp; omega
  clear hq
  clear hC hD ht hu hm hn hl1 hl2 hnn hnn' hmm hmm'
  go_enter Tryd.func64, Tryd.ntmps64
  go_wp2
  go_ret
  exact ⟨rfl, K0.out.bl⟩
set_option maxRecDepth 100000 in
set_option maxHeartbeats 4000000 in
theorem sameR_e (p : Nat) (e : Nat) (kd : Int) (b : Nat) (tg : List UInt8) (e' : Nat) (kd' : Int) (b' : Nat) (tg' : List UInt8) (l l' : List Nat) (s s' : List Sl13) (AI AS BI BS : Option Addr) (cI cS dI dS : Nat) (w : World) (ht : okT (⟨p, e, ⟨kd, l, s, b⟩, tg⟩ : Tk13)) (hu : okT (⟨p, e', ⟨kd', l', s', b'⟩, tg'⟩ : Tk13)) (hm : OrI w w.heap.size ⟨kd, l, s, b⟩ AI AS cI cS) (hn : OrI w w.heap.size ⟨kd', l', s', b'⟩ BI BS dI dS) (hl1 : l.length ≤ 1000000) (hl2 : s.length ≤ 1000000) (hq : e ≠ e') :
    Calls Tryd.prog 64 #[.agg (tkV ⟨p, e, ⟨kd, l, s, b⟩, tg⟩ AI AS cI cS).toArray, .agg (tkV ⟨p, e', ⟨kd', l', s', b'⟩, tg'⟩ BI BS dI dS).toArray] w fun r w' => r = .returned (.bool false) ∧ Below w.heap.size w w' := by
  obtain ⟨C, hC⟩ : ∃ C, C = tkV ⟨p, e, ⟨kd, l, s, b⟩, tg⟩ AI AS cI cS := ⟨_, rfl⟩
  obtain ⟨D, hD⟩ : ∃ D, D = tkV ⟨p, e', ⟨kd', l', s', b'⟩, tg'⟩ BI BS dI dS := ⟨_, rfl⟩
  have K0 := hid (SmW.start (w := w) (C := C) (D := D))
  obtain ⟨n, hnn⟩ : ∃ n, n = l.length := ⟨_, rfl⟩
  obtain ⟨n', hnn'⟩ : ∃ n, n = l'.length := ⟨_, rfl⟩
  obtain ⟨m, hmm⟩ : ∃ n, n = s.length := ⟨_, rfl⟩
  obtain ⟨m', hmm'⟩ : ∃ n, n = s'.length := ⟨_, rfl⟩
  have HTG := hid (show tg.length = 16 from ht.2.2.2)
  have HTG' := hid (show tg'.length = 16 from hu.2.2.2)
  have HOC := hid (fun (V : World) (x : SmW w C D V) => show ((V.cell? ⟨w.heap.size, 0, none⟩ = some (.int .u64 (p : Int)) ∧ V.cell? ⟨w.heap.size, 1, none⟩ = some (.int .u64 (e : Int))) ∧ V.cell? ⟨w.heap.size, 2, none⟩ = some (.int .i64 kd) ∧ V.cell? ⟨w.heap.size, 3, none⟩ = some (.slice AI n cI) ∧ V.cell? ⟨w.heap.size, 4, none⟩ = some (.slice AS m cS) ∧ V.cell? ⟨w.heap.size, 5, none⟩ = some (.int .u64 (b : Int))) ∧
      (V.cell? ⟨w.heap.size + 1, 0, none⟩ = some (.int .u64 (p : Int)) ∧ V.cell? ⟨w.heap.size + 1, 1, none⟩ = some (.int .u64 (e' : Int))) ∧ V.cell? ⟨w.heap.size + 1, 2, none⟩ = some (.int .i64 kd') ∧ V.cell? ⟨w.heap.size + 1, 3, none⟩ = some (.slice BI n' dI) ∧ V.cell? ⟨w.heap.size + 1, 4, none⟩ = some (.slice BS m' dS) ∧ V.cell? ⟨w.heap.size + 1, 5, none⟩ = some (.int .u64 (b' : Int)) from by
    have h1 := x.a
    have h2 := x.b
    rw [hC] at h1
    rw [hD] at h2
    rw [hnn, hnn', hmm, hmm']
    exact ⟨tkV_cells h1, tkV_cells h2⟩)
  have HOT := hid (fun (V : World) (x : SmW w C D V) => show V.rangeAt w.heap.size 6 (ubs tg) ∧ V.rangeAt (w.heap.size + 1) 6 (ubs tg') from by
    have h1 := x.a
    have h2 := x.b
    rw [hC] at h1
    rw [hD] at h2
    exact ⟨tkV_tag h1, tkV_tag h2⟩)
  have HI := hid (fun (V : World) (x : Below w.heap.size w V) => show Nu V V.heap.size AI l ∧ Nu V V.heap.size BI l' from ⟨(hm.later x).i, (hn.later x).i⟩)
  have HS1 := hid (fun (V : World) (x : Below w.heap.size w V) => show Ss V V.heap.size AS s ∧ Ss V V.heap.size BS s' from ⟨(hm.later x).s, (hn.later x).s⟩)
  have HK := hid (show (∀ x ∈ s, okS x) ∧ ∀ x ∈ s', okS x from ⟨ht.2.2.1.2.1, hu.2.2.1.2.1⟩)
  have HN := hid (show n = l.length ∧ n ≤ 1000000 from ⟨hnn, by rw [hnn]; exact hl1⟩)
  have HM := hid (show m = s.length ∧ m ≤ 1000000 from ⟨hmm, by rw [hmm]; exact hl2⟩)
  have HN' := hid hnn'
  have HM' := hid hmm'
  rw [← hC, ← hD]
  obtain ⟨⟨⟨c0, c1⟩, c2, c3, c4, c5⟩, ⟨d0, d1⟩, d2, d3, d4, d5⟩ := HOC.out _ K0.out
  have f0 : ((e : Int) != (e' : Int)) = true := by simp; omega
  have f0b : ((e : Int) == (e' : Int)) = false := by simp; omega
  have f0c : decide ((e : Int) = (e' : Int)) = false := by simp; omega
  have f0n : (e != e') = true := by simp; omega
  have f0m : (e == e') = false := by simp; omega
  have f0d : decide (e = e') = false := by simp; omega
  clear hq
  clear hC hD ht hu hm hn hl1 hl2 hnn hnn' hmm hmm'
  go_enter Tryd.func64, Tryd.ntmps64
  go_wp2
  go_ret
  exact ⟨rfl, K0.out.bl⟩
set_option maxRecDepth 100000 in
set_option maxHeartbeats 4000000 in
theorem sameR_tg (p : Nat) (e : Nat) (kd : Int) (b : Nat) (tg : List UInt8) (kd' : Int) (b' : Nat) (tg' : List UInt8) (l l' : List Nat) (s s' : List Sl13) (AI AS BI BS : Option Addr) (cI cS dI dS : Nat) (w : World) (ht : okT (⟨p, e, ⟨kd, l, s, b⟩, tg⟩ : Tk13)) (hu : okT (⟨p, e, ⟨kd', l', s', b'⟩, tg'⟩ : Tk13)) (hm : OrI w w.heap.size ⟨kd, l, s, b⟩ AI AS cI cS) (hn : OrI w w.heap.size ⟨kd', l', s', b'⟩ BI BS dI dS) (hl1 : l.length ≤ 1000000) (hl2 : s.length ≤ 1000000) (hq : tg ≠ tg') :
    Calls Tryd.prog 64 #[.agg (tkV ⟨p, e, ⟨kd, l, s, b⟩, tg⟩ AI AS cI cS).toArray, .agg (tkV ⟨p, e, ⟨kd', l', s', b'⟩, tg'⟩ BI BS dI dS).toArray] w fun r w' => r = .returned (.bool false) ∧ Below w.heap.size w w' := by
  obtain ⟨C, hC⟩ : ∃ C, C = tkV ⟨p, e, ⟨kd, l, s, b⟩, tg⟩ AI AS cI cS := ⟨_, rfl⟩
  obtain ⟨D, hD⟩ : ∃ D, D = tkV ⟨p, e, ⟨kd', l', s', b'⟩, tg'⟩ BI BS dI dS := ⟨_, rfl⟩
  have K0 := hid (SmW.start (w := w) (C := C) (D := D))
  obtain ⟨n, hnn⟩ : ∃ n, n = l.length := ⟨_, rfl⟩
  obtain ⟨n', hnn'⟩ : ∃ n, n = l'.length := ⟨_, rfl⟩
  obtain ⟨m, hmm⟩ : ∃ n, n = s.length := ⟨_, rfl⟩
  obtain ⟨m', hmm'⟩ : ∃ n, n = s'.length := ⟨_, rfl⟩
  have HTG := hid (show tg.length = 16 from ht.2.2.2)
  have HTG' := hid (show tg'.length = 16 from hu.2.2.2)
  have HOC := hid (fun (V : World) (x : SmW w C D V) => show ((V.cell? ⟨w.heap.size, 0, none⟩ = some (.int .u64 (p : Int)) ∧ V.cell? ⟨w.heap.size, 1, none⟩ = some (.int .u64 (e : Int))) ∧ V.cell? ⟨w.heap.size, 2, none⟩ = some (.int .i64 kd) ∧ V.cell? ⟨w.heap.size, 3, none⟩ = some (.slice AI n cI) ∧ V.cell? ⟨w.heap.size, 4, none⟩ = some (.slice AS m cS) ∧ V.cell? ⟨w.heap.size, 5, none⟩ = some (.int .u64 (b : Int))) ∧
      (V.cell? ⟨w.heap.size + 1, 0, none⟩ = some (.int .u64 (p : Int)) ∧ V.cell? ⟨w.heap.size + 1, 1, none⟩ = some (.int .u64 (e : Int))) ∧ V.cell? ⟨w.heap.size + 1, 2, none⟩ = some (.int .i64 kd') ∧ V.cell? ⟨w.heap.size + 1, 3, none⟩ = some (.slice BI n' dI) ∧ V.cell? ⟨w.heap.size + 1, 4, none⟩ = some (.slice BS m' dS) ∧ V.cell? ⟨w.heap.size + 1, 5, none⟩ = some (.int .u64 (b' : Int)) from by
    have h1 := x.a
    have h2 := x.b
    rw [hC] at h1
    rw [hD] at h2
    rw [hnn, hnn', hmm, hmm']
    exact ⟨tkV_cells h1, tkV_cells h2⟩)
  have HOT := hid (fun (V : World) (x : SmW w C D V) => show V.rangeAt w.heap.size 6 (ubs tg) ∧ V.rangeAt (w.heap.size + 1) 6 (ubs tg') from by
    have h1 := x.a
    have h2 := x.b
    rw [hC] at h1
    rw [hD] at h2
    exact ⟨tkV_tag h1, tkV_tag h2⟩)
  have HI := hid (fun (V : World) (x : Below w.heap.size w V) => show Nu V V.heap.size AI l ∧ Nu V V.heap.size BI l' from ⟨(hm.later x).i, (hn.later x).i⟩)
  have HS1 := hid (fun (V : World) (x : Below w.heap.size w V) => show Ss V V.heap.size AS s ∧ Ss V V.heap.size BS s' from ⟨(hm.later x).s, (hn.later x).s⟩)
  have HK := hid (show (∀ x ∈ s, okS x) ∧ ∀ x ∈ s', okS x from ⟨ht.2.2.1.2.1, hu.2.2.1.2.1⟩)
  have HN := hid (show n = l.length ∧ n ≤ 1000000 from ⟨hnn, by rw [hnn]; exact hl1⟩)
  have HM := hid (show m = s.length ∧ m ≤ 1000000 from ⟨hmm, by rw [hmm]; exact hl2⟩)
  have HN' := hid hnn'
  have HM' := hid hmm'
  rw [← hC, ← hD]
  obtain ⟨⟨⟨c0, c1⟩, c2, c3, c4, c5⟩, ⟨d0, d1⟩, d2, d3, d4, d5⟩ := HOC.out _ K0.out
  have HQT := hid (show (tg == tg') = !true by simpa using hq)
  clear hq
  clear hC hD ht hu hm hn hl1 hl2 hnn hnn' hmm hmm'
  go_enter Tryd.func64, Tryd.ntmps64
  go_wp2_with (first
    | (go_big_want; rename_i K hK; refine oper_valW (run_load16 (.tmp 20) rfl w.heap.size 6 rfl tg (HOT.out _ K0.out).1 HTG.out) (hK _ _ ?_); clear hK K; try simp only [Act.put, List.setIfInBounds_toArray, List.set_cons_succ, List.set_cons_zero])
    | (go_big_want; rename_i K hK; refine oper_valW (run_load16 (.tmp 22) rfl (w.heap.size + 1) 6 rfl tg' (HOT.out _ K0.out).2 HTG'.out) (hK _ _ ?_); clear hK K; try simp only [Act.put, List.setIfInBounds_toArray, List.set_cons_succ, List.set_cons_zero])
    | (go_big_want; rename_i K hK; refine oper_valW (run_neq16 _ (.tmp 21) (.tmp 23) rfl tg tg' HTG.out HTG'.out rfl rfl true HQT.out _) (hK _ _ ?_); clear hK K; try simp only [Act.put, List.setIfInBounds_toArray, List.set_cons_succ, List.set_cons_zero]))
  go_ret
  exact ⟨rfl, K0.out.bl⟩
set_option maxRecDepth 100000 in
set_option maxHeartbeats 4000000 in
theorem sameR_kd (p : Nat) (e : Nat) (kd : Int) (b : Nat) (tg : List UInt8) (kd' : Int) (b' : Nat) (l l' : List Nat) (s s' : List Sl13) (AI AS BI BS : Option Addr) (cI cS dI dS : Nat) (w : World) (ht : okT (⟨p, e, ⟨kd, l, s, b⟩, tg⟩ : Tk13)) (hu : okT (⟨p, e, ⟨kd', l', s', b'⟩, tg⟩ : Tk13)) (hm : OrI w w.heap.size ⟨kd, l, s, b⟩ AI AS cI cS) (hn : OrI w w.heap.size ⟨kd', l', s', b'⟩ BI BS dI dS) (hl1 : l.length ≤ 1000000) (hl2 : s.length ≤ 1000000) (hq : kd ≠ kd') :
    Calls Tryd.prog 64 #[.agg (tkV ⟨p, e, ⟨kd, l, s, b⟩, tg⟩ AI AS cI cS).toArray, .agg (tkV ⟨p, e, ⟨kd', l', s', b'⟩, tg⟩ BI BS dI dS).toArray] w fun r w' => r = .returned (.bool false) ∧ Below w.heap.size w w' := by
  obtain ⟨C, hC⟩ : ∃ C, C = tkV ⟨p, e, ⟨kd, l, s, b⟩, tg⟩ AI AS cI cS := ⟨_, rfl⟩
  obtain ⟨D, hD⟩ : ∃ D, D = tkV ⟨p, e, ⟨kd', l', s', b'⟩, tg⟩ BI BS dI dS := ⟨_, rfl⟩
  have K0 := hid (SmW.start (w := w) (C := C) (D := D))
  obtain ⟨n, hnn⟩ : ∃ n, n = l.length := ⟨_, rfl⟩
  obtain ⟨n', hnn'⟩ : ∃ n, n = l'.length := ⟨_, rfl⟩
  obtain ⟨m, hmm⟩ : ∃ n, n = s.length := ⟨_, rfl⟩
  obtain ⟨m', hmm'⟩ : ∃ n, n = s'.length := ⟨_, rfl⟩
  have HTG := hid (show tg.length = 16 from ht.2.2.2)
  have HTG' := hid (show tg.length = 16 from hu.2.2.2)
  have HOC := hid (fun (V : World) (x : SmW w C D V) => show ((V.cell? ⟨w.heap.size, 0, none⟩ = some (.int .u64 (p : Int)) ∧ V.cell? ⟨w.heap.size, 1, none⟩ = some (.int .u64 (e : Int))) ∧ V.cell? ⟨w.heap.size, 2, none⟩ = some (.int .i64 kd) ∧ V.cell? ⟨w.heap.size, 3, none⟩ = some (.slice AI n cI) ∧ V.cell? ⟨w.heap.size, 4, none⟩ = some (.slice AS m cS) ∧ V.cell? ⟨w.heap.size, 5, none⟩ = some (.int .u64 (b : Int))) ∧
      (V.cell? ⟨w.heap.size + 1, 0, none⟩ = some (.int .u64 (p : Int)) ∧ V.cell? ⟨w.heap.size + 1, 1, none⟩ = some (.int .u64 (e : Int))) ∧ V.cell? ⟨w.heap.size + 1, 2, none⟩ = some (.int .i64 kd') ∧ V.cell? ⟨w.heap.size + 1, 3, none⟩ = some (.slice BI n' dI) ∧ V.cell? ⟨w.heap.size + 1, 4, none⟩ = some (.slice BS m' dS) ∧ V.cell? ⟨w.heap.size + 1, 5, none⟩ = some (.int .u64 (b' : Int)) from by
    have h1 := x.a
    have h2 := x.b
    rw [hC] at h1
    rw [hD] at h2
    rw [hnn, hnn', hmm, hmm']
    exact ⟨tkV_cells h1, tkV_cells h2⟩)
  have HOT := hid (fun (V : World) (x : SmW w C D V) => show V.rangeAt w.heap.size 6 (ubs tg) ∧ V.rangeAt (w.heap.size + 1) 6 (ubs tg) from by
    have h1 := x.a
    have h2 := x.b
    rw [hC] at h1
    rw [hD] at h2
    exact ⟨tkV_tag h1, tkV_tag h2⟩)
  have HI := hid (fun (V : World) (x : Below w.heap.size w V) => show Nu V V.heap.size AI l ∧ Nu V V.heap.size BI l' from ⟨(hm.later x).i, (hn.later x).i⟩)
  have HS1 := hid (fun (V : World) (x : Below w.heap.size w V) => show Ss V V.heap.size AS s ∧ Ss V V.heap.size BS s' from ⟨(hm.later x).s, (hn.later x).s⟩)
  have HK := hid (show (∀ x ∈ s, okS x) ∧ ∀ x ∈ s', okS x from ⟨ht.2.2.1.2.1, hu.2.2.1.2.1⟩)
  have HN := hid (show n = l.length ∧ n ≤ 1000000 from ⟨hnn, by rw [hnn]; exact hl1⟩)
  have HM := hid (show m = s.length ∧ m ≤ 1000000 from ⟨hmm, by rw [hmm]; exact hl2⟩)
  have HN' := hid hnn'
  have HM' := hid hmm'
  rw [← hC, ← hD]
  obtain ⟨⟨⟨c0, c1⟩, c2, c3, c4, c5⟩, ⟨d0, d1⟩, d2, d3, d4, d5⟩ := HOC.out _ K0.out
  have f0 : ((kd : Int) != (kd' : Int)) = true := by simp; omega
  have f0b : ((kd : Int) == (kd' : Int)) = false := by simp; omega
  have f0c : decide ((kd : Int) = (kd' : Int)) = false := by simp; omega
  clear hq
  clear hC hD ht hu hm hn hl1 hl2 hnn hnn' hmm hmm'
  go_enter Tryd.func64, Tryd.ntmps64
  go_wp2_with (first
    | (go_big_want; rename_i K hK; refine oper_valW (run_load16 (.tmp 20) rfl w.heap.size 6 rfl tg (HOT.out _ K0.out).1 HTG.out) (hK _ _ ?_); clear hK K; try simp only [Act.put, List.setIfInBounds_toArray, List.set_cons_succ, List.set_cons_zero])
    | (go_big_want; rename_i K hK; refine oper_valW (run_load16 (.tmp 22) rfl (w.heap.size + 1) 6 rfl tg (HOT.out _ K0.out).2 HTG'.out) (hK _ _ ?_); clear hK K; try simp only [Act.put, List.setIfInBounds_toArray, List.set_cons_succ, List.set_cons_zero])
    | (go_big_want; rename_i K hK; refine oper_valW (run_neq16 _ (.tmp 21) (.tmp 23) rfl tg tg HTG.out HTG'.out rfl rfl false (by simp) _) (hK _ _ ?_); clear hK K; try simp only [Act.put, List.setIfInBounds_toArray, List.set_cons_succ, List.set_cons_zero]))
  go_ret
  exact ⟨rfl, K0.out.bl⟩
set_option maxRecDepth 100000 in
set_option maxHeartbeats 4000000 in
theorem sameR_b (p : Nat) (e : Nat) (kd : Int) (b : Nat) (tg : List UInt8) (b' : Nat) (l l' : List Nat) (s s' : List Sl13) (AI AS BI BS : Option Addr) (cI cS dI dS : Nat) (w : World) (ht : okT (⟨p, e, ⟨kd, l, s, b⟩, tg⟩ : Tk13)) (hu : okT (⟨p, e, ⟨kd, l', s', b'⟩, tg⟩ : Tk13)) (hm : OrI w w.heap.size ⟨kd, l, s, b⟩ AI AS cI cS) (hn : OrI w w.heap.size ⟨kd, l', s', b'⟩ BI BS dI dS) (hl1 : l.length ≤ 1000000) (hl2 : s.length ≤ 1000000) (hq : b ≠ b') :
    Calls Tryd.prog 64 #[.agg (tkV ⟨p, e, ⟨kd, l, s, b⟩, tg⟩ AI AS cI cS).toArray, .agg (tkV ⟨p, e, ⟨kd, l', s', b'⟩, tg⟩ BI BS dI dS).toArray] w fun r w' => r = .returned (.bool false) ∧ Below w.heap.size w w' := by
  obtain ⟨C, hC⟩ : ∃ C, C = tkV ⟨p, e, ⟨kd, l, s, b⟩, tg⟩ AI AS cI cS := ⟨_, rfl⟩
  obtain ⟨D, hD⟩ : ∃ D, D = tkV ⟨p, e, ⟨kd, l', s', b'⟩, tg⟩ BI BS dI dS := ⟨_, rfl⟩
  have K0 := hid (SmW.start (w := w) (C := C) (D := D))
  obtain ⟨n, hnn⟩ : ∃ n, n = l.length := ⟨_, rfl⟩
  obtain ⟨n', hnn'⟩ : ∃ n, n = l'.length := ⟨_, rfl⟩
  obtain ⟨m, hmm⟩ : ∃ n, n = s.length := ⟨_, rfl⟩
  obtain ⟨m', hmm'⟩ : ∃ n, n = s'.length := ⟨_, rfl⟩
  have HTG := hid (show tg.length = 16 from ht.2.2.2)
  have HTG' := hid (show tg.length = 16 from hu.2.2.2)
  have HOC := hid (fun (V : World) (x : SmW w C D V) => show ((V.cell? ⟨w.heap.size, 0, none⟩ = some (.int .u64 (p : Int)) ∧ V.cell? ⟨w.heap.size, 1, none⟩ = some (.int .u64 (e : Int))) ∧ V.cell? ⟨w.heap.size, 2, none⟩ = some (.int .i64 kd) ∧ V.cell? ⟨w.heap.size, 3, none⟩ = some (.slice AI n cI) ∧ V.cell? ⟨w.heap.size, 4, none⟩ = some (.slice AS m cS) ∧ V.cell? ⟨w.heap.size, 5, none⟩ = some (.int .u64 (b : Int))) ∧
      (V.cell? ⟨w.heap.size + 1, 0, none⟩ = some (.int .u64 (p : Int)) ∧ V.cell? ⟨w.heap.size + 1, 1, none⟩ = some (.int .u64 (e : Int))) ∧ V.cell? ⟨w.heap.size + 1, 2, none⟩ = some (.int .i64 kd) ∧ V.cell? ⟨w.heap.size + 1, 3, none⟩ = some (.slice BI n' dI) ∧ V.cell? ⟨w.heap.size + 1, 4, none⟩ = some (.slice BS m' dS) ∧ V.cell? ⟨w.heap.size + 1, 5, none⟩ = some (.int .u64 (b' : Int)) from by
    have h1 := x.a
    have h2 := x.b
    rw [hC] at h1
    rw [hD] at h2
    rw [hnn, hnn', hmm, hmm']
    exact ⟨tkV_cells h1, tkV_cells h2⟩)
  have HOT := hid (fun (V : World) (x : SmW w C D V) => show V.rangeAt w.heap.size 6 (ubs tg) ∧ V.rangeAt (w.heap.size + 1) 6 (ubs tg) from by
    have h1 := x.a
    have h2 := x.b
    rw [hC] at h1
    rw [hD] at h2
    exact ⟨tkV_tag h1, tkV_tag h2⟩)
  have HI := hid (fun (V : World) (x : Below w.heap.size w V) => show Nu V V.heap.size AI l ∧ Nu V V.heap.size BI l' from ⟨(hm.later x).i, (hn.later x).i⟩)
  have HS1 := hid (fun (V : World) (x : Below w.heap.size w V) => show Ss V V.heap.size AS s ∧ Ss V V.heap.size BS s' from ⟨(hm.later x).s, (hn.later x).s⟩)
  have HK := hid (show (∀ x ∈ s, okS x) ∧ ∀ x ∈ s', okS x from ⟨ht.2.2.1.2.1, hu.2.2.1.2.1⟩)
  have HN := hid (show n = l.length ∧ n ≤ 1000000 from ⟨hnn, by rw [hnn]; exact hl1⟩)
  have HM := hid (show m = s.length ∧ m ≤ 1000000 from ⟨hmm, by rw [hmm]; exact hl2⟩)
  have HN' := hid hnn'
  have HM' := hid hmm'
  rw [← hC, ← hD]
  obtain ⟨⟨⟨c0, c1⟩, c2, c3, c4, c5⟩, ⟨d0, d1⟩, d2, d3, d4, d5⟩ := HOC.out _ K0.out
  have f0 : ((b : Int) != (b' : Int)) = true := by simp; omega
  have f0b : ((b : Int) == (b' : Int)) = false := by simp; omega
  have f0c : decide ((b : Int) = (b' : Int)) = false := by simp; omega
  have f0n : (b != b') = true := by simp; omega
  have f0m : (b == b') = false := by simp; omega
  have f0d : decide (b = b') = false := by simp; omega
  clear hq
  clear hC hD ht hu hm hn hl1 hl2 hnn hnn' hmm hmm'
  go_enter Tryd.func64, Tryd.ntmps64
  go_wp2_with (first
    | (go_big_want; rename_i K hK; refine oper_valW (run_load16 (.tmp 20) rfl w.heap.size 6 rfl tg (HOT.out _ K0.out).1 HTG.out) (hK _ _ ?_); clear hK K; try simp only [Act.put, List.setIfInBounds_toArray, List.set_cons_succ, List.set_cons_zero])
    | (go_big_want; rename_i K hK; refine oper_valW (run_load16 (.tmp 22) rfl (w.heap.size + 1) 6 rfl tg (HOT.out _ K0.out).2 HTG'.out) (hK _ _ ?_); clear hK K; try simp only [Act.put, List.setIfInBounds_toArray, List.set_cons_succ, List.set_cons_zero])
    | (go_big_want; rename_i K hK; refine oper_valW (run_neq16 _ (.tmp 21) (.tmp 23) rfl tg tg HTG.out HTG'.out rfl rfl false (by simp) _) (hK _ _ ?_); clear hK K; try simp only [Act.put, List.setIfInBounds_toArray, List.set_cons_succ, List.set_cons_zero]))
  go_ret
  exact ⟨rfl, K0.out.bl⟩
set_option maxRecDepth 100000 in
set_option maxHeartbeats 4000000 in
theorem sameR_n (p : Nat) (e : Nat) (kd : Int) (b : Nat) (tg : List UInt8) (l l' : List Nat) (s s' : List Sl13) (AI AS BI BS : Option Addr) (cI cS dI dS : Nat) (w : World) (ht : okT (⟨p, e, ⟨kd, l, s, b⟩, tg⟩ : Tk13)) (hu : okT (⟨p, e, ⟨kd, l', s', b⟩, tg⟩ : Tk13)) (hm : OrI w w.heap.size ⟨kd, l, s, b⟩ AI AS cI cS) (hn : OrI w w.heap.size ⟨kd, l', s', b⟩ BI BS dI dS) (hl1 : l.length ≤ 1000000) (hl2 : s.length ≤ 1000000) (hq : l.length ≠ l'.length) :
    Calls Tryd.prog 64 #[.agg (tkV ⟨p, e, ⟨kd, l, s, b⟩, tg⟩ AI AS cI cS).toArray, .agg (tkV ⟨p, e, ⟨kd, l', s', b⟩, tg⟩ BI BS dI dS).toArray] w fun r w' => r = .returned (.bool false) ∧ Below w.heap.size w w' := by
  obtain ⟨C, hC⟩ : ∃ C, C = tkV ⟨p, e, ⟨kd, l, s, b⟩, tg⟩ AI AS cI cS := ⟨_, rfl⟩
  obtain ⟨D, hD⟩ : ∃ D, D = tkV ⟨p, e, ⟨kd, l', s', b⟩, tg⟩ BI BS dI dS := ⟨_, rfl⟩
  have K0 := hid (SmW.start (w := w) (C := C) (D := D))
  obtain ⟨n, hnn⟩ : ∃ n, n = l.length := ⟨_, rfl⟩
  obtain ⟨n', hnn'⟩ : ∃ n, n = l'.length := ⟨_, rfl⟩
  obtain ⟨m, hmm⟩ : ∃ n, n = s.length := ⟨_, rfl⟩
  obtain ⟨m', hmm'⟩ : ∃ n, n = s'.length := ⟨_, rfl⟩
  have HTG := hid (show tg.length = 16 from ht.2.2.2)
  have HTG' := hid (show tg.length = 16 from hu.2.2.2)
  have HOC := hid (fun (V : World) (x : SmW w C D V) => show ((V.cell? ⟨w.heap.size, 0, none⟩ = some (.int .u64 (p : Int)) ∧ V.cell? ⟨w.heap.size, 1, none⟩ = some (.int .u64 (e : Int))) ∧ V.cell? ⟨w.heap.size, 2, none⟩ = some (.int .i64 kd) ∧ V.cell? ⟨w.heap.size, 3, none⟩ = some (.slice AI n cI) ∧ V.cell? ⟨w.heap.size, 4, none⟩ = some (.slice AS m cS) ∧ V.cell? ⟨w.heap.size, 5, none⟩ = some (.int .u64 (b : Int))) ∧
      (V.cell? ⟨w.heap.size + 1, 0, none⟩ = some (.int .u64 (p : Int)) ∧ V.cell? ⟨w.heap.size + 1, 1, none⟩ = some (.int .u64 (e : Int))) ∧ V.cell? ⟨w.heap.size + 1, 2, none⟩ = some (.int .i64 kd) ∧ V.cell? ⟨w.heap.size + 1, 3, none⟩ = some (.slice BI n' dI) ∧ V.cell? ⟨w.heap.size + 1, 4, none⟩ = some (.slice BS m' dS) ∧ V.cell? ⟨w.heap.size + 1, 5, none⟩ = some (.int .u64 (b : Int)) from by
    have h1 := x.a
    have h2 := x.b
    rw [hC] at h1
    rw [hD] at h2
    rw [hnn, hnn', hmm, hmm']
    exact ⟨tkV_cells h1, tkV_cells h2⟩)
  have HOT := hid (fun (V : World) (x : SmW w C D V) => show V.rangeAt w.heap.size 6 (ubs tg) ∧ V.rangeAt (w.heap.size + 1) 6 (ubs tg) from by
    have h1 := x.a
    have h2 := x.b
    rw [hC] at h1
    rw [hD] at h2
    exact ⟨tkV_tag h1, tkV_tag h2⟩)
  have HI := hid (fun (V : World) (x : Below w.heap.size w V) => show Nu V V.heap.size AI l ∧ Nu V V.heap.size BI l' from ⟨(hm.later x).i, (hn.later x).i⟩)
  have HS1 := hid (fun (V : World) (x : Below w.heap.size w V) => show Ss V V.heap.size AS s ∧ Ss V V.heap.size BS s' from ⟨(hm.later x).s, (hn.later x).s⟩)
  have HK := hid (show (∀ x ∈ s, okS x) ∧ ∀ x ∈ s', okS x from ⟨ht.2.2.1.2.1, hu.2.2.1.2.1⟩)
  have HN := hid (show n = l.length ∧ n ≤ 1000000 from ⟨hnn, by rw [hnn]; exact hl1⟩)
  have HM := hid (show m = s.length ∧ m ≤ 1000000 from ⟨hmm, by rw [hmm]; exact hl2⟩)
  have HN' := hid hnn'
  have HM' := hid hmm'
  rw [← hC, ← hD]
  obtain ⟨⟨⟨c0, c1⟩, c2, c3, c4, c5⟩, ⟨d0, d1⟩, d2, d3, d4, d5⟩ := HOC.out _ K0.out
  rw [← hnn, ← hnn'] at hq
  have f0 : ((n : Int) != (n' : Int)) = true := by simp; omega
  have f0b : ((n : Int) == (n' : Int)) = false := by simp; omega
  have f0c : decide ((n : Int) = (n' : Int)) = false := by simp; omega
  have f0n : (n != n') = true := by simp; omega
  have f0m : (n == n') = false := by simp; omega
  have f0d : decide (n = n') = false := by simp; omega
  clear hq
  clear hC hD ht hu hm hn hl1 hl2 hnn hnn' hmm hmm'
  go_enter Tryd.func64, Tryd.ntmps64
  go_wp2_with (first
    | (go_big_want; rename_i K hK; refine oper_valW (run_load16 (.tmp 20) rfl w.heap.size 6 rfl tg (HOT.out _ K0.out).1 HTG.out) (hK _ _ ?_); clear hK K; try simp only [Act.put, List.setIfInBounds_toArray, List.set_cons_succ, List.set_cons_zero])
    | (go_big_want; rename_i K hK; refine oper_valW (run_load16 (.tmp 22) rfl (w.heap.size + 1) 6 rfl tg (HOT.out _ K0.out).2 HTG'.out) (hK _ _ ?_); clear hK K; try simp only [Act.put, List.setIfInBounds_toArray, List.set_cons_succ, List.set_cons_zero])
    | (go_big_want; rename_i K hK; refine oper_valW (run_neq16 _ (.tmp 21) (.tmp 23) rfl tg tg HTG.out HTG'.out rfl rfl false (by simp) _) (hK _ _ ?_); clear hK K; try simp only [Act.put, List.setIfInBounds_toArray, List.set_cons_succ, List.set_cons_zero]))
  go_ret
  exact ⟨rfl, K0.out.bl⟩
set_option maxRecDepth 100000 in
set_option maxHeartbeats 4000000 in
theorem sameR_m (p : Nat) (e : Nat) (kd : Int) (b : Nat) (tg : List UInt8) (l l' : List Nat) (s s' : List Sl13) (AI AS BI BS : Option Addr) (cI cS dI dS : Nat) (w : World) (ht : okT (⟨p, e, ⟨kd, l, s, b⟩, tg⟩ : Tk13)) (hu : okT (⟨p, e, ⟨kd, l', s', b⟩, tg⟩ : Tk13)) (hm : OrI w w.heap.size ⟨kd, l, s, b⟩ AI AS cI cS) (hn : OrI w w.heap.size ⟨kd, l', s', b⟩ BI BS dI dS) (hl1 : l.length ≤ 1000000) (hl2 : s.length ≤ 1000000) (hz : l.length = l'.length) (hq : s.length ≠ s'.length) :
    Calls Tryd.prog 64 #[.agg (tkV ⟨p, e, ⟨kd, l, s, b⟩, tg⟩ AI AS cI cS).toArray, .agg (tkV ⟨p, e, ⟨kd, l', s', b⟩, tg⟩ BI BS dI dS).toArray] w fun r w' => r = .returned (.bool false) ∧ Below w.heap.size w w' := by
  obtain ⟨C, hC⟩ : ∃ C, C = tkV ⟨p, e, ⟨kd, l, s, b⟩, tg⟩ AI AS cI cS := ⟨_, rfl⟩
  obtain ⟨D, hD⟩ : ∃ D, D = tkV ⟨p, e, ⟨kd, l', s', b⟩, tg⟩ BI BS dI dS := ⟨_, rfl⟩
  have K0 := hid (SmW.start (w := w) (C := C) (D := D))
  obtain ⟨n, hnn⟩ : ∃ n, n = l.length := ⟨_, rfl⟩
  obtain ⟨n', hnn'⟩ : ∃ n, n = l'.length := ⟨_, rfl⟩
  obtain ⟨m, hmm⟩ : ∃ n, n = s.length := ⟨_, rfl⟩
  obtain ⟨m', hmm'⟩ : ∃ n, n = s'.length := ⟨_, rfl⟩
  have HTG := hid (show tg.length = 16 from ht.2.2.2)
  have HTG' := hid (show tg.length = 16 from hu.2.2.2)
  have HOC := hid (fun (V : World) (x : SmW w C D V) => show ((V.cell? ⟨w.heap.size, 0, none⟩ = some (.int .u64 (p : Int)) ∧ V.cell? ⟨w.heap.size, 1, none⟩ = some (.int .u64 (e : Int))) ∧ V.cell? ⟨w.heap.size, 2, none⟩ = some (.int .i64 kd) ∧ V.cell? ⟨w.heap.size, 3, none⟩ = some (.slice AI n cI) ∧ V.cell? ⟨w.heap.size, 4, none⟩ = some (.slice AS m cS) ∧ V.cell? ⟨w.heap.size, 5, none⟩ = some (.int .u64 (b : Int))) ∧
      (V.cell? ⟨w.heap.size + 1, 0, none⟩ = some (.int .u64 (p : Int)) ∧ V.cell? ⟨w.heap.size + 1, 1, none⟩ = some (.int .u64 (e : Int))) ∧ V.cell? ⟨w.heap.size + 1, 2, none⟩ = some (.int .i64 kd) ∧ V.cell? ⟨w.heap.size + 1, 3, none⟩ = some (.slice BI n' dI) ∧ V.cell? ⟨w.heap.size + 1, 4, none⟩ = some (.slice BS m' dS) ∧ V.cell? ⟨w.heap.size + 1, 5, none⟩ = some (.int .u64 (b : Int)) from by
    have h1 := x.a
    have h2 := x.b
    rw [hC] at h1
    rw [hD] at h2
    rw [hnn, hnn', hmm, hmm']
    exact ⟨tkV_cells h1, tkV_cells h2⟩)
  have HOT := hid (fun (V : World) (x : SmW w C D V) => show V.rangeAt w.heap.size 6 (ubs tg) ∧ V.rangeAt (w.heap.size + 1) 6 (ubs tg) from by
    have h1 := x.a
    have h2 := x.b
    rw [hC] at h1
    rw [hD] at h2
    exact ⟨tkV_tag h1, tkV_tag h2⟩)
  have HI := hid (fun (V : World) (x : Below w.heap.size w V) => show Nu V V.heap.size AI l ∧ Nu V V.heap.size BI l' from ⟨(hm.later x).i, (hn.later x).i⟩)
  have HS1 := hid (fun (V : World) (x : Below w.heap.size w V) => show Ss V V.heap.size AS s ∧ Ss V V.heap.size BS s' from ⟨(hm.later x).s, (hn.later x).s⟩)
  have HK := hid (show (∀ x ∈ s, okS x) ∧ ∀ x ∈ s', okS x from ⟨ht.2.2.1.2.1, hu.2.2.1.2.1⟩)
  have HN := hid (show n = l.length ∧ n ≤ 1000000 from ⟨hnn, by rw [hnn]; exact hl1⟩)
  have HM := hid (show m = s.length ∧ m ≤ 1000000 from ⟨hmm, by rw [hmm]; exact hl2⟩)
  have HN' := hid hnn'
  have HM' := hid hmm'
  rw [← hC, ← hD]
  obtain ⟨⟨⟨c0, c1⟩, c2, c3, c4, c5⟩, ⟨d0, d1⟩, d2, d3, d4, d5⟩ := HOC.out _ K0.out
  rw [← hmm, ← hmm'] at hq
  rw [← hnn, ← hnn'] at hz
  have f0 : ((m : Int) != (m' : Int)) = true := by simp; omega
  have f0b : ((m : Int) == (m' : Int)) = false := by simp; omega
  have f0c : decide ((m : Int) = (m' : Int)) = false := by simp; omega
  have f0n : (m != m') = true := by simp; omega
  have f0m : (m == m') = false := by simp; omega
  have f0d : decide (m = m') = false := by simp; omega
  clear hC hD ht hu hm hn hl1 hl2 hnn hnn' hmm hmm'
  subst hz
  clear hq
  go_enter Tryd.func64, Tryd.ntmps64
  go_wp2_with (first
    | (go_big_want; rename_i K hK; refine oper_valW (run_load16 (.tmp 20) rfl w.heap.size 6 rfl tg (HOT.out _ K0.out).1 HTG.out) (hK _ _ ?_); clear hK K; try simp only [Act.put, List.setIfInBounds_toArray, List.set_cons_succ, List.set_cons_zero])
    | (go_big_want; rename_i K hK; refine oper_valW (run_load16 (.tmp 22) rfl (w.heap.size + 1) 6 rfl tg (HOT.out _ K0.out).2 HTG'.out) (hK _ _ ?_); clear hK K; try simp only [Act.put, List.setIfInBounds_toArray, List.set_cons_succ, List.set_cons_zero])
    | (go_big_want; rename_i K hK; refine oper_valW (run_neq16 _ (.tmp 21) (.tmp 23) rfl tg tg HTG.out HTG'.out rfl rfl false (by simp) _) (hK _ _ ?_); clear hK K; try simp only [Act.put, List.setIfInBounds_toArray, List.set_cons_succ, List.set_cons_zero]))
  go_ret
  exact ⟨rfl, K0.out.bl⟩
set_option maxRecDepth 100000 in
set_option maxHeartbeats 4000000 in
theorem sameR_rest (p : Nat) (e : Nat) (kd : Int) (b : Nat) (tg : List UInt8) (l l' : List Nat) (s s' : List Sl13) (AI AS BI BS : Option Addr) (cI cS dI dS : Nat) (w : World) (ht : okT (⟨p, e, ⟨kd, l, s, b⟩, tg⟩ : Tk13)) (hu : okT (⟨p, e, ⟨kd, l', s', b⟩, tg⟩ : Tk13)) (hm : OrI w w.heap.size ⟨kd, l, s, b⟩ AI AS cI cS) (hn : OrI w w.heap.size ⟨kd, l', s', b⟩ BI BS dI dS) (hl1 : l.length ≤ 1000000) (hl2 : s.length ≤ 1000000) (hz : l.length = l'.length) (hy : s.length = s'.length) :
    Calls Tryd.prog 64 #[.agg (tkV ⟨p, e, ⟨kd, l, s, b⟩, tg⟩ AI AS cI cS).toArray, .agg (tkV ⟨p, e, ⟨kd, l', s', b⟩, tg⟩ BI BS dI dS).toArray] w fun r w' => r = .returned (.bool (decide (l = l' ∧ s = s'))) ∧ Below w.heap.size w w' := by
  obtain ⟨C, hC⟩ : ∃ C, C = tkV ⟨p, e, ⟨kd, l, s, b⟩, tg⟩ AI AS cI cS := ⟨_, rfl⟩
  obtain ⟨D, hD⟩ : ∃ D, D = tkV ⟨p, e, ⟨kd, l', s', b⟩, tg⟩ BI BS dI dS := ⟨_, rfl⟩
  have K0 := hid (SmW.start (w := w) (C := C) (D := D))
  obtain ⟨n, hnn⟩ : ∃ n, n = l.length := ⟨_, rfl⟩
  obtain ⟨n', hnn'⟩ : ∃ n, n = l'.length := ⟨_, rfl⟩
  obtain ⟨m, hmm⟩ : ∃ n, n = s.length := ⟨_, rfl⟩
  obtain ⟨m', hmm'⟩ : ∃ n, n = s'.length := ⟨_, rfl⟩
  have HTG := hid (show tg.length = 16 from ht.2.2.2)
  have HTG' := hid (show tg.length = 16 from hu.2.2.2)
  have HOC := hid (fun (V : World) (x : SmW w C D V) => show ((V.cell? ⟨w.heap.size, 0, none⟩ = some (.int .u64 (p : Int)) ∧ V.cell? ⟨w.heap.size, 1, none⟩ = some (.int .u64 (e : Int))) ∧ V.cell? ⟨w.heap.size, 2, none⟩ = some (.int .i64 kd) ∧ V.cell? ⟨w.heap.size, 3, none⟩ = some (.slice AI n cI) ∧ V.cell? ⟨w.heap.size, 4, none⟩ = some (.slice AS m cS) ∧ V.cell? ⟨w.heap.size, 5, none⟩ = some (.int .u64 (b : Int))) ∧
      (V.cell? ⟨w.heap.size + 1, 0, none⟩ = some (.int .u64 (p : Int)) ∧ V.cell? ⟨w.heap.size + 1, 1, none⟩ = some (.int .u64 (e : Int))) ∧ V.cell? ⟨w.heap.size + 1, 2, none⟩ = some (.int .i64 kd) ∧ V.cell? ⟨w.heap.size + 1, 3, none⟩ = some (.slice BI n' dI) ∧ V.cell? ⟨w.heap.size + 1, 4, none⟩ = some (.slice BS m' dS) ∧ V.cell? ⟨w.heap.size + 1, 5, none⟩ = some (.int .u64 (b : Int)) from by
    have h1 := x.a
    have h2 := x.b
    rw [hC] at h1
    rw [hD] at h2
    rw [hnn, hnn', hmm, hmm']
    exact ⟨tkV_cells h1, tkV_cells h2⟩)
  have HOT := hid (fun (V : World) (x : SmW w C D V) => show V.rangeAt w.heap.size 6 (ubs tg) ∧ V.rangeAt (w.heap.size + 1) 6 (ubs tg) from by
    have h1 := x.a
    have h2 := x.b
    rw [hC] at h1
    rw [hD] at h2
    exact ⟨tkV_tag h1, tkV_tag h2⟩)
  have HI := hid (fun (V : World) (x : Below w.heap.size w V) => show Nu V V.heap.size AI l ∧ Nu V V.heap.size BI l' from ⟨(hm.later x).i, (hn.later x).i⟩)
  have HS1 := hid (fun (V : World) (x : Below w.heap.size w V) => show Ss V V.heap.size AS s ∧ Ss V V.heap.size BS s' from ⟨(hm.later x).s, (hn.later x).s⟩)
  have HK := hid (show (∀ x ∈ s, okS x) ∧ ∀ x ∈ s', okS x from ⟨ht.2.2.1.2.1, hu.2.2.1.2.1⟩)
  have HN := hid (show n = l.length ∧ n ≤ 1000000 from ⟨hnn, by rw [hnn]; exact hl1⟩)
  have HM := hid (show m = s.length ∧ m ≤ 1000000 from ⟨hmm, by rw [hmm]; exact hl2⟩)
  have HN' := hid hnn'
  have HM' := hid hmm'
  rw [← hC, ← hD]
  obtain ⟨⟨⟨c0, c1⟩, c2, c3, c4, c5⟩, ⟨d0, d1⟩, d2, d3, d4, d5⟩ := HOC.out _ K0.out
  rw [← hmm, ← hmm'] at hy
  rw [← hnn, ← hnn'] at hz
  clear hC hD ht hu hm hn hl1 hl2 hnn hnn' hmm hmm'
  subst hz hy
  go_enter Tryd.func64, Tryd.ntmps64
  go_upto_region 4 with (first
    | (go_big_want; rename_i K hK; refine oper_valW (run_load16 (.tmp 20) rfl w.heap.size 6 rfl tg (HOT.out _ K0.out).1 HTG.out) (hK _ _ ?_); clear hK K; try simp only [Act.put, List.setIfInBounds_toArray, List.set_cons_succ, List.set_cons_zero])
    | (go_big_want; rename_i K hK; refine oper_valW (run_load16 (.tmp 22) rfl (w.heap.size + 1) 6 rfl tg (HOT.out _ K0.out).2 HTG'.out) (hK _ _ ?_); clear hK K; try simp only [Act.put, List.setIfInBounds_toArray, List.set_cons_succ, List.set_cons_zero])
    | (go_big_want; rename_i K hK; refine oper_valW (run_neq16 _ (.tmp 21) (.tmp 23) rfl tg tg HTG.out HTG'.out rfl rfl false (by simp) _) (hK _ _ ?_); clear hK K; try simp only [Act.put, List.setIfInBounds_toArray, List.set_cons_succ, List.set_cons_zero]))
  clear c0 c1 c2 c3 c4 c5 d0 d1 d2 d3 d4 d5
  go_loopw [5] (fun v wr => ∃ j : Nat, j ≤ n ∧ v = .int .i64 (j : Int) ∧ Hid (∀ x (h1 : x < l.length) (h2 : x < l'.length), x < j → l[x] = l'[x]) ∧ Hid (SmW w C D wr)) (fun v _ => n - (intOf v).toNat)
  case atStart => exact ⟨0, by omega, rfl, hid (fun x _ _ hx => absurd hx (Nat.not_lt_zero x)), K0⟩
  case round =>
    clear K0
    obtain ⟨j, hj, rfl, HX, HW⟩ := hrel
    obtain ⟨⟨⟨c0, c1⟩, c2, c3, c4, c5⟩, ⟨d0, d1⟩, d2, d3, d4, d5⟩ := HOC.out wr HW.out
    by_cases hlt : j < n
    · have hd : decide ((j : Int) < (n : Int)) = true := by simp; omega
      have hdn : decide (j < n) = true := by simp; omega
      have ik : (j : Int) < (n : Int) := by omega
      have hjl : j < l.length := by rw [← HN.out.1]; exact hlt
      have hjl' : j < l'.length := by rw [← HN'.out]; exact hlt
      obtain ⟨g, q, rfl, -, q1⟩ := (HI.out wr HW.out.bl).1.at hjl
      obtain ⟨g', q', rfl, -, q2⟩ := (HI.out wr HW.out.bl).2.at hjl'
      obtain ⟨x, hx⟩ : ∃ x, x = l[j] := ⟨_, rfl⟩
      obtain ⟨y, hy⟩ : ∃ x, x = l'[j] := ⟨_, rfl⟩
      rw [← hx] at q1
      rw [← hy] at q2
      by_cases hq : x = y
      · have HX2 := hid (show ∀ z (h1 : z < l.length) (h2 : z < l'.length), z < j + 1 → l[z] = l'[z] by
          intro z h1 h2 hz
          by_cases ez : z = j
          · subst ez
            rw [← hx, ← hy, hq]
          · exact HX.out z h1 h2 (by omega))
        obtain ⟨j1, hj1⟩ : ∃ q, q = j + 1 := ⟨_, rfl⟩
        rw [← hj1] at HX2
        have e2 : (j : Int) + 1 = (j1 : Int) := by omega
        have ew : IntKind.i64.wrap (j1 : Int) = (j1 : Int) := by rw [IntKind.wrap_i64] <;> have := HN.out <;> omega
        have HMS := hid (show j1 ≤ n ∧ n - j1 < n - j by omega)
        subst hq
        clear hlt hj hjl hjl' hx hy HX hj1
        go_wp2
        go_quiet (fail)
        have HB := hid (HW.out.drewN nq)
        clear q1 q2 c0 c1 c2 c3 c4 c5 d0 d1 d2 d3 d4 d5
        generalize wr.drewN nq = W1 at HB ⊢
        go_wp2
        exact ⟨⟨j1, HMS.out.1, rfl, HX2, HB⟩, by
          show n - ((j1 : Int)).toNat < n - ((j : Int)).toNat
          rw [Int.toNat_natCast, Int.toNat_natCast]
          exact HMS.out.2⟩
      · have f0 : ((x : Int) != (y : Int)) = true := by simp; omega
        have f0b : ((x : Int) == (y : Int)) = false := by simp; omega
        have f0c : decide ((x : Int) = (y : Int)) = false := by simp; omega
        have f0n : (x != y) = true := by simp; omega
        have f0m : (x == y) = false := by simp; omega
        have f0d : decide (x = y) = false := by simp; omega
        have HO := hid (show decide (l = l' ∧ s = s') = false from decide_eq_false (fun h => by
          apply hq
          have h9 : l = l' := h.1
          subst h9
          rw [hx, hy]))
        clear hlt hj hjl hjl' hx hy HX hq
        go_wp2
        go_quiet (fail)
        have HB := hid (HW.out.drewN nq)
        clear q1 q2 c0 c1 c2 c3 c4 c5 d0 d1 d2 d3 d4 d5
        generalize wr.drewN nq = W1 at HB ⊢
        go_wp2
        go_ret
        exact ⟨by rw [HO.out]; rfl, HB.out.bl⟩
    · obtain rfl : j = n := by omega
      have hd : decide ((j : Int) < (j : Int)) = false := by simp
      have HLL := hid (show l = l' from List.ext_getElem (by rw [← HN.out.1, ← HN'.out]) (fun x h1 h2 => HX.out x h1 h2 (by rw [HN.out.1]; exact h1)))
      clear hlt hj HX HI
      go_upto_region 9 with fail
      clear c0 c1 c2 c3 c4 c5 d0 d1 d2 d3 d4 d5 hd
      go_loopw [6] (fun v wr => ∃ i : Nat, i ≤ m ∧ v = .int .i64 (i : Int) ∧ Hid (∀ x (h1 : x < s.length) (h2 : x < s'.length), x < i → s[x] = s'[x]) ∧ Hid (SmW w C D wr)) (fun v _ => m - (intOf v).toNat)
      case atStart => exact ⟨0, by omega, rfl, hid (fun x _ _ hx => absurd hx (Nat.not_lt_zero x)), HW⟩
      case round =>
        clear HW
        obtain ⟨i, hi, rfl, HX, HW⟩ := hrel
        obtain ⟨⟨⟨c0, c1⟩, c2, c3, c4, c5⟩, ⟨d0, d1⟩, d2, d3, d4, d5⟩ := HOC.out wr HW.out
        by_cases hlt : i < m
        · have hd : decide ((i : Int) < (m : Int)) = true := by simp; omega
          have hdn : decide (i < m) = true := by simp; omega
          have ik : (i : Int) < (m : Int) := by omega
          have hjl : i < s.length := by rw [← HM.out.1]; exact hlt
          have hjl' : i < s'.length := by rw [← HM'.out]; exact hlt
          obtain ⟨g, q, rfl, -, q1⟩ := (HS1.out wr HW.out.bl).1.at HK.out.1 hjl
          obtain ⟨g', q', rfl, -, q2⟩ := (HS1.out wr HW.out.bl).2.at HK.out.2 hjl'
          obtain ⟨x, hx⟩ : ∃ x, x = s[i] := ⟨_, rfl⟩
          obtain ⟨y, hy⟩ : ∃ x, x = s'[i] := ⟨_, rfl⟩
          rw [← hx] at q1
          rw [← hy] at q2
          have HXK := hid (show okS x from by rw [hx]; exact HK.out.1 _ (List.getElem_mem hjl))
          have HYK := hid (show okS y from by rw [hy]; exact HK.out.2 _ (List.getElem_mem hjl'))
          obtain ⟨P1, hP1⟩ : ∃ x, x = q + i * 49 := ⟨_, rfl⟩
          obtain ⟨P2, hP2⟩ : ∃ x, x = q' + i * 49 := ⟨_, rfl⟩
          rw [show q + 49 * i = P1 by omega] at q1
          rw [show q' + 49 * i = P2 by omega] at q2
          have eP1 : q + i * 49 = P1 := hP1.symm
          have eP2 : q' + i * 49 = P2 := hP2.symm
          have Q1 := hid q1
          have Q2 := hid q2
          clear q1 q2 hP1 hP2
          by_cases hq : x = y
          · have HX2 := hid (show ∀ z (h1 : z < s.length) (h2 : z < s'.length), z < i + 1 → s[z] = s'[z] by
              intro z h1 h2 hz
              by_cases ez : z = i
              · subst ez
                rw [← hx, ← hy, hq]
              · exact HX.out z h1 h2 (by omega))
            obtain ⟨j1, hj1⟩ : ∃ q, q = i + 1 := ⟨_, rfl⟩
            rw [← hj1] at HX2
            have e2 : (i : Int) + 1 = (j1 : Int) := by omega
            have ew : IntKind.i64.wrap (j1 : Int) = (j1 : Int) := by rw [IntKind.wrap_i64] <;> have := HM.out <;> omega
            have HMS := hid (show j1 ≤ m ∧ m - j1 < m - i by omega)
            have HEQ := hid hq
            have HNE := hid (show (x.1 == y.1 && x.2.1 == y.2.1 && x.2.2 == y.2.2) = !false by rw [hq]; exact sl_same y)
            clear hlt hi hjl hjl' hx hy HX hj1 hq
            go_wp2
            refine wp_region_quiet_lit (by kernel_rfl) (by kernel_rfl) ?_
            repeat (first
              | go_big_quiet_skip
              | (go_big_quiet_want; rename_i K hK; refine quiet_runC (v := .agg (slV x).toArray) (fun W hW => by obtain ⟨k, rfl⟩ := hW; exact run_loadSvAt (.tmp 99) rfl g P1 rfl (slV x) Q1.out (slV_length HXK.out)) (hK _ ?_); clear hK K; simp only [Act.put, List.setIfInBounds_toArray, List.set_cons_succ, List.set_cons_zero])
              | (go_big_quiet_want; rename_i K hK; refine quiet_runC (v := .agg (slV y).toArray) (fun W hW => by obtain ⟨k, rfl⟩ := hW; exact run_loadSvAt (.tmp 105) rfl g' P2 rfl (slV y) Q2.out (slV_length HYK.out)) (hK _ ?_); clear hK K; simp only [Act.put, List.setIfInBounds_toArray, List.set_cons_succ, List.set_cons_zero])
              | (go_big_quiet_want; rename_i K hK; refine quiet_runC (v := .bool false) (fun W hW => run_neq_rsv _ (.tmp 100) (.tmp 106) rfl x.1 y.1 x.2.1 y.2.1 x.2.2 y.2.2 HXK.out.2.1 HYK.out.2.1 HXK.out.2.2 HYK.out.2.2 rfl rfl false HNE.out W) (hK _ ?_); clear hK K; simp only [Act.put, List.setIfInBounds_toArray, List.set_cons_succ, List.set_cons_zero])
              | (go_big_quiet_want; go_big_quiet_op; go_big_quiet_on))
            refine wpQuiet_nil ?_
            intro _ hw'
            obtain ⟨nq, hw''⟩ := hw'
            subst hw''
            have HB := hid (HW.out.drewN nq)
            clear c0 c1 c2 c3 c4 c5 d0 d1 d2 d3 d4 d5
            generalize wr.drewN nq = W1 at HB ⊢
            go_wp2
            exact ⟨⟨j1, HMS.out.1, rfl, HX2, HB⟩, by
              show m - ((j1 : Int)).toNat < m - ((i : Int)).toNat
              rw [Int.toNat_natCast, Int.toNat_natCast]
              exact HMS.out.2⟩
          · have HO := hid (show decide (l = l' ∧ s = s') = false from decide_eq_false (fun h => by
              apply hq
              have h9 : s = s' := h.2
              subst h9
              rw [hx, hy]))
            have HNE := hid (sl_ne hq)
            clear hlt hi hjl hjl' hx hy HX hq
            go_wp2
            refine wp_region_quiet_lit (by kernel_rfl) (by kernel_rfl) ?_
            repeat (first
              | go_big_quiet_skip
              | (go_big_quiet_want; rename_i K hK; refine quiet_runC (v := .agg (slV x).toArray) (fun W hW => by obtain ⟨k, rfl⟩ := hW; exact run_loadSvAt (.tmp 99) rfl g P1 rfl (slV x) Q1.out (slV_length HXK.out)) (hK _ ?_); clear hK K; simp only [Act.put, List.setIfInBounds_toArray, List.set_cons_succ, List.set_cons_zero])
              | (go_big_quiet_want; rename_i K hK; refine quiet_runC (v := .agg (slV y).toArray) (fun W hW => by obtain ⟨k, rfl⟩ := hW; exact run_loadSvAt (.tmp 105) rfl g' P2 rfl (slV y) Q2.out (slV_length HYK.out)) (hK _ ?_); clear hK K; simp only [Act.put, List.setIfInBounds_toArray, List.set_cons_succ, List.set_cons_zero])
              | (go_big_quiet_want; rename_i K hK; refine quiet_runC (v := .bool true) (fun W hW => run_neq_rsv _ (.tmp 100) (.tmp 106) rfl x.1 y.1 x.2.1 y.2.1 x.2.2 y.2.2 HXK.out.2.1 HYK.out.2.1 HXK.out.2.2 HYK.out.2.2 rfl rfl true HNE.out W) (hK _ ?_); clear hK K; simp only [Act.put, List.setIfInBounds_toArray, List.set_cons_succ, List.set_cons_zero])
              | (go_big_quiet_want; go_big_quiet_op; go_big_quiet_on))
            refine wpQuiet_nil ?_
            intro _ hw'
            obtain ⟨nq, hw''⟩ := hw'
            subst hw''
            have HB := hid (HW.out.drewN nq)
            clear c0 c1 c2 c3 c4 c5 d0 d1 d2 d3 d4 d5
            generalize wr.drewN nq = W1 at HB ⊢
            go_wp2
            go_ret
            exact ⟨congrArg (fun b => Ending.returned (Value.bool b)) HO.out.symm, HB.out.bl⟩
        · obtain rfl : i = m := by omega
          have hd : decide ((i : Int) < (i : Int)) = false := by simp
          have HSS := hid (show s = s' from List.ext_getElem (by rw [← HM.out.1, ← HM'.out]) (fun x h1 h2 => HX.out x h1 h2 (by rw [HM.out.1]; exact h1)))
          clear hlt hi HX
          go_wp2
          go_ret
          exact ⟨congrArg (fun b => Ending.returned (Value.bool b)) (decide_eq_true (show l = l' ∧ s = s' from ⟨HLL.out, HSS.out⟩)).symm, HW.out.bl⟩
/-- Same, whatever it is handed. -/
theorem sameR13_any (t u : Tk13) (AI AS BI BS : Option Addr) (cI cS dI dS : Nat) (w : World) (ht : okT t) (hu : okT u) (hm : OrI w w.heap.size t.o AI AS cI cS) (hn : OrI w w.heap.size u.o BI BS dI dS) (hl1 : t.o.idx.length ≤ 1000000) (hl2 : t.o.sl.length ≤ 1000000) :
    Calls Tryd.prog 64 #[.agg (tkV t AI AS cI cS).toArray, .agg (tkV u BI BS dI dS).toArray] w fun r w' => r = .returned (.bool (decide (t = u))) ∧ Below w.heap.size w w' := by
  obtain ⟨p, e, ⟨kd, l, s, b⟩, tg⟩ := t
  obtain ⟨p', e', ⟨kd', l', s', b'⟩, tg'⟩ := u
  have no : ∀ {P : Prop} [Decidable P], ¬ P → decide P = false := fun h => decide_eq_false h
  by_cases h1 : p = p'
  · subst h1
    by_cases h2 : e = e'
    · subst h2
      by_cases h3 : tg = tg'
      · subst h3
        by_cases h4 : kd = kd'
        · subst h4
          by_cases h5 : b = b'
          · subst h5
            by_cases h6 : l.length = l'.length
            · by_cases h7 : s.length = s'.length
              · have := sameR_rest p e kd b tg l l' s s' AI AS BI BS cI cS dI dS w ht hu hm hn hl1 hl2 h6 h7
                rw [show decide ((⟨p, e, ⟨kd, l, s, b⟩, tg⟩ : Tk13) = ⟨p, e, ⟨kd, l', s', b⟩, tg⟩) = decide (l = l' ∧ s = s') by simp]
                exact this
              · rw [no (fun h => h7 (congrArg (fun t => t.o.sl.length) h))]
                exact sameR_m p e kd b tg l l' s s' AI AS BI BS cI cS dI dS w ht hu hm hn hl1 hl2 h6 h7
            · rw [no (fun h => h6 (congrArg (fun t => t.o.idx.length) h))]
              exact sameR_n p e kd b tg l l' s s' AI AS BI BS cI cS dI dS w ht hu hm hn hl1 hl2 h6
          · rw [no (fun h => h5 (congrArg (fun t => t.o.blocks) h))]
            exact sameR_b p e kd b tg b' l l' s s' AI AS BI BS cI cS dI dS w ht hu hm hn hl1 hl2 h5
        · rw [no (fun h => h4 (congrArg (fun t => t.o.kind) h))]
          exact sameR_kd p e kd b tg kd' b' l l' s s' AI AS BI BS cI cS dI dS w ht hu hm hn hl1 hl2 h4
      · rw [no (fun h => h3 (congrArg Tk13.tag h))]
        exact sameR_tg p e kd b tg kd' b' tg' l l' s s' AI AS BI BS cI cS dI dS w ht hu hm hn hl1 hl2 h3
    · rw [no (fun h => h2 (congrArg Tk13.epoch h))]
      exact sameR_e p e kd b tg e' kd' b' tg' l l' s s' AI AS BI BS cI cS dI dS w ht hu hm hn hl1 hl2 h2
  · rw [no (fun h => h1 (congrArg Tk13.prev h))]
    exact sameR_p p e kd b tg p' e' kd' b' tg' l l' s s' AI AS BI BS cI cS dI dS w ht hu hm hn hl1 hl2 h1
end Go.Proofs.YtfmbpdjcoopaeaaDoor
