/-
  TicketSigns of layer 13: the ticket of any order, its bytes, which tags are its own.
-/
import Derived.Test.YtfmbpdjcoopaeaaDoorMD
import Derived.Test.YtfmbpdjcoopaeaaDoorMA
import Derived.Test.YtfmbpdjcoopaeaaDoorK7
import Derived.Test.YtfmbpdjcoopaeaaDoorM6
import Derived.Test.YtfmbpdjcoopaeaaDoorMB
import Derived.Test.YtfmbpdjcoopaeaaDoorMH
import Derived.Test.YtfmbpdjcoopaeaaDoorY1
namespace Go.Proofs.YtfmbpdjcoopaeaaDoor
open Go.RowKit

theorem zeroRT13 : (Tryd.prog.info? 107).bind (·.zero) = some (.agg (tkV tk0 none none 0 0).toArray) := zeroT13
theorem rt_stored (w : World) (T : List Value) : At ((w.alloc (.cells (tkV tk0 none none 0 0).toArray 107)).setRow w.heap.size T.toArray) w.heap.size T.toArray 107 := setRow_heap _ _ (tkV tk0 none none 0 0).toArray _ _ _ (At.new _ _ _)
theorem rt_stored_below (w : World) (T : List Value) : Below w.heap.size w ((w.alloc (.cells (tkV tk0 none none 0 0).toArray 107)).setRow w.heap.size T.toArray) := below_setRow ((Below.refl _ _).alloc (Nat.le_refl _) _) (Nat.le_refl _) _
theorem tkV_setTag (t : Tk13) (AI AS : Option Addr) (cI cS : Nat) (tg : List UInt8) (h1 : t.tag.length = 16) (h2 : tg.length = 16) : spv (tkV t AI AS cI cS) 6 (ubs tg) = tkV ⟨t.prev, t.epoch, t.o, tg⟩ AI AS cI cS := by
  have := spv_at (.int .u64 (t.prev : Int) :: .int .u64 (t.epoch : Int) :: ordV t.o AI AS cI cS) (ubs t.tag) [] (ubs tg) (by rw [ubs_length, ubs_length, h1, h2])
  rw [List.append_nil, List.append_nil] at this
  exact this
theorem run_loadTg {o : Oper} {a : Go.Act} {W : World} (x : Operand) (ho : o.op = .load 30 x) (b off : Nat) (hx : a.eval x = .pointer (some ⟨b, off, none⟩)) (l : List UInt8) (hc : W.rangeAt b off (ubs l)) (hl : l.length = 16) : (execOp a.eval o).run Tryd.prog W = .ok (.value (.agg (ubs l).toArray)) W :=
  run_load_part _ x ho b off hx (ubs l) _ hc Tryd.underlying30 rfl (by rw [size16, ubs_length, hl])
theorem okT_tk0 : okT tk0 := ⟨by decide, by decide, ⟨(fun _ h => nomatch h), (fun _ h => nomatch h), by decide⟩, by simp [tk0]⟩
theorem oi_tk0 (W : World) (B : Nat) : OrI W B tk0.o none none 0 0 := ⟨Rd.nil _ _ _, Ss.nil _ _ _, Nat.le_refl _, Nat.le_refl _⟩
/-- What holds behind the first calls: the arguments' boxes, the document's ticket. -/
structure TsW (w : World) (key : List UInt8) (C R : List Value) (D : Nat) (od : Ord13) (AI A' : Option Addr) (cI c' : Nat) (V : World) : Prop where
  bl : Below w.heap.size w V
  k : At V w.heap.size (ubs key).toArray 25
  o : At V (w.heap.size + 1) C.toArray 105
  r : At V D R.toArray 107
  i : OrI V V.heap.size od AI A' cI c'
theorem TsW.new {w V V' : World} {key : List UInt8} {C R : List Value} {D : Nat} {od : Ord13} {AI A' : Option Addr} {cI c' : Nat} (k : TsW w key C R D od AI A' cI c' V) (hb : Below V.heap.size V V') : TsW w key C R D od AI A' cI c' V' := ⟨k.bl.trans (hb.mono k.bl.size), k.k.new_ hb, k.o.new_ hb, k.r.new_ hb, k.i.later hb⟩
/-- Beside: the ticket that was signed. -/
structure TsX (w : World) (key : List UInt8) (C R S : List Value) (D X : Nat) (od : Ord13) (AI A' A1 A2 : Option Addr) (cI c' c1 c2 : Nat) (V : World) : Prop where
  m : TsW w key C R D od AI A' cI c' V
  s : At V X S.toArray 105
  j : OrI V V.heap.size od A1 A2 c1 c2
theorem TsX.new {w V V' : World} {key : List UInt8} {C R S : List Value} {D X : Nat} {od : Ord13} {AI A' A1 A2 : Option Addr} {cI c' c1 c2 : Nat} (k : TsX w key C R S D X od AI A' A1 A2 cI c' c1 c2 V) (hb : Below V.heap.size V V') : TsX w key C R S D X od AI A' A1 A2 cI c' c1 c2 V' := ⟨k.m.new hb, k.s.new_ hb, k.j.later hb⟩
/-- Beside: the bytes, and the document's ticket with its own tag. -/
structure TsY (w : World) (key : List UInt8) (C R S T : List Value) (D X Y : Nat) (od : Ord13) (AI A' A1 A2 Ab : Option Addr) (cI c' c1 c2 : Nat) (pb : List UInt8) (V : World) : Prop where
  x : TsX w key C R S D X od AI A' A1 A2 cI c' c1 c2 V
  y : At V Y T.toArray 107
  b : Rb V V.heap.size Ab pb
theorem TsY.new {w V V' : World} {key : List UInt8} {C R S T : List Value} {D X Y : Nat} {od : Ord13} {AI A' A1 A2 Ab : Option Addr} {cI c' c1 c2 : Nat} {pb : List UInt8} (k : TsY w key C R S T D X Y od AI A' A1 A2 Ab cI c' c1 c2 pb V) (hb : Below V.heap.size V V') : TsY w key C R S T D X Y od AI A' A1 A2 Ab cI c' c1 c2 pb V' := ⟨k.x.new hb, k.y.new_ hb, (Rd.below k.b hb).mono hb.size⟩
/-- What the first region yields; what the last one does. -/
def tsF (D Y : Nat) (G : Value) (tg tt : List UInt8) (r : Bool) : Nat → Value
  | 0 => G
  | 1 => .bool r
  | 2 => .pointer (some ⟨Y, 6, none⟩)
  | 3 => .agg (ubs tg).toArray
  | 4 => .pointer (some ⟨D, 6, none⟩)
  | 5 => .agg (ubs tt).toArray
  | 6 => .bool r
  | 7 => .bool false
  | 8 => .bool false
  | 9 => G
  | 10 => .bool (!r)
  | 11 => .bool (!r)
  | 12 => bif r then undef else G
  | 13 => bif r then undef else .bool true
  | 14 => bif r then undef else .bool false
  | 15 => .bool false
  | _ => .bool false
def tuF (t : Tk13) (S R T : List Value) (A1 Ab : Option Addr) (c1 cb n : Nat) (pb : List UInt8) (i : Nat) (v : Value) (W : World) : Prop :=
  match i with
  | 0 => v = .nilIface
  | 1 => v = .bool true
  | 2 => v = .bool true
  | 3 => v = .nilIface
  | 4 => v = .bool true
  | 5 => v = .bool true
  | 6 => v = .bool true
  | 7 => v = .agg S.toArray
  | 8 => ∃ A9 c9, v = .agg (tkV t A1 A9 c1 c9).toArray ∧ OrI W W.heap.size t.o A1 A9 c1 c9
  | 9 => v = .agg T.toArray
  | 10 => v = .bool true
  | 11 => v = .bool true
  | 12 => v = .bool true
  | 13 => v = .slice Ab n cb
  | 14 => v = .agg R.toArray
  | 15 => ∃ B d, v = .slice B n d ∧ Rb W W.heap.size B pb
  | 16 => v = .bool true
  | 17 => v = .bool true
  | _ => v = .bool true
theorem tuF_new {t : Tk13} {S R T : List Value} {A1 Ab : Option Addr} {c1 cb n : Nat} {pb : List UInt8} {i : Nat} {v : Value} {W W' : World} (h : tuF t S R T A1 Ab c1 cb n pb i v W) (hb : Below W.heap.size W W') : tuF t S R T A1 Ab c1 cb n pb i v W' := by
  rcases i with _ | _ | _ | _ | _ | _ | _ | _ | _ | _ | _ | _ | _ | _ | _ | _ | _ | _ | i
  iterate 8 exact h
  · obtain ⟨A9, c9, h1, h2⟩ := h; exact ⟨A9, c9, h1, h2.later hb⟩
  iterate 6 exact h
  · obtain ⟨B, d, h1, h2⟩ := h; exact ⟨B, d, h1, (Rd.below h2 hb).mono hb.size⟩
  iterate 3 exact h
set_option maxRecDepth 100000 in
set_option maxHeartbeats 8000000 in
theorem ticketSigns_law {w : World} (key : List UInt8) (t : Tk13) (AI AS : Option Addr) (cI cS : Nat) (hkl : key.length = 32) (hk : okT t) (hm : OrI w w.heap.size t.o AI AS cI cS) (hT : Tabs w) (hR : Tabr w) (hI : Tab w 0 IV.l) :
    Calls Tryd.prog 10 #[.agg (ubs key).toArray, .agg (tkV t AI AS cI cS).toArray] w fun r w' => r = .returned (.bool true) ∧ Below w.heap.size w w' := by
  obtain ⟨C, hC⟩ : ∃ C, C = tkV t AI AS cI cS := ⟨_, rfl⟩
  obtain ⟨O, hO⟩ : ∃ O, O = ordV t.o AI AS cI cS := ⟨_, rfl⟩
  have HOL := hid (show O.length = 4 by rw [hO]; rfl)
  have HCL := hid (show C.length = 22 by rw [hC]; exact tkV_length hk.2.2.2 _ _ _ _)
  have HPC := hid (fun (V : World) (x : At V (w.heap.size + 1) C.toArray 105) => show (V.cell? ⟨w.heap.size + 1, 0, none⟩ = some (.int .u64 (t.prev : Int)) ∧ V.cell? ⟨w.heap.size + 1, 1, none⟩ = some (.int .u64 (t.epoch : Int))) ∧ V.rangeAt (w.heap.size + 1) 2 O from by
    rw [hC] at x
    rw [hO]
    exact ⟨(tkV_cells x).1, tkV_ord x⟩)
  have K0 := hid (CkM.start w key C)
  have HAL := hid (fun (V : World) (hb : Below w.heap.size w V) => alive13_any V (hT.below hb))
  have HLG := hid (fun (V : World) => large13_any t.o AI AS cI cS V)
  rw [← hO] at HLG
  rw [← hC]
  cases hlg : lgO t.o with
  | true =>
    rw [hlg] at HLG
    clear hO hC hk hm hT hR hI hlg hkl
    go_enter Tryd.func10, Tryd.ntmps10
    go_wp2_with (first
      | (go_at_call 48; refine (HAL.out _ K0.out.bl).mono ?_; rintro r1 w1 ⟨rfl, h1⟩; have K1 := hid (K0.out.new h1); clear h1)
      | (refine wpList_valW (by rfl) (run_loadPO (.tmp 15) rfl (w.heap.size + 1) 2 rfl O (HPC.out _ K1.out.c).2 HOL.out) ?_; try simp only [Act.put, List.setIfInBounds_toArray, List.set_cons_succ, List.set_cons_zero])
      | (go_at_call 49; refine (HLG.out w1).mono ?_; rintro r2 w2 ⟨rfl, h2⟩; have K2 := hid (K1.out.new h2); clear h2))
    go_ret
    exact ⟨rfl, K2.out.bl⟩
  | false =>
    obtain ⟨hi3, hs3⟩ := lgO_le hlg
    rw [hlg] at HLG
    have HDC := hid (fun (V : World) (hb : Below w.heap.size w V) => show Calls Tryd.prog 57 #[.agg C.toArray] V (fun r w' => ∃ A' c', r = .returned (.agg (tkV t AI A' cI c').toArray) ∧ OrI w' w'.heap.size t.o AI A' cI c' ∧ Below V.heap.size V w') from by
      rw [hC]
      refine (document13_any t AI AS cI cS V hk (hm.later hb) (by omega)).mono ?_
      rintro r w' ⟨A', c', rfl, ⟨h1, -⟩, h2⟩
      exact ⟨A', c', rfl, h1, h2⟩)
    obtain ⟨mm, hmm⟩ : ∃ x, x = mayN t := ⟨_, rfl⟩
    have HMY := hid (fun (A' : Option Addr) (c' : Nat) (V : World) (hx : OrI V V.heap.size t.o AI A' cI c') => show Calls Tryd.prog 58 #[.agg (tkV t AI A' cI c').toArray] V (fun r w' => r = .returned (.int .i64 (mm : Int)) ∧ Below V.heap.size V w') from by
      rw [hmm]; exact mayR13_any t AI A' cI c' V hk hx (by omega))
    have HTL := hid (fun (A' : Option Addr) (c' : Nat) => tkV_length (t := t) hk.2.2.2 AI A' cI c')
    have HTA := hid (fun (A' : Option Addr) (c' : Nat) => tkV_all t AI A' cI c')
    have HAT := hid (fun (o : Oper) (a : Go.Act) (W : World) (h : o.op = .alloc 107) => run_alloc_of (o := o) (a := a) (W := W) _ h (tkV tk0 none none 0 0).toArray zeroRT13)
    have HAP := hid (fun (o : Oper) (a : Go.Act) (W : World) (h : o.op = .alloc 105) => run_alloc_of (o := o) (a := a) (W := W) _ h (tkV tk0 none none 0 0).toArray zeroPT13)
    have HKL := hid hkl
    have hmt : mayN ⟨t.prev, t.epoch, t.o, n16⟩ = mm := hmm.symm
    by_cases h0 : mm = 0
    · have hro : rgtO t.o = true := (mayN_zero.1 (hmm.symm.trans h0)).1
      obtain ⟨tg, htg⟩ : ∃ x, x = tgT key t := ⟨_, rfl⟩
      have hgl : tg.length = 16 := by rw [htg]; exact tgT_length _ _
      obtain ⟨t2, ht2⟩ : ∃ x : Tk13, x = ⟨t.prev, t.epoch, t.o, tg⟩ := ⟨_, rfl⟩
      have hst : sgnT key t.prev t.epoch t.o = t2 := by rw [ht2, htg]; rfl
      have hok2 : okT t2 := by rw [ht2]; exact ⟨hk.1, hk.2.1, hk.2.2.1, hgl⟩
      have ho2 : t2.o = t.o := by rw [ht2]
      have HSG := hid (fun (V : World) (hb : Below w.heap.size w V) => show Calls Tryd.prog 59 #[.agg (ubs key).toArray, .int .u64 (t.prev : Int), .int .u64 (t.epoch : Int), .agg O.toArray] V (fun r w' => ∃ A1 A2 c1 c2, r = .returned (.tuple #[.agg (tkV t2 A1 A2 c1 c2).toArray, .nilIface]) ∧ OrI w' w'.heap.size t.o A1 A2 c1 c2 ∧ Below V.heap.size V w') from by
        have := psign13_ok key t.prev t.epoch t.o AI AS cI cS V hkl hk.1 hk.2.1 hk.2.2.1 (hm.later hb) (by omega) (by omega) (hmt.trans h0) (hT.below hb)
        rw [hst, ← hO] at this
        exact this)
      have HPU := hid (fun (V : World) (hb : Below w.heap.size w V) => show Calls Tryd.prog 60 #[.agg C.toArray] V (fun r w' => ∃ A c, r = .returned (.tuple #[.slice A (putT t).length c, .nilIface]) ∧ Rb w' w'.heap.size A (putT t) ∧ Below V.heap.size V w') from by
        rw [hC]
        refine (pput13_ok t AI AS cI cS V hk (hm.later hb) (by omega) (hmm.symm.trans h0)).mono ?_
        rintro r w' ⟨A, c, h1, h2, h3⟩
        exact ⟨A, c, h1, Rd.of_own h2, h3⟩)
      obtain ⟨r, hre⟩ : ∃ r : Bool, (tg == t.tag) = r := ⟨_, rfl⟩
      obtain ⟨G, hG⟩ : ∃ G : Value, G = bif r then .nilIface else .iface 49 (.int .i64 4) := ⟨_, rfl⟩
      have hGe : errV (if t.tag = tgT key t then 0 else 4) = G := by
        rw [hG, ← hre, ← htg]
        by_cases hh : t.tag = tg
        · rw [if_pos hh, errV_zero, beq_iff_eq.2 hh.symm]; rfl
        · rw [if_neg hh, beq_eq_false_iff_ne.2 (fun e => hh e.symm)]; exact errV_pos (by decide)
      have HCK := hid (fun (V : World) (hb : Below w.heap.size w V) => show Calls Tryd.prog 61 #[.agg (ubs key).toArray, .agg C.toArray] V (fun r w' => r = .returned G ∧ Below V.heap.size V w') from by
        have := pcheck13_ok key t AI AS cI cS V hkl hk (hm.later hb) (by omega) (hmm.symm.trans h0) (hT.below hb)
        rw [hGe, ← hC] at this
        exact this)
      have HTG := hid (fun (A' : Option Addr) (c' : Nat) (V : World) (hb : Below w.heap.size w V) (hx : OrI V V.heap.size t.o AI A' cI c') => show Calls Tryd.prog 63 #[.agg (ubs key).toArray, .agg (tkV t AI A' cI c').toArray] V (fun r w' => r = .returned (.agg (ubs tg).toArray) ∧ Below V.heap.size V w') from by
        rw [htg]; exact tagR13_any key t AI A' cI c' V hkl hk hx hro (hR.below hb) (Tab.below (x := IV.a) (xs := [IV.b, IV.c, IV.d, IV.e, IV.f, IV.g, IV.h]) hI hb))
      have HD2 := hid (fun (A1 A2 : Option Addr) (c1 c2 : Nat) (V : World) (hx : OrI V V.heap.size t.o A1 A2 c1 c2) => show Calls Tryd.prog 57 #[.agg (tkV t2 A1 A2 c1 c2).toArray] V (fun r w' => ∃ A9 c9, r = .returned (.agg (tkV t2 A1 A9 c1 c9).toArray) ∧ OrI w' w'.heap.size t2.o A1 A9 c1 c9 ∧ Below V.heap.size V w') from by
        refine (document13_any t2 A1 A2 c1 c2 V hok2 (by rw [ho2]; exact hx) (by rw [ho2]; omega)).mono ?_
        rintro r w' ⟨A', c', rfl, ⟨h1, -⟩, h2⟩
        exact ⟨A', c', rfl, h1, h2⟩)
      have HRS := hid (fun (A1 A9 : Option Addr) (c1 c9 : Nat) (A' : Option Addr) (c' : Nat) (V : World) (hx : OrI V V.heap.size t2.o A1 A9 c1 c9) (hy : OrI V V.heap.size t.o AI A' cI c') => show Calls Tryd.prog 64 #[.agg (tkV t2 A1 A9 c1 c9).toArray, .agg (tkV t2 AI A' cI c').toArray] V (fun r w' => r = .returned (.bool true) ∧ Below V.heap.size V w') from by
        have := sameR13_any t2 t2 A1 A9 AI A' c1 c9 cI c' V hok2 hok2 hx (by rw [ho2]; exact hy) (by rw [ho2]; omega) (by rw [ho2]; omega)
        rwa [show decide (t2 = t2) = true from decide_eq_true rfl] at this)
      have HRP := hid (fun (A' : Option Addr) (c' : Nat) (V : World) (hy : OrI V V.heap.size t.o AI A' cI c') => show Calls Tryd.prog 65 #[.agg (tkV t AI A' cI c').toArray] V (fun r w' => ∃ B d, r = .returned (.slice B (putT t).length d) ∧ Rb w' w'.heap.size B (putT t) ∧ Below V.heap.size V w') from by
        refine (putR13_any t AI A' cI c' V hk hy hro).mono ?_
        rintro r w' ⟨v, rfl, h1⟩
        obtain ⟨B, d, rfl⟩ := h1.form
        exact ⟨B, d, rfl, Rd.of_own h1.o, h1.bl⟩)
      have HBY := hid (fun (V : World) (A B : Option Addr) (c d : Nat) (hx : Rb V V.heap.size A (putT t)) (hy : Rb V V.heap.size B (putT t)) => show Calls Tryd.prog 15 #[.slice A (putT t).length c, .slice B (putT t).length d] V (fun e w' => e = .returned (.bool true) ∧ V = w') from by
          have := bytes_any (putT t) (putT t) A B c d V hx hy
          rwa [show (putT t == putT t) = true from beq_self_eq_true _] at this)
      have HIS := hid (fun V => show Calls Tryd.prog 22 #[.iface 49 (.int .i64 4), .int .i64 4] V (fun e w' => e = .returned (.bool true) ∧ V = w') from by
        have := eis_any 4 4 V
        rw [show errV 4 = .iface 49 (.int .i64 4) from errV_pos (by decide)] at this
        exact this)
      have HTS := hid (fun (A1 A2 : Option Addr) (c1 c2 : Nat) => tkV_length (t := t2) hok2.2.2.2 A1 A2 c1 c2)
      have HTT := hid (fun (A1 A2 : Option Addr) (c1 c2 : Nat) => tkV_all t2 A1 A2 c1 c2)
      have HSE := hid (fun (A' : Option Addr) (c' : Nat) => show spv (tkV t AI A' cI c') 6 (ubs tg) = tkV t2 AI A' cI c' from by rw [tkV_setTag t AI A' cI c' tg hk.2.2.2 hgl, ht2])
      have HG1 := hid (fun (V : World) (D : Nat) (A' : Option Addr) (c' : Nat) (x : At V D (tkV t AI A' cI c').toArray 107) => show V.rangeAt D 6 (ubs t.tag) from tkV_tag x)
      have HG2 := hid (fun (V : World) (D : Nat) (A' : Option Addr) (c' : Nat) (x : At V D (tkV t2 AI A' cI c').toArray 107) => show V.rangeAt D 6 (ubs tg) from by have := tkV_tag x; rw [ht2] at this; exact this)
      have HGL := hid hgl
      have HTTL := hid (show t.tag.length = 16 from hk.2.2.2)
      have HSZ16 := hid (show (Tryd.prog.info? 30).map (·.size) = some (ubs tg).toArray.size by rw [size16]; simp [ubs_length, hgl])
      subst h0
      obtain ⟨n, hn⟩ : ∃ n, n = (putT t).length := ⟨_, rfl⟩
      rw [← hn] at HPU HRP HBY
      generalize putT t = pb at HPU HRP HBY
      obtain ⟨tt, htt⟩ : ∃ x, x = t.tag := ⟨_, rfl⟩
      rw [← htt] at hre HG1 HTTL
      have HGE := hid hG
      clear hO hC hk hm hT hR hI hlg hi3 hs3 hmm hmt hkl hro htg hgl hst hok2 ho2 hGe hn htt ht2 hG
      go_enter Tryd.func10, Tryd.ntmps10
      go_upto_region 7 with (first
        | (go_at_call 48; refine (HAL.out _ K0.out.bl).mono ?_; rintro r1 w1 ⟨rfl, h1⟩; have K1 := hid (K0.out.new h1); clear h1)
        | (refine wpList_valW (by rfl) (run_loadPO (.tmp 15) rfl (w.heap.size + 1) 2 rfl O (HPC.out _ K1.out.c).2 HOL.out) ?_; try simp only [Act.put, List.setIfInBounds_toArray, List.set_cons_succ, List.set_cons_zero])
        | (go_at_call 49; refine (HLG.out w1).mono ?_; rintro r2 w2 ⟨rfl, h2⟩; have K2 := hid (K1.out.new h2); clear h2)
        | (refine wpList_valW (by rfl) (run_loadPT (.tmp 3) rfl (w.heap.size + 1) rfl C 105 K2.out.c HCL.out) ?_; try simp only [Act.put, List.setIfInBounds_toArray, List.set_cons_succ, List.set_cons_zero])
        | (go_at_call 57; refine (HDC.out w2 K2.out.bl).mono ?_; rintro r3 w3 ⟨A', c', rfl, hi3, h3⟩; have K3 := hid (And.intro (K2.out.new h3) hi3); clear h3 hi3)
        | (refine Great.wpList_allocTo rfl _ rfl _ _ (HAT.out _ _ _ rfl) ?_)
        | (refine wpList_store_row rfl _ (.tmp 5) (.tmp 19) rfl w3.heap.size (tkV t AI A' cI c').toArray rfl rfl 107 (tkV tk0 none none 0 0).toArray (heap_alloc_new _ _) (sizeT13_of (HTL.out A' c')) ((show (tkV tk0 none none 0 0).length = 22 from rfl).trans (HTL.out A' c').symm) (HTA.out A' c') ?_; have K4 := hid (show TsW w key C (tkV t AI A' cI c') w3.heap.size t.o AI A' cI c' ((w3.alloc (.cells (tkV tk0 none none 0 0).toArray 107)).setRow w3.heap.size (tkV t AI A' cI c').toArray) from ⟨K3.out.1.bl.trans ((rt_stored_below w3 _).mono K3.out.1.bl.size), K3.out.1.k.new_ (rt_stored_below w3 _), K3.out.1.c.new_ (rt_stored_below w3 _), rt_stored w3 _, K3.out.2.later (rt_stored_below w3 _)⟩); generalize ((w3.alloc (.cells (tkV tk0 none none 0 0).toArray 107)).setRow w3.heap.size (tkV t AI A' cI c').toArray) = w4 at K4 ⊢; generalize w3.heap.size = D at K4 ⊢)
        | (refine wpList_valW (by rfl) (run_loadT13 (.tmp 5) rfl D rfl (tkV t AI A' cI c') 107 K4.out.r (HTL.out A' c')) ?_; try simp only [Act.put, List.setIfInBounds_toArray, List.set_cons_succ, List.set_cons_zero])
        | (go_at_call 58; refine (HMY.out A' c' w4 K4.out.i).mono ?_; rintro r5 w5 ⟨rfl, h5⟩; have K5 := hid (K4.out.new h5); clear h5; obtain ⟨⟨q0, q1⟩, -⟩ := HPC.out _ K5.out.o))
      clear K0 K1 K2 K3 K4
      go_upto_region 14 with (first
        | (refine wpList_valW (by rfl) (run_loadH (.tmp 2) rfl w.heap.size 0 rfl key (range_whole K5.out.k) HKL.out) ?_; try simp only [Act.put, List.setIfInBounds_toArray, List.set_cons_succ, List.set_cons_zero])
        | (refine wpList_valW (by rfl) (run_loadPO (.tmp 28) rfl (w.heap.size + 1) 2 rfl O (HPC.out _ K5.out.o).2 HOL.out) ?_; try simp only [Act.put, List.setIfInBounds_toArray, List.set_cons_succ, List.set_cons_zero])
        | (go_at_call 59; refine (HSG.out w5 K5.out.bl).mono ?_; rintro r6 w6 ⟨A1, A2, c1, c2, rfl, hj6, h6⟩; have K6 := hid (And.intro (K5.out.new h6) hj6); clear h6 hj6 q0 q1)
        | (refine Great.wpList_allocTo rfl _ rfl _ _ (HAP.out _ _ _ rfl) ?_)
        | (refine wpList_store_row rfl _ (.tmp 7) (.tmp 31) rfl w6.heap.size (tkV t2 A1 A2 c1 c2).toArray rfl rfl 105 (tkV tk0 none none 0 0).toArray (heap_alloc_new _ _) (sizePT_of (HTS.out A1 A2 c1 c2)) ((show (tkV tk0 none none 0 0).length = 22 from rfl).trans (HTS.out A1 A2 c1 c2).symm) (HTT.out A1 A2 c1 c2) ?_; have K7 := hid (show TsX w key C (tkV t AI A' cI c') (tkV t2 A1 A2 c1 c2) D w6.heap.size t.o AI A' A1 A2 cI c' c1 c2 ((w6.alloc (.cells (tkV tk0 none none 0 0).toArray 105)).setRow w6.heap.size (tkV t2 A1 A2 c1 c2).toArray) from ⟨K6.out.1.new (pt_stored_below w6 _), pt_stored w6 _, K6.out.2.later (pt_stored_below w6 _)⟩); generalize ((w6.alloc (.cells (tkV tk0 none none 0 0).toArray 105)).setRow w6.heap.size (tkV t2 A1 A2 c1 c2).toArray) = w7 at K7 ⊢; generalize w6.heap.size = X at K7 ⊢)
        | (refine wpList_valW (by rfl) (run_loadPT (.tmp 3) rfl (w.heap.size + 1) rfl C 105 K7.out.m.o HCL.out) ?_; try simp only [Act.put, List.setIfInBounds_toArray, List.set_cons_succ, List.set_cons_zero])
        | (go_at_call 60; refine (HPU.out w7 K7.out.m.bl).mono ?_; rintro r8 w8 ⟨Ab, cb, rfl, hb8, h8⟩; have K8 := hid (And.intro (K7.out.new h8) hb8); clear h8 hb8)
        | (refine wpList_valW (by rfl) (run_loadH (.tmp 2) rfl w.heap.size 0 rfl key (range_whole K8.out.1.m.k) HKL.out) ?_; try simp only [Act.put, List.setIfInBounds_toArray, List.set_cons_succ, List.set_cons_zero])
        | (refine wpList_valW (by rfl) (run_loadPT (.tmp 3) rfl (w.heap.size + 1) rfl C 105 K8.out.1.m.o HCL.out) ?_; try simp only [Act.put, List.setIfInBounds_toArray, List.set_cons_succ, List.set_cons_zero])
        | (go_at_call 61; refine (HCK.out w8 K8.out.1.m.bl).mono ?_; rintro r9 w9 ⟨rfl, h9⟩; have K9 := hid (And.intro (K8.out.1.new h9) (show Rb w9 w9.heap.size Ab pb from (Rd.below K8.out.2 h9).mono h9.size)); clear h9)
        | (refine wpList_valW (by rfl) (run_loadT13 (.tmp 5) rfl D rfl (tkV t AI A' cI c') 107 K9.out.1.m.r (HTL.out A' c')) ?_; try simp only [Act.put, List.setIfInBounds_toArray, List.set_cons_succ, List.set_cons_zero])
        | (refine Great.wpList_allocTo rfl _ rfl _ _ (HAT.out _ _ _ rfl) ?_)
        | (refine wpList_store_row rfl _ (.tmp 12) (.tmp 69) rfl w9.heap.size (tkV t AI A' cI c').toArray rfl rfl 107 (tkV tk0 none none 0 0).toArray (heap_alloc_new _ _) (sizeT13_of (HTL.out A' c')) ((show (tkV tk0 none none 0 0).length = 22 from rfl).trans (HTL.out A' c').symm) (HTA.out A' c') ?_; have K10 := hid (show TsY w key C (tkV t AI A' cI c') (tkV t2 A1 A2 c1 c2) (tkV t AI A' cI c') D X w9.heap.size t.o AI A' A1 A2 Ab cI c' c1 c2 pb ((w9.alloc (.cells (tkV tk0 none none 0 0).toArray 107)).setRow w9.heap.size (tkV t AI A' cI c').toArray) from ⟨K9.out.1.new (rt_stored_below w9 _), rt_stored w9 _, (Rd.below K9.out.2 (rt_stored_below w9 _)).mono (rt_stored_below w9 _).size⟩); have HYS := hid (show w9.heap.size ≤ w9.heap.size from Nat.le_refl _); have HDX := hid (show w.heap.size + 2 ≤ w9.heap.size ∧ D < w9.heap.size ∧ X < w9.heap.size from ⟨Nat.succ_le_of_lt K9.out.1.m.o.lt, K9.out.1.m.r.lt, K9.out.1.s.lt⟩); have HYI := hid (show OrI ((w9.alloc (.cells (tkV tk0 none none 0 0).toArray 107)).setRow w9.heap.size (tkV t AI A' cI c').toArray) w9.heap.size t.o AI A' cI c' ∧ OrI ((w9.alloc (.cells (tkV tk0 none none 0 0).toArray 107)).setRow w9.heap.size (tkV t AI A' cI c').toArray) w9.heap.size t.o A1 A2 c1 c2 ∧ Rb ((w9.alloc (.cells (tkV tk0 none none 0 0).toArray 107)).setRow w9.heap.size (tkV t AI A' cI c').toArray) w9.heap.size Ab pb from ⟨K9.out.1.m.i.below (rt_stored_below w9 _), K9.out.1.j.below (rt_stored_below w9 _), Rd.below K9.out.2 (rt_stored_below w9 _)⟩); generalize ((w9.alloc (.cells (tkV tk0 none none 0 0).toArray 107)).setRow w9.heap.size (tkV t AI A' cI c').toArray) = w10 at K10 HYI ⊢; generalize w9.heap.size = Y at K10 HYI HDX ⊢)
        | (refine wpList_valW (by rfl) (run_loadH (.tmp 2) rfl w.heap.size 0 rfl key (range_whole K10.out.x.m.k) HKL.out) ?_; try simp only [Act.put, List.setIfInBounds_toArray, List.set_cons_succ, List.set_cons_zero])
        | (refine wpList_valW (by rfl) (run_loadT13 (.tmp 5) rfl D rfl (tkV t AI A' cI c') 107 K10.out.x.m.r (HTL.out A' c')) ?_; try simp only [Act.put, List.setIfInBounds_toArray, List.set_cons_succ, List.set_cons_zero])
        | (go_at_call 63; refine (HTG.out A' c' w10 K10.out.x.m.bl K10.out.x.m.i).mono ?_; rintro r11 w11 ⟨rfl, h11⟩; have K11 := hid (K10.out.new h11); have HYJ := hid (show OrI w11 Y t.o AI A' cI c' ∧ OrI w11 Y t.o A1 A2 c1 c2 ∧ Rb w11 Y Ab pb from ⟨HYI.out.1.below (h11.mono (Nat.le_of_lt K10.out.y.lt)), HYI.out.2.1.below (h11.mono (Nat.le_of_lt K10.out.y.lt)), Rd.below HYI.out.2.2 (h11.mono (Nat.le_of_lt K10.out.y.lt))⟩); have HTH := hid (show w11.there Y 6 16 from (fun j hj => ⟨by rw [K11.out.y.cell, List.getElem?_toArray, List.getElem?_eq_getElem (by rw [HTL.out A' c']; omega)]; rfl, K11.out.y.frozen _⟩)); clear h11)
        | (refine wpList_store_mid rfl 30 (.tmp 73) (.tmp 72) rfl Y 6 (ubs tg).toArray rfl rfl (by have := HTH.out; simpa [ubs_length, HGL.out] using this) HSZ16.out (ubs_all _) ?_; have K12 := hid (show TsY w key C (tkV t AI A' cI c') (tkV t2 A1 A2 c1 c2) (tkV t2 AI A' cI c') D X Y t.o AI A' A1 A2 Ab cI c' c1 c2 pb (w11.setCells Y 6 (ubs tg)) from (by
                have hb : Below Y w11 (w11.setCells Y 6 (ubs tg)) := below_setVals (Below.refl Y w11) (Nat.le_refl _) 6 (ubs tg)
                have hz : Y ≤ (w11.setCells Y 6 (ubs tg)).heap.size := Nat.le_trans (Nat.le_of_lt K11.out.y.lt) hb.size
                have h1 := at_setVals K11.out.y 6 (ubs tg)
                rw [HSE.out] at h1
                exact ⟨⟨⟨below_setVals K11.out.x.m.bl (by have := HDX.out; omega) 6 (ubs tg), far_setVals K11.out.x.m.k (by have := HDX.out; omega) 6 (ubs tg), far_setVals K11.out.x.m.o (by have := HDX.out; omega) 6 (ubs tg), far_setVals K11.out.x.m.r (by have := HDX.out; omega) 6 (ubs tg), (HYJ.out.1.below hb).mono hz⟩, far_setVals K11.out.x.s (by have := HDX.out; omega) 6 (ubs tg), (HYJ.out.2.1.below hb).mono hz⟩, h1, (Rd.below HYJ.out.2.2 hb).mono hz⟩)); rw [List.toList_toArray]; generalize (w11.setCells Y 6 (ubs tg)) = w12 at K12 ⊢))
      try (case e5 => (simp only [List.size_toArray, HTL.out A' c']; try rfl))
      have K13 := hid (K12.out.new (Below.refl w12.heap.size w12).drew)
      clear K5 K6 K7 K8 K9 K10 HYS HDX HYI K11 HYJ HTH K12 HAL HLG HDC HMY HSG HPU HCK HTG
      cases r with
      | true =>
        obtain rfl : G = .nilIface := HGE.out
        clear HGE
        refine wp_region_facts 17 17 [74, 75, 76, 77, 78, 79, 80, 81, 82, 83, 84, 85, 86, 87, 88, 89, 90] (fun k v _ => v = tsF D Y .nilIface tg tt true k) (TsY w key C (tkV t AI A' cI c') (tkV t2 A1 A2 c1 c2) (tkV t2 AI A' cI c') D X Y t.o AI A' A1 A2 Ab cI c' c1 c2 pb) (by kernel_rfl) (by kernel_rfl)
          (fun W W' h hb => h.new hb) (fun _ _ _ _ h _ => h) (K13.out) ?_ ?_
        · intro i hi vals W K hB hn hK
          simp only [frm_cons, frm_nil, List.set_cons_succ, List.set_cons_zero, Nat.reduceAdd] at hK ⊢
          rcases (by omega : i = 0 ∨ i = 1 ∨ i = 2 ∨ i = 3 ∨ i = 4 ∨ i = 5 ∨ i = 6 ∨ i = 7 ∨ i = 8 ∨ i = 9 ∨ i = 10 ∨ i = 11 ∨ i = 12 ∨ i = 13 ∨ i = 14 ∨ i = 15 ∨ i = 16) with rfl | rfl | rfl | rfl | rfl | rfl | rfl | rfl | rfl | rfl | rfl | rfl | rfl | rfl | rfl | rfl | rfl
          · refine wpOp_plain rfl rfl (wp_val (w' := W) (v := .nilIface) (by go_simp) ?_)
            exact hK _ _ rfl (Below.refl _ _)
          · have h0 := hn 0 (by decide +kernel)
            simp only [tsF] at h0
            simp only [h0] at hK ⊢
            refine wpOp_plain rfl rfl (wp_val (w' := W) (v := .bool true) (by go_simp) ?_)
            exact hK _ _ rfl (Below.refl _ _)
          · refine wpOp_plain rfl rfl (wp_val (w' := W) (v := .pointer (some ⟨Y, 6, none⟩)) (by go_simp) ?_)
            exact hK _ _ rfl (Below.refl _ _)
          · have h2 := hn 2 (by decide +kernel)
            simp only [tsF] at h2
            simp only [h2] at hK ⊢
            refine wpOp_plain rfl rfl (wp_val (w' := W) (v := .agg (ubs tg).toArray) (run_loadTg (.tmp 76) rfl Y 6 rfl tg (HG2.out _ _ _ _ hB.y) HGL.out) ?_)
            exact hK _ _ rfl (Below.refl _ _)
          · refine wpOp_plain rfl rfl (wp_val (w' := W) (v := .pointer (some ⟨D, 6, none⟩)) (by go_simp) ?_)
            exact hK _ _ rfl (Below.refl _ _)
          · have h4 := hn 4 (by decide +kernel)
            simp only [tsF] at h4
            simp only [h4] at hK ⊢
            refine wpOp_plain rfl rfl (wp_val (w' := W) (v := .agg (ubs tt).toArray) (run_loadTg (.tmp 78) rfl D 6 rfl tt (HG1.out _ _ _ _ hB.x.m.r) HTTL.out) ?_)
            exact hK _ _ rfl (Below.refl _ _)
          · have h3 := hn 3 (by decide +kernel)
            have h5 := hn 5 (by decide +kernel)
            simp only [tsF] at h3 h5
            simp only [h3, h5] at hK ⊢
            refine wpOp_plain rfl rfl (wp_val (w' := W) (v := .bool true) (run_eql16 _ (.tmp 77) (.tmp 79) rfl tg tt HGL.out HTTL.out rfl rfl true hre _) ?_)
            exact hK _ _ rfl (Below.refl _ _)
          · have h1 := hn 1 (by decide +kernel)
            have h6 := hn 6 (by decide +kernel)
            simp only [tsF] at h1 h6
            simp only [h1, h6] at hK ⊢
            refine wpOp_plain rfl rfl (wp_val (w' := W) (v := .bool false) (by go_simp) ?_)
            exact hK _ _ rfl (Below.refl _ _)
          · have h7 := hn 7 (by decide +kernel)
            simp only [tsF] at h7
            simp only [h7] at hK ⊢
            refine wpOp_plain rfl rfl (wp_val (w' := W) (v := .bool false) (by go_simp) ?_)
            exact hK _ _ rfl (Below.refl _ _)
          · have h8 := hn 8 (by decide +kernel)
            simp only [tsF] at h8
            simp only [h8] at hK ⊢
            refine wpOp_on rfl (by rfl) (wp_val (w' := W) (v := .nilIface) (by go_simp) ?_)
            exact hK _ _ rfl (Below.refl _ _)
          · have h8 := hn 8 (by decide +kernel)
            have h9 := hn 9 (by decide +kernel)
            simp only [tsF] at h8 h9
            simp only [h8, h9] at hK ⊢
            refine wpOp_on rfl (by rfl) (wp_val (w' := W) (v := .bool false) (by go_simp) ?_)
            exact hK _ _ rfl (Below.refl _ _)
          · have h8 := hn 8 (by decide +kernel)
            have h10 := hn 10 (by decide +kernel)
            simp only [tsF] at h8 h10
            simp only [h8, h10] at hK ⊢
            refine wpOp_on rfl (by rfl) (wp_val (w' := W) (v := .bool false) (by go_simp) ?_)
            exact hK _ _ rfl (Below.refl _ _)
          · have h11 := hn 11 (by decide +kernel)
            simp only [tsF] at h11
            simp only [h11] at hK ⊢
            refine wpOp_off rfl (by rfl) ?_
            exact hK _ _ rfl (Below.refl _ _)
          · have h11 := hn 11 (by decide +kernel)
            simp only [tsF] at h11
            simp only [h11] at hK ⊢
            refine wpOp_off rfl (by rfl) ?_
            exact hK _ _ rfl (Below.refl _ _)
          · have h11 := hn 11 (by decide +kernel)
            simp only [tsF] at h11
            simp only [h11] at hK ⊢
            refine wpOp_off rfl (by rfl) ?_
            exact hK _ _ rfl (Below.refl _ _)
          · have h8 := hn 8 (by decide +kernel)
            have h11 := hn 11 (by decide +kernel)
            have h14 := hn 14 (by decide +kernel)
            simp only [tsF] at h8 h11 h14
            simp only [h8, h11, h14] at hK ⊢
            refine wpOp_on rfl (by rfl) (wp_val (w' := W) (v := .bool false) (by go_simp) ?_)
            exact hK _ _ rfl (Below.refl _ _)
          · have h8 := hn 8 (by decide +kernel)
            have h15 := hn 15 (by decide +kernel)
            simp only [tsF] at h8 h15
            simp only [h8, h15] at hK ⊢
            refine wpOp_plain rfl rfl (wp_val (w' := W) (v := .bool false) (by go_simp) ?_)
            exact hK _ _ rfl (Below.refl _ _)
        · intro vals W hB hF
          have h16 := hF 16 (by omega)
          simp only [tsF] at h16
          simp only [frm_cons, frm_nil, List.set_cons_succ, List.set_cons_zero, Nat.reduceAdd, h16]
          refine wpUpto_done (by decide +kernel) ?_ _
          have K14a := hid hB
          clear hB hF h16
          go_simp
          go_upto_region 16 with fail
          have K14 := hid (K14a.out.new (Below.refl W.heap.size W).drew)
          clear K14a
          refine wp_region_facts 19 19 [91, 92, 93, 94, 95, 96, 97, 98, 99, 100, 101, 102, 103, 104, 105, 106, 107, 108, 4] (tuF t2 (tkV t2 A1 A2 c1 c2) (tkV t AI A' cI c') (tkV t2 AI A' cI c') A1 Ab c1 cb n pb) (TsY w key C (tkV t AI A' cI c') (tkV t2 A1 A2 c1 c2) (tkV t2 AI A' cI c') D X Y t.o AI A' A1 A2 Ab cI c' c1 c2 pb) (by kernel_rfl) (by kernel_rfl)
            (fun W W' h hb => h.new hb) (fun _ _ _ _ h hb => tuF_new h hb) (K14.out) ?_ ?_
          · intro i hi vals W K hB hn hK
            simp only [frm_cons, frm_nil, List.set_cons_succ, List.set_cons_zero, Nat.reduceAdd] at hK ⊢
            rcases (by omega : i = 0 ∨ i = 1 ∨ i = 2 ∨ i = 3 ∨ i = 4 ∨ i = 5 ∨ i = 6 ∨ i = 7 ∨ i = 8 ∨ i = 9 ∨ i = 10 ∨ i = 11 ∨ i = 12 ∨ i = 13 ∨ i = 14 ∨ i = 15 ∨ i = 16 ∨ i = 17 ∨ i = 18) with rfl | rfl | rfl | rfl | rfl | rfl | rfl | rfl | rfl | rfl | rfl | rfl | rfl | rfl | rfl | rfl | rfl | rfl | rfl
            · refine wpOp_plain rfl rfl (wp_val (w' := W) (v := .nilIface) (by go_simp) ?_)
              exact hK _ _ rfl (Below.refl _ _)
            · have h0 := hn 0 (by decide +kernel)
              simp only [tuF] at h0
              simp only [h0] at hK ⊢
              refine wpOp_plain rfl rfl (wp_val (w' := W) (v := .bool true) (by go_simp) ?_)
              exact hK _ _ rfl (Below.refl _ _)
            · have h1 := hn 1 (by decide +kernel)
              simp only [tuF] at h1
              simp only [h1] at hK ⊢
              refine wpOp_plain rfl rfl (wp_val (w' := W) (v := .bool true) (by go_simp) ?_)
              exact hK _ _ rfl (Below.refl _ _)
            · have h2 := hn 2 (by decide +kernel)
              simp only [tuF] at h2
              simp only [h2] at hK ⊢
              refine wpOp_on rfl (by rfl) (wp_val (w' := W) (v := .nilIface) (by go_simp) ?_)
              exact hK _ _ rfl (Below.refl _ _)
            · have h2 := hn 2 (by decide +kernel)
              have h3 := hn 3 (by decide +kernel)
              simp only [tuF] at h2 h3
              simp only [h2, h3] at hK ⊢
              refine wpOp_on rfl (by rfl) (wp_val (w' := W) (v := .bool true) (by go_simp) ?_)
              exact hK _ _ rfl (Below.refl _ _)
            · have h2 := hn 2 (by decide +kernel)
              have h4 := hn 4 (by decide +kernel)
              simp only [tuF] at h2 h4
              simp only [h2, h4] at hK ⊢
              refine wpOp_plain rfl rfl (wp_val (w' := W) (v := .bool true) (by go_simp) ?_)
              exact hK _ _ rfl (Below.refl _ _)
            · have h5 := hn 5 (by decide +kernel)
              simp only [tuF] at h5
              simp only [h5] at hK ⊢
              refine wpOp_plain rfl rfl (wp_val (w' := W) (v := .bool true) (by go_simp) ?_)
              exact hK _ _ rfl (Below.refl _ _)
            · have h6 := hn 6 (by decide +kernel)
              simp only [tuF] at h6
              simp only [h6] at hK ⊢
              refine wpOp_on rfl (by rfl) (wp_val (w' := W) (v := .agg (tkV t2 A1 A2 c1 c2).toArray) (run_loadPT (.tmp 7) rfl X rfl (tkV t2 A1 A2 c1 c2) 105 hB.x.s (HTS.out A1 A2 c1 c2)) ?_)
              exact hK _ _ rfl (Below.refl _ _)
            · have h6 := hn 6 (by decide +kernel)
              have h7 := hn 7 (by decide +kernel)
              simp only [tuF] at h6 h7
              simp only [h6, h7] at hK ⊢
              refine wpOp_on rfl (by rfl) ?_
              go_simp
              go_at_call 57
              refine (HD2.out A1 A2 c1 c2 W hB.x.j).mono ?_
              rintro e1 W' ⟨A9, c9, rfl, hx, hb⟩
              exact hK _ _ ⟨A9, c9, rfl, hx⟩ hb
            · have h6 := hn 6 (by decide +kernel)
              simp only [tuF] at h6
              simp only [h6] at hK ⊢
              refine wpOp_on rfl (by rfl) (wp_val (w' := W) (v := .agg (tkV t2 AI A' cI c').toArray) (run_loadT13 (.tmp 12) rfl Y rfl (tkV t2 AI A' cI c') 107 hB.y (HTS.out AI A' cI c')) ?_)
              exact hK _ _ rfl (Below.refl _ _)
            · have h6 := hn 6 (by decide +kernel)
              have h8 := hn 8 (by decide +kernel)
              have h9 := hn 9 (by decide +kernel)
              simp only [tuF] at h6 h9
              obtain ⟨A9, c9, e8, I9⟩ := h8
              simp only [h6, e8, h9] at hK ⊢
              refine wpOp_on rfl (by rfl) ?_
              go_simp
              go_at_call 64
              refine (HRS.out A1 A9 c1 c9 A' c' W I9 hB.x.m.i).mono ?_
              rintro e1 W' ⟨rfl, hb⟩
              exact hK _ _ rfl hb
            · have h6 := hn 6 (by decide +kernel)
              have h10 := hn 10 (by decide +kernel)
              simp only [tuF] at h6 h10
              simp only [h6, h10] at hK ⊢
              refine wpOp_plain rfl rfl (wp_val (w' := W) (v := .bool true) (by go_simp) ?_)
              exact hK _ _ rfl (Below.refl _ _)
            · have h11 := hn 11 (by decide +kernel)
              simp only [tuF] at h11
              simp only [h11] at hK ⊢
              refine wpOp_plain rfl rfl (wp_val (w' := W) (v := .bool true) (by go_simp) ?_)
              exact hK _ _ rfl (Below.refl _ _)
            · have h12 := hn 12 (by decide +kernel)
              simp only [tuF] at h12
              simp only [h12] at hK ⊢
              refine wpOp_on rfl (by rfl) (wp_val (w' := W) (v := .slice Ab n cb) (by go_simp) ?_)
              exact hK _ _ rfl (Below.refl _ _)
            · have h12 := hn 12 (by decide +kernel)
              simp only [tuF] at h12
              simp only [h12] at hK ⊢
              refine wpOp_on rfl (by rfl) (wp_val (w' := W) (v := .agg (tkV t AI A' cI c').toArray) (run_loadT13 (.tmp 5) rfl D rfl (tkV t AI A' cI c') 107 hB.x.m.r (HTL.out A' c')) ?_)
              exact hK _ _ rfl (Below.refl _ _)
            · have h12 := hn 12 (by decide +kernel)
              have h14 := hn 14 (by decide +kernel)
              simp only [tuF] at h12 h14
              simp only [h12, h14] at hK ⊢
              refine wpOp_on rfl (by rfl) ?_
              go_simp
              go_at_call 65
              refine (HRP.out A' c' W hB.x.m.i).mono ?_
              rintro e1 W' ⟨B, d, rfl, hx, hb⟩
              exact hK _ _ ⟨B, d, rfl, hx⟩ hb
            · have h12 := hn 12 (by decide +kernel)
              have h13 := hn 13 (by decide +kernel)
              have h15 := hn 15 (by decide +kernel)
              simp only [tuF] at h12 h13
              obtain ⟨B15, d15, e15, R15⟩ := h15
              simp only [h12, h13, e15] at hK ⊢
              refine wpOp_on rfl (by rfl) ?_
              go_simp
              go_at_call 15
              refine (HBY.out W Ab B15 cb d15 hB.b R15).mono ?_
              rintro e1 W' ⟨rfl, rfl⟩
              exact hK _ _ rfl (Below.refl _ _)
            · have h12 := hn 12 (by decide +kernel)
              have h16 := hn 16 (by decide +kernel)
              simp only [tuF] at h12 h16
              simp only [h12, h16] at hK ⊢
              refine wpOp_plain rfl rfl (wp_val (w' := W) (v := .bool true) (by go_simp) ?_)
              exact hK _ _ rfl (Below.refl _ _)
            · have h17 := hn 17 (by decide +kernel)
              simp only [tuF] at h17
              simp only [h17] at hK ⊢
              refine wpOp_plain rfl rfl (wp_val (w' := W) (v := .bool true) (by go_simp) ?_)
              exact hK _ _ rfl (Below.refl _ _)
          · intro vals W hB hF
            have h18 := hF 18 (by omega)
            simp only [tuF] at h18
            simp only [frm_cons, frm_nil, List.set_cons_succ, List.set_cons_zero, Nat.reduceAdd, h18]
            refine wpUpto_done (by decide +kernel) ?_ _
            have K15 := hid hB
            clear hB hF h18
            go_simp
            go_wp2
            go_ret
            exact ⟨rfl, K15.out.x.m.bl⟩
          
      | false =>
        obtain rfl : G = .iface 49 (.int .i64 4) := HGE.out
        clear HGE
        refine wp_region_facts 17 17 [74, 75, 76, 77, 78, 79, 80, 81, 82, 83, 84, 85, 86, 87, 88, 89, 90] (fun k v _ => v = tsF D Y (.iface 49 (.int .i64 4)) tg tt false k) (TsY w key C (tkV t AI A' cI c') (tkV t2 A1 A2 c1 c2) (tkV t2 AI A' cI c') D X Y t.o AI A' A1 A2 Ab cI c' c1 c2 pb) (by kernel_rfl) (by kernel_rfl)
          (fun W W' h hb => h.new hb) (fun _ _ _ _ h _ => h) (K13.out) ?_ ?_
        · intro i hi vals W K hB hn hK
          simp only [frm_cons, frm_nil, List.set_cons_succ, List.set_cons_zero, Nat.reduceAdd] at hK ⊢
          rcases (by omega : i = 0 ∨ i = 1 ∨ i = 2 ∨ i = 3 ∨ i = 4 ∨ i = 5 ∨ i = 6 ∨ i = 7 ∨ i = 8 ∨ i = 9 ∨ i = 10 ∨ i = 11 ∨ i = 12 ∨ i = 13 ∨ i = 14 ∨ i = 15 ∨ i = 16) with rfl | rfl | rfl | rfl | rfl | rfl | rfl | rfl | rfl | rfl | rfl | rfl | rfl | rfl | rfl | rfl | rfl
          · refine wpOp_plain rfl rfl (wp_val (w' := W) (v := .iface 49 (.int .i64 4)) (by go_simp) ?_)
            exact hK _ _ rfl (Below.refl _ _)
          · have h0 := hn 0 (by decide +kernel)
            simp only [tsF] at h0
            simp only [h0] at hK ⊢
            refine wpOp_plain rfl rfl (wp_val (w' := W) (v := .bool false) (by go_simp) ?_)
            exact hK _ _ rfl (Below.refl _ _)
          · refine wpOp_plain rfl rfl (wp_val (w' := W) (v := .pointer (some ⟨Y, 6, none⟩)) (by go_simp) ?_)
            exact hK _ _ rfl (Below.refl _ _)
          · have h2 := hn 2 (by decide +kernel)
            simp only [tsF] at h2
            simp only [h2] at hK ⊢
            refine wpOp_plain rfl rfl (wp_val (w' := W) (v := .agg (ubs tg).toArray) (run_loadTg (.tmp 76) rfl Y 6 rfl tg (HG2.out _ _ _ _ hB.y) HGL.out) ?_)
            exact hK _ _ rfl (Below.refl _ _)
          · refine wpOp_plain rfl rfl (wp_val (w' := W) (v := .pointer (some ⟨D, 6, none⟩)) (by go_simp) ?_)
            exact hK _ _ rfl (Below.refl _ _)
          · have h4 := hn 4 (by decide +kernel)
            simp only [tsF] at h4
            simp only [h4] at hK ⊢
            refine wpOp_plain rfl rfl (wp_val (w' := W) (v := .agg (ubs tt).toArray) (run_loadTg (.tmp 78) rfl D 6 rfl tt (HG1.out _ _ _ _ hB.x.m.r) HTTL.out) ?_)
            exact hK _ _ rfl (Below.refl _ _)
          · have h3 := hn 3 (by decide +kernel)
            have h5 := hn 5 (by decide +kernel)
            simp only [tsF] at h3 h5
            simp only [h3, h5] at hK ⊢
            refine wpOp_plain rfl rfl (wp_val (w' := W) (v := .bool false) (run_eql16 _ (.tmp 77) (.tmp 79) rfl tg tt HGL.out HTTL.out rfl rfl false hre _) ?_)
            exact hK _ _ rfl (Below.refl _ _)
          · have h1 := hn 1 (by decide +kernel)
            have h6 := hn 6 (by decide +kernel)
            simp only [tsF] at h1 h6
            simp only [h1, h6] at hK ⊢
            refine wpOp_plain rfl rfl (wp_val (w' := W) (v := .bool false) (by go_simp) ?_)
            exact hK _ _ rfl (Below.refl _ _)
          · have h7 := hn 7 (by decide +kernel)
            simp only [tsF] at h7
            simp only [h7] at hK ⊢
            refine wpOp_plain rfl rfl (wp_val (w' := W) (v := .bool false) (by go_simp) ?_)
            exact hK _ _ rfl (Below.refl _ _)
          · have h8 := hn 8 (by decide +kernel)
            simp only [tsF] at h8
            simp only [h8] at hK ⊢
            refine wpOp_on rfl (by rfl) (wp_val (w' := W) (v := .iface 49 (.int .i64 4)) (by go_simp) ?_)
            exact hK _ _ rfl (Below.refl _ _)
          · have h8 := hn 8 (by decide +kernel)
            have h9 := hn 9 (by decide +kernel)
            simp only [tsF] at h8 h9
            simp only [h8, h9] at hK ⊢
            refine wpOp_on rfl (by rfl) (wp_val (w' := W) (v := .bool true) (by go_simp) ?_)
            exact hK _ _ rfl (Below.refl _ _)
          · have h8 := hn 8 (by decide +kernel)
            have h10 := hn 10 (by decide +kernel)
            simp only [tsF] at h8 h10
            simp only [h8, h10] at hK ⊢
            refine wpOp_on rfl (by rfl) (wp_val (w' := W) (v := .bool true) (by go_simp) ?_)
            exact hK _ _ rfl (Below.refl _ _)
          · have h11 := hn 11 (by decide +kernel)
            simp only [tsF] at h11
            simp only [h11] at hK ⊢
            refine wpOp_on rfl (by rfl) (wp_val (w' := W) (v := .iface 49 (.int .i64 4)) (by go_simp) ?_)
            exact hK _ _ rfl (Below.refl _ _)
          · have h11 := hn 11 (by decide +kernel)
            have h12 := hn 12 (by decide +kernel)
            simp only [tsF] at h11 h12
            simp only [h11, h12] at hK ⊢
            refine wpOp_on rfl (by rfl) ?_
            go_simp
            go_at_call 22
            refine (HIS.out W).mono ?_
            rintro e1 W' ⟨rfl, rfl⟩
            exact hK _ _ rfl (Below.refl _ _)
          · have h11 := hn 11 (by decide +kernel)
            have h13 := hn 13 (by decide +kernel)
            simp only [tsF] at h11 h13
            simp only [h11, h13] at hK ⊢
            refine wpOp_on rfl (by rfl) (wp_val (w' := W) (v := .bool false) (by go_simp) ?_)
            exact hK _ _ rfl (Below.refl _ _)
          · have h8 := hn 8 (by decide +kernel)
            have h11 := hn 11 (by decide +kernel)
            have h14 := hn 14 (by decide +kernel)
            simp only [tsF] at h8 h11 h14
            simp only [h8, h11, h14] at hK ⊢
            refine wpOp_on rfl (by rfl) (wp_val (w' := W) (v := .bool false) (by go_simp) ?_)
            exact hK _ _ rfl (Below.refl _ _)
          · have h8 := hn 8 (by decide +kernel)
            have h15 := hn 15 (by decide +kernel)
            simp only [tsF] at h8 h15
            simp only [h8, h15] at hK ⊢
            refine wpOp_plain rfl rfl (wp_val (w' := W) (v := .bool false) (by go_simp) ?_)
            exact hK _ _ rfl (Below.refl _ _)
        · intro vals W hB hF
          have h16 := hF 16 (by omega)
          simp only [tsF] at h16
          simp only [frm_cons, frm_nil, List.set_cons_succ, List.set_cons_zero, Nat.reduceAdd, h16]
          refine wpUpto_done (by decide +kernel) ?_ _
          have K14a := hid hB
          clear hB hF h16
          go_simp
          go_upto_region 16 with fail
          have K14 := hid (K14a.out.new (Below.refl W.heap.size W).drew)
          clear K14a
          refine wp_region_facts 19 19 [91, 92, 93, 94, 95, 96, 97, 98, 99, 100, 101, 102, 103, 104, 105, 106, 107, 108, 4] (tuF t2 (tkV t2 A1 A2 c1 c2) (tkV t AI A' cI c') (tkV t2 AI A' cI c') A1 Ab c1 cb n pb) (TsY w key C (tkV t AI A' cI c') (tkV t2 A1 A2 c1 c2) (tkV t2 AI A' cI c') D X Y t.o AI A' A1 A2 Ab cI c' c1 c2 pb) (by kernel_rfl) (by kernel_rfl)
            (fun W W' h hb => h.new hb) (fun _ _ _ _ h hb => tuF_new h hb) (K14.out) ?_ ?_
          · intro i hi vals W K hB hn hK
            simp only [frm_cons, frm_nil, List.set_cons_succ, List.set_cons_zero, Nat.reduceAdd] at hK ⊢
            rcases (by omega : i = 0 ∨ i = 1 ∨ i = 2 ∨ i = 3 ∨ i = 4 ∨ i = 5 ∨ i = 6 ∨ i = 7 ∨ i = 8 ∨ i = 9 ∨ i = 10 ∨ i = 11 ∨ i = 12 ∨ i = 13 ∨ i = 14 ∨ i = 15 ∨ i = 16 ∨ i = 17 ∨ i = 18) with rfl | rfl | rfl | rfl | rfl | rfl | rfl | rfl | rfl | rfl | rfl | rfl | rfl | rfl | rfl | rfl | rfl | rfl | rfl
            · refine wpOp_plain rfl rfl (wp_val (w' := W) (v := .nilIface) (by go_simp) ?_)
              exact hK _ _ rfl (Below.refl _ _)
            · have h0 := hn 0 (by decide +kernel)
              simp only [tuF] at h0
              simp only [h0] at hK ⊢
              refine wpOp_plain rfl rfl (wp_val (w' := W) (v := .bool true) (by go_simp) ?_)
              exact hK _ _ rfl (Below.refl _ _)
            · have h1 := hn 1 (by decide +kernel)
              simp only [tuF] at h1
              simp only [h1] at hK ⊢
              refine wpOp_plain rfl rfl (wp_val (w' := W) (v := .bool true) (by go_simp) ?_)
              exact hK _ _ rfl (Below.refl _ _)
            · have h2 := hn 2 (by decide +kernel)
              simp only [tuF] at h2
              simp only [h2] at hK ⊢
              refine wpOp_on rfl (by rfl) (wp_val (w' := W) (v := .nilIface) (by go_simp) ?_)
              exact hK _ _ rfl (Below.refl _ _)
            · have h2 := hn 2 (by decide +kernel)
              have h3 := hn 3 (by decide +kernel)
              simp only [tuF] at h2 h3
              simp only [h2, h3] at hK ⊢
              refine wpOp_on rfl (by rfl) (wp_val (w' := W) (v := .bool true) (by go_simp) ?_)
              exact hK _ _ rfl (Below.refl _ _)
            · have h2 := hn 2 (by decide +kernel)
              have h4 := hn 4 (by decide +kernel)
              simp only [tuF] at h2 h4
              simp only [h2, h4] at hK ⊢
              refine wpOp_plain rfl rfl (wp_val (w' := W) (v := .bool true) (by go_simp) ?_)
              exact hK _ _ rfl (Below.refl _ _)
            · have h5 := hn 5 (by decide +kernel)
              simp only [tuF] at h5
              simp only [h5] at hK ⊢
              refine wpOp_plain rfl rfl (wp_val (w' := W) (v := .bool true) (by go_simp) ?_)
              exact hK _ _ rfl (Below.refl _ _)
            · have h6 := hn 6 (by decide +kernel)
              simp only [tuF] at h6
              simp only [h6] at hK ⊢
              refine wpOp_on rfl (by rfl) (wp_val (w' := W) (v := .agg (tkV t2 A1 A2 c1 c2).toArray) (run_loadPT (.tmp 7) rfl X rfl (tkV t2 A1 A2 c1 c2) 105 hB.x.s (HTS.out A1 A2 c1 c2)) ?_)
              exact hK _ _ rfl (Below.refl _ _)
            · have h6 := hn 6 (by decide +kernel)
              have h7 := hn 7 (by decide +kernel)
              simp only [tuF] at h6 h7
              simp only [h6, h7] at hK ⊢
              refine wpOp_on rfl (by rfl) ?_
              go_simp
              go_at_call 57
              refine (HD2.out A1 A2 c1 c2 W hB.x.j).mono ?_
              rintro e1 W' ⟨A9, c9, rfl, hx, hb⟩
              exact hK _ _ ⟨A9, c9, rfl, hx⟩ hb
            · have h6 := hn 6 (by decide +kernel)
              simp only [tuF] at h6
              simp only [h6] at hK ⊢
              refine wpOp_on rfl (by rfl) (wp_val (w' := W) (v := .agg (tkV t2 AI A' cI c').toArray) (run_loadT13 (.tmp 12) rfl Y rfl (tkV t2 AI A' cI c') 107 hB.y (HTS.out AI A' cI c')) ?_)
              exact hK _ _ rfl (Below.refl _ _)
            · have h6 := hn 6 (by decide +kernel)
              have h8 := hn 8 (by decide +kernel)
              have h9 := hn 9 (by decide +kernel)
              simp only [tuF] at h6 h9
              obtain ⟨A9, c9, e8, I9⟩ := h8
              simp only [h6, e8, h9] at hK ⊢
              refine wpOp_on rfl (by rfl) ?_
              go_simp
              go_at_call 64
              refine (HRS.out A1 A9 c1 c9 A' c' W I9 hB.x.m.i).mono ?_
              rintro e1 W' ⟨rfl, hb⟩
              exact hK _ _ rfl hb
            · have h6 := hn 6 (by decide +kernel)
              have h10 := hn 10 (by decide +kernel)
              simp only [tuF] at h6 h10
              simp only [h6, h10] at hK ⊢
              refine wpOp_plain rfl rfl (wp_val (w' := W) (v := .bool true) (by go_simp) ?_)
              exact hK _ _ rfl (Below.refl _ _)
            · have h11 := hn 11 (by decide +kernel)
              simp only [tuF] at h11
              simp only [h11] at hK ⊢
              refine wpOp_plain rfl rfl (wp_val (w' := W) (v := .bool true) (by go_simp) ?_)
              exact hK _ _ rfl (Below.refl _ _)
            · have h12 := hn 12 (by decide +kernel)
              simp only [tuF] at h12
              simp only [h12] at hK ⊢
              refine wpOp_on rfl (by rfl) (wp_val (w' := W) (v := .slice Ab n cb) (by go_simp) ?_)
              exact hK _ _ rfl (Below.refl _ _)
            · have h12 := hn 12 (by decide +kernel)
              simp only [tuF] at h12
              simp only [h12] at hK ⊢
              refine wpOp_on rfl (by rfl) (wp_val (w' := W) (v := .agg (tkV t AI A' cI c').toArray) (run_loadT13 (.tmp 5) rfl D rfl (tkV t AI A' cI c') 107 hB.x.m.r (HTL.out A' c')) ?_)
              exact hK _ _ rfl (Below.refl _ _)
            · have h12 := hn 12 (by decide +kernel)
              have h14 := hn 14 (by decide +kernel)
              simp only [tuF] at h12 h14
              simp only [h12, h14] at hK ⊢
              refine wpOp_on rfl (by rfl) ?_
              go_simp
              go_at_call 65
              refine (HRP.out A' c' W hB.x.m.i).mono ?_
              rintro e1 W' ⟨B, d, rfl, hx, hb⟩
              exact hK _ _ ⟨B, d, rfl, hx⟩ hb
            · have h12 := hn 12 (by decide +kernel)
              have h13 := hn 13 (by decide +kernel)
              have h15 := hn 15 (by decide +kernel)
              simp only [tuF] at h12 h13
              obtain ⟨B15, d15, e15, R15⟩ := h15
              simp only [h12, h13, e15] at hK ⊢
              refine wpOp_on rfl (by rfl) ?_
              go_simp
              go_at_call 15
              refine (HBY.out W Ab B15 cb d15 hB.b R15).mono ?_
              rintro e1 W' ⟨rfl, rfl⟩
              exact hK _ _ rfl (Below.refl _ _)
            · have h12 := hn 12 (by decide +kernel)
              have h16 := hn 16 (by decide +kernel)
              simp only [tuF] at h12 h16
              simp only [h12, h16] at hK ⊢
              refine wpOp_plain rfl rfl (wp_val (w' := W) (v := .bool true) (by go_simp) ?_)
              exact hK _ _ rfl (Below.refl _ _)
            · have h17 := hn 17 (by decide +kernel)
              simp only [tuF] at h17
              simp only [h17] at hK ⊢
              refine wpOp_plain rfl rfl (wp_val (w' := W) (v := .bool true) (by go_simp) ?_)
              exact hK _ _ rfl (Below.refl _ _)
          · intro vals W hB hF
            have h18 := hF 18 (by omega)
            simp only [tuF] at h18
            simp only [frm_cons, frm_nil, List.set_cons_succ, List.set_cons_zero, Nat.reduceAdd, h18]
            refine wpUpto_done (by decide +kernel) ?_ _
            have K15 := hid hB
            clear hB hF h18
            go_simp
            go_wp2
            go_ret
            exact ⟨rfl, K15.out.x.m.bl⟩
          
    · have e1 : errV mm = .iface 49 (.int .i64 mm) := errV_pos h0
      have hm0 : mayN t ≠ 0 := by rw [← hmm]; exact h0
      have HSG := hid (fun (V : World) (hb : Below w.heap.size w V) => show Calls Tryd.prog 59 #[.agg (ubs key).toArray, .int .u64 (t.prev : Int), .int .u64 (t.epoch : Int), .agg O.toArray] V (fun r w' => r = .returned (.tuple #[.agg (tkV tk0 none none 0 0).toArray, .iface 49 (.int .i64 mm)]) ∧ Below V.heap.size V w') from by
        have := psign13_no key t.prev t.epoch t.o AI AS cI cS V hk.1 hk.2.1 hk.2.2.1 (hm.later hb) (by omega) (by rw [hmt]; exact h0)
        rw [hmt, e1, ← hO] at this
        exact this)
      have HPU := hid (fun (V : World) (hb : Below w.heap.size w V) => show Calls Tryd.prog 60 #[.agg C.toArray] V (fun r w' => r = .returned (.tuple #[.slice none 0 0, .iface 49 (.int .i64 mm)]) ∧ Below V.heap.size V w') from by
        have := pput13_no t AI AS cI cS V hk (hm.later hb) (by omega) hm0
        rw [← hmm, e1, ← hC] at this
        exact this)
      have HCK := hid (fun (V : World) (hb : Below w.heap.size w V) => show Calls Tryd.prog 61 #[.agg (ubs key).toArray, .agg C.toArray] V (fun r w' => r = .returned (.iface 49 (.int .i64 mm)) ∧ Below V.heap.size V w') from by
        have := pcheck13_no key t AI AS cI cS V hk (hm.later hb) (by omega) hm0
        rw [← hmm, e1, ← hC] at this
        exact this)
      have HNM := hid (fun V => show Calls Tryd.prog 26 #[.iface 49 (.int .i64 mm)] V (fun e w' => e = .returned (.int .i64 mm) ∧ V = w') from by
        have := enum_any mm V
        rw [e1] at this
        exact this)
      have HSM := hid (fun (V : World) => show Calls Tryd.prog 62 #[.agg (tkV tk0 none none 0 0).toArray, .agg (tkV tk0 none none 0 0).toArray] V (fun r w' => r = .returned (.bool true) ∧ Below V.heap.size V w') from by
        have := psame13_any tk0 tk0 none none none none 0 0 0 0 V okT_tk0 okT_tk0 (oi_tk0 _ _) (oi_tk0 _ _) (by decide) (by decide)
        rwa [show decide (tk0 = tk0) = true from decide_eq_true rfl] at this)
      obtain ⟨Z, hZ⟩ : ∃ Z, Z = tkV tk0 none none 0 0 := ⟨_, rfl⟩
      have HZL := hid (show Z.length = 22 by rw [hZ]; rfl)
      have HZA := hid (show Z.toArray.all (·.oneCell') = true by rw [hZ]; exact tkV_all _ _ _ _ _)
      have HBZ := hid (fun (o : Oper) (a : Go.Act) (W : World) (h : o.op = .build 105 #[]) => show (execOp a.eval o).run Tryd.prog W = .ok (.value (.agg Z.toArray)) W from by rw [hZ]; exact run_build_pt0 h)
      have HZE := hid hZ
      rw [← hZ] at HSG HSM
      have m0 : ((mm : Int) != 0) = true := by simp; omega
      have m0b : ((mm : Int) == 0) = false := by simp; omega
      have m0c : decide ((mm : Int) = 0) = false := by simp; omega
      have m0d : ((mm : Int) == (mm : Int)) = true := by simp
      have m0e : decide ((mm : Int) = (mm : Int)) = true := by simp
      clear hO hC hk hm hT hR hI hlg hi3 hs3 hmm hmt hkl h0 e1 hm0 hZ
      go_enter Tryd.func10, Tryd.ntmps10
      go_upto_region 7 with (first
        | (go_at_call 48; refine (HAL.out _ K0.out.bl).mono ?_; rintro r1 w1 ⟨rfl, h1⟩; have K1 := hid (K0.out.new h1); clear h1)
        | (refine wpList_valW (by rfl) (run_loadPO (.tmp 15) rfl (w.heap.size + 1) 2 rfl O (HPC.out _ K1.out.c).2 HOL.out) ?_; try simp only [Act.put, List.setIfInBounds_toArray, List.set_cons_succ, List.set_cons_zero])
        | (go_at_call 49; refine (HLG.out w1).mono ?_; rintro r2 w2 ⟨rfl, h2⟩; have K2 := hid (K1.out.new h2); clear h2)
        | (refine wpList_valW (by rfl) (run_loadPT (.tmp 3) rfl (w.heap.size + 1) rfl C 105 K2.out.c HCL.out) ?_; try simp only [Act.put, List.setIfInBounds_toArray, List.set_cons_succ, List.set_cons_zero])
        | (go_at_call 57; refine (HDC.out w2 K2.out.bl).mono ?_; rintro r3 w3 ⟨A', c', rfl, hi3, h3⟩; have K3 := hid (And.intro (K2.out.new h3) hi3); clear h3 hi3)
        | (refine Great.wpList_allocTo rfl _ rfl _ _ (HAT.out _ _ _ rfl) ?_)
        | (refine wpList_store_row rfl _ (.tmp 5) (.tmp 19) rfl w3.heap.size (tkV t AI A' cI c').toArray rfl rfl 107 (tkV tk0 none none 0 0).toArray (heap_alloc_new _ _) (sizeT13_of (HTL.out A' c')) ((show (tkV tk0 none none 0 0).length = 22 from rfl).trans (HTL.out A' c').symm) (HTA.out A' c') ?_; have K4 := hid (show TsW w key C (tkV t AI A' cI c') w3.heap.size t.o AI A' cI c' ((w3.alloc (.cells (tkV tk0 none none 0 0).toArray 107)).setRow w3.heap.size (tkV t AI A' cI c').toArray) from ⟨K3.out.1.bl.trans ((rt_stored_below w3 _).mono K3.out.1.bl.size), K3.out.1.k.new_ (rt_stored_below w3 _), K3.out.1.c.new_ (rt_stored_below w3 _), rt_stored w3 _, K3.out.2.later (rt_stored_below w3 _)⟩); generalize ((w3.alloc (.cells (tkV tk0 none none 0 0).toArray 107)).setRow w3.heap.size (tkV t AI A' cI c').toArray) = w4 at K4 ⊢; generalize w3.heap.size = D at K4 ⊢)
        | (refine wpList_valW (by rfl) (run_loadT13 (.tmp 5) rfl D rfl (tkV t AI A' cI c') 107 K4.out.r (HTL.out A' c')) ?_; try simp only [Act.put, List.setIfInBounds_toArray, List.set_cons_succ, List.set_cons_zero])
        | (go_at_call 58; refine (HMY.out A' c' w4 K4.out.i).mono ?_; rintro r5 w5 ⟨rfl, h5⟩; have K5 := hid (K4.out.new h5); clear h5; obtain ⟨⟨q0, q1⟩, -⟩ := HPC.out _ K5.out.o))
      clear K0 K1 K2 K3 K4
      go_wp2_with (first
        | (refine wpList_valW (by rfl) (run_loadH (.tmp 2) rfl w.heap.size 0 rfl key (range_whole K5.out.k) HKL.out) ?_; try simp only [Act.put, List.setIfInBounds_toArray, List.set_cons_succ, List.set_cons_zero])
        | (refine wpList_valW (by rfl) (run_loadPO (.tmp 28) rfl (w.heap.size + 1) 2 rfl O (HPC.out _ K5.out.o).2 HOL.out) ?_; try simp only [Act.put, List.setIfInBounds_toArray, List.set_cons_succ, List.set_cons_zero])
        | (go_at_call 59; refine (HSG.out w5 K5.out.bl).mono ?_; rintro r6 w6 ⟨rfl, h6⟩; have K6 := hid (K5.out.new h6); clear h6 q0 q1)
        | (refine Great.wpList_allocTo rfl _ rfl _ _ (HAP.out _ _ _ rfl) ?_)
        | (refine wpList_store_row rfl _ (.tmp 7) (.tmp 31) rfl w6.heap.size Z.toArray rfl rfl 105 (tkV tk0 none none 0 0).toArray (heap_alloc_new _ _) (sizePT_of HZL.out) ((show (tkV tk0 none none 0 0).length = 22 from rfl).trans (HZL.out).symm) HZA.out ?_; have K7 := hid (show TsW w key C (tkV t AI A' cI c') D t.o AI A' cI c' ((w6.alloc (.cells (tkV tk0 none none 0 0).toArray 105)).setRow w6.heap.size Z.toArray) ∧ At ((w6.alloc (.cells (tkV tk0 none none 0 0).toArray 105)).setRow w6.heap.size Z.toArray) w6.heap.size Z.toArray 105 from ⟨K6.out.new (pt_stored_below w6 Z), pt_stored w6 Z⟩); generalize ((w6.alloc (.cells (tkV tk0 none none 0 0).toArray 105)).setRow w6.heap.size Z.toArray) = w7 at K7 ⊢; generalize w6.heap.size = X at K7 ⊢)
        | (refine wpList_valW (by rfl) (run_loadPT (.tmp 3) rfl (w.heap.size + 1) rfl C 105 K7.out.1.o HCL.out) ?_; try simp only [Act.put, List.setIfInBounds_toArray, List.set_cons_succ, List.set_cons_zero])
        | (go_at_call 60; refine (HPU.out w7 K7.out.1.bl).mono ?_; rintro r8 w8 ⟨rfl, h8⟩; have K8 := hid (And.intro (K7.out.1.new h8) (K7.out.2.new_ h8)); clear h8)
        | (refine wpList_valW (by rfl) (run_loadH (.tmp 2) rfl w.heap.size 0 rfl key (range_whole K8.out.1.k) HKL.out) ?_; try simp only [Act.put, List.setIfInBounds_toArray, List.set_cons_succ, List.set_cons_zero])
        | (refine wpList_valW (by rfl) (run_loadPT (.tmp 3) rfl (w.heap.size + 1) rfl C 105 K8.out.1.o HCL.out) ?_; try simp only [Act.put, List.setIfInBounds_toArray, List.set_cons_succ, List.set_cons_zero])
        | (go_at_call 61; refine (HCK.out w8 K8.out.1.bl).mono ?_; rintro r9 w9 ⟨rfl, h9⟩; have K9 := hid (And.intro (K8.out.1.new h9) (K8.out.2.new_ h9)); clear h9)
        | (go_at_call 26; refine (HNM.out _).mono ?_; rintro r10 w10 ⟨rfl, hw10⟩; rw [← hw10]; clear hw10)
        | (refine wpList_valW (by rfl) (run_loadPT (.tmp 7) rfl X rfl Z 105 K9.out.2 HZL.out) ?_; try simp only [Act.put, List.setIfInBounds_toArray, List.set_cons_succ, List.set_cons_zero])
        | (refine wpList_valW (by rfl) (HBZ.out _ _ _ rfl) ?_; try simp only [Act.put, List.setIfInBounds_toArray, List.set_cons_succ, List.set_cons_zero])
        | (go_at_call 62; refine (HSM.out w9).mono ?_; rintro r11 w11 ⟨rfl, h11⟩; have K11 := hid (K9.out.1.new h11); clear h11))
      go_ret
      exact ⟨rfl, K11.out.bl⟩
end Go.Proofs.YtfmbpdjcoopaeaaDoor
