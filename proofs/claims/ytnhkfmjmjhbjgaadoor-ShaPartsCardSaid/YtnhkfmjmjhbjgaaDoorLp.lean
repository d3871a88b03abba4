/-
  ShaParts, walked.
-/
import Derived.Test.YtnhkfmjmjhbjgaaDoorCc
namespace Go.Proofs.YtnhkfmjmjhbjgaaDoor
open Go.RowKit

theorem joined3 (p q r : Part) : joined [p, q, r] = p.bs ++ q.bs ++ r.bs := by unfold joined; simp
theorem joined1 (p : Part) : joined [p] = p.bs := by unfold joined; simp
theorem joined0 : joined [] = [] := by unfold joined; rfl
/-- A literal of parts as it lies. -/
theorem rd_parts (w : World) (ps : List Part) : Rd (w.alloc (.cells (ps.map Part.v).toArray 22)) (w.alloc (.cells (ps.map Part.v).toArray 22)).heap.size (some ⟨w.heap.size, 0, none⟩) (ps.map Part.v) :=
  Rd.of_at (At.new w _ 22) 0 (fun j u hj => by rw [Nat.zero_add, List.getElem?_toArray]; exact hj) (by simp)
theorem eq_hash_same (w : World) (a : List UInt8) (ha : a.length = 32) : (Op.equalIn 10000 25 (.agg (ubs a).toArray) (.agg (ubs a).toArray)).run Tryd.prog w = .ok true w := by
  rw [run_eq_hash w a a ha ha 9998, beq_self_eq_true]
theorem upon_bool {P : Program} {o : Oper} {a : Go.Act} {next : Go.Act → World → Prop} {Q : Exit → Go.Act → World → Prop} {w : World} {b : Bool} (h : next (a.put o.dst (.bool b)) w) :
    Oper.upon P o a next Q (((Result.ok b w).andThen fun b w' => Result.ok (Value.bool b) w').andThen fun a w' => Result.ok (Next.value a) w') := h
/-- What holds while the law goes on: the three arguments and the whole. -/
structure LpW (w : World) (A B C D : Option Addr) (a b c d : List UInt8) (W : World) : Prop where
  ra : Rb W W.heap.size A a
  rb : Rb W W.heap.size B b
  rc : Rb W W.heap.size C c
  rd : Rb W W.heap.size D d
  below : Below w.heap.size w W
theorem LpW.next {w W W' : World} {A B C D : Option Addr} {a b c d : List UInt8} (h : LpW w A B C D a b c d W) (hb : Below W.heap.size W W') : LpW w A B C D a b c d W' :=
  ⟨(h.ra.below hb).mono hb.size, (h.rb.below hb).mono hb.size, (h.rc.below hb).mono hb.size, (h.rd.below hb).mono hb.size, h.below.trans (hb.mono h.below.size)⟩
theorem LpW.lit {w W : World} {A B C D : Option Addr} {a b c d : List UInt8} (h : LpW w A B C D a b c d W) (o : Obj) : LpW w A B C D a b c d (W.alloc o) := h.next ((Below.refl _ _).alloc (Nat.le_refl _) _)
set_option maxRecDepth 100000 in
set_option maxHeartbeats 8000000 in
theorem parts_law (a b c : List UInt8) (A B C : Option Addr) (ca cb cc : Nat) (w : World) (ha : Rb w w.heap.size A a) (hb : Rb w w.heap.size B b) (hc : Rb w w.heap.size C c)
    (la : a.length ≤ 140737488351232) (lb : b.length ≤ 140737488351232) (lc : c.length ≤ 140737488351232) (hT : Tabs w) (hI : Tab w 1 IV.l) :
    Calls Tryd.prog 4 #[.slice A a.length ca, .slice B b.length cb, .slice C c.length cc] w fun e w' => e = .returned (.bool true) ∧ Below w.heap.size w w' := by
  obtain ⟨i0, hi, hz0, hz1, hz2⟩ := info_parts infoB
  have RA := hid ha
  have RB := hid hb
  have RC := hid hc
  have HT := hid hT
  have HI := hid hI
  clear ha hb hc hT hI
  by_cases hbig : 3000 < a.length + b.length + c.length
  · obtain ⟨x, hx⟩ : ∃ x, x = a.length := ⟨_, rfl⟩
    obtain ⟨y, hy⟩ : ∃ x, x = b.length := ⟨_, rfl⟩
    obtain ⟨z, hz⟩ : ∃ x, x = c.length := ⟨_, rfl⟩
    rw [← hx] at la hbig ⊢
    rw [← hy] at lb hbig ⊢
    rw [← hz] at lc hbig ⊢
    clear hx hy hz RA RB RC
    go_enter Tryd.func4, Tryd.ntmps4
    go_wp2_with (go_at_call 7; refine (alive_any _ HT.out).mono ?_; rintro e w1 ⟨rfl, hb1⟩; have HB1 := hid hb1; clear hb1)
    go_ret
    exact ⟨rfl, HB1.out⟩
  · have hO : ∀ w1 : World, Own1 w1 0 [] (.slice (some ⟨w1.heap.size, 0, none⟩) 0 0) (w1.alloc (.cells #[] 5)) := fun w1 =>
      ⟨rfl, by have := World.ownsRow_made (base := w1.heap.size) (e := 5) (size := 1) w1 #[] 0 (by omega) (by simp [maxLen]) rfl; simpa [ubs] using this, (Below.refl _ _).alloc (Nat.le_refl _) _⟩
    have HO := hid hO
    obtain ⟨d, hd⟩ : ∃ d, d = a ++ b ++ c := ⟨_, rfl⟩
    have J3 := hid (show joined [⟨A, a, ca⟩, ⟨B, b, cb⟩, ⟨C, c, cc⟩] = d from (joined3 ⟨A, a, ca⟩ ⟨B, b, cb⟩ ⟨C, c, cc⟩).trans hd.symm)
    have J0 := hid joined0
    have hlen3 : (joined [⟨A, a, ca⟩, ⟨B, b, cb⟩, ⟨C, c, cc⟩]).length ≤ 3000 := by rw [J3.out, hd]; simp; omega
    have HL3 := hid hlen3
    have HD := hid (show d.length ≤ 3000 by rw [hd]; simp; omega)
    have HE := hid hd
    obtain ⟨x, hx⟩ : ∃ x, x = a.length := ⟨_, rfl⟩
    obtain ⟨y, hy⟩ : ∃ x, x = b.length := ⟨_, rfl⟩
    obtain ⟨z, hz⟩ : ∃ x, x = c.length := ⟨_, rfl⟩
    have V3 := hid (show (#[.slice A x ca, .slice B y cb, .slice C z cc] : Array Value) = ([(⟨A, a, ca⟩ : Part), ⟨B, b, cb⟩, ⟨C, c, cc⟩].map Part.v).toArray by rw [hx, hy, hz]; rfl)
    have HN := hid (hashL_length d)
    have HN0 := hid (hashL_length [])
    have tok1 : Hid True := trivial
    have tok2 : Hid True := trivial
    have tok3 : Hid True := trivial
    have tok4 : Hid True := trivial
    have tok5 : Hid True := trivial
    have tok6 : Hid True := trivial
    have tok7 : Hid True := trivial
    have tok8 : Hid True := trivial
    have HX := hid hx
    have HY := hid hy
    have HZ := hid hz
    rw [← hx] at la hbig ⊢
    rw [← hy] at lb hbig ⊢
    rw [← hz] at lc hbig ⊢
    clear hO hlen3 hx hy hz hd
    go_enter Tryd.func4, Tryd.ntmps4
    go_wp2_with (first
      | (go_at_call 7; refine (alive_any _ HT.out).mono ?_; rintro e w1 ⟨rfl, hb1⟩; have HB1 := hid hb1; have RA1 := hid (((RA.out.below hb1).mono hb1.size).alloc (.cells #[] 5)); have RB1 := hid ((RB.out.below hb1).mono hb1.size); have RC1 := hid ((RC.out.below hb1).mono hb1.size); clear hb1)
      | (at_builtin; refine wpList_append_rd rfl (.tmp 19) (.tmp 20) _ rfl w1.heap.size 5 i0 (.int .u8 0) 1 Tryd.underlying22 hi hz0 hz1 hz2 rfl (.slice (some ⟨w1.heap.size, 0, none⟩) 0 0) 0 (ubs []) rfl (HO.out w1).own w1.heap.size A x ca (ubs a) rfl (by rw [ubs_length, HX.out]) RA1.out (ubs_one _) (by unfold maxLen; omega) (by omega) (by simp) ?_; intro v2 w2 hown hgr _; replace hown := hid ((HO.out w1).more hown HX.out hgr); clear hgr; rw [List.nil_append, Nat.zero_add] at hown; obtain ⟨A1, c1, rfl, -⟩ := own_form hown.out.own; have RB2 := hid (RB1.out.below hown.out.below))
      | (at_builtin; refine wpList_append_rd rfl (.tmp 21) (.tmp 22) _ rfl w1.heap.size 5 i0 (.int .u8 0) 1 Tryd.underlying22 hi hz0 hz1 hz2 rfl (.slice A1 x c1) x (ubs a) rfl hown.out.own w1.heap.size B y cb (ubs b) rfl (by rw [ubs_length, HY.out]) RB2.out (ubs_one _) (by unfold maxLen; omega) (by omega) hown.out.below.size ?_; intro v3 w3 hown3 hgr3 _; replace hown3 := hid (hown.out.more hown3 HY.out hgr3); clear hgr3; obtain ⟨A3, c3, rfl, -⟩ := own_form hown3.out.own; have RC3 := hid (RC1.out.below hown3.out.below))
      | (at_builtin; refine wpList_append_rd rfl (.tmp 23) (.tmp 24) _ rfl w1.heap.size 5 i0 (.int .u8 0) 1 Tryd.underlying22 hi hz0 hz1 hz2 rfl (.slice A3 (x + y) c3) (x + y) (ubs (a ++ b)) rfl hown3.out.own w1.heap.size C z cc (ubs c) rfl (by rw [ubs_length, HZ.out]) RC3.out (ubs_one _) (by unfold maxLen; omega) (by omega) hown3.out.below.size ?_; intro v4 w4 hown4 hgr4 _; replace hown4 := hid (hown3.out.more hown4 HZ.out hgr4); clear hgr4; rw [← HE.out] at hown4; obtain ⟨A4, c4, rfl, -⟩ := own_form hown4.out.own; have LP := hid (show LpW w A B C A4 a b c d w4 from have hb := hown4.out.below; ⟨((RA.out.below HB1.out).mono HB1.out.size |>.below hb).mono hb.size, (RB1.out.below hb).mono hb.size, (RC1.out.below hb).mono hb.size, Rd.of_own hown4.out.own, HB1.out.trans (hb.mono HB1.out.size)⟩))
      | (go_at_call 13; have _t := tok1; clear tok1 _t; (have L5 := hid (LP.out.lit (.cells #[.slice A x ca, .slice B y cb, .slice C z cc] 22))); (have cq := of_any [⟨A, a, ca⟩, ⟨B, b, cb⟩, ⟨C, c, cc⟩] (some ⟨w4.heap.size, 0, none⟩) 3 (w4.alloc (.cells #[.slice A x ca, .slice B y cb, .slice C z cc] 22)) (by rw [V3.out]; exact rd_parts w4 _) (by intro p hp; simp at hp; rcases hp with rfl | rfl | rfl; exact L5.out.ra; exact L5.out.rb; exact L5.out.rc) (by have := HL3.out; omega) (by simp) (HT.out.below L5.out.below)); rw [J3.out] at cq; refine cq.mono ?_; clear cq; rintro e w5 ⟨rfl, hb5⟩; have L6 := hid (L5.out.next hb5); clear hb5 L5)
      | (go_at_call 9; have _t := tok2; clear tok2 _t; (have cq := sumR_any d A4 c4 w5 L6.out.rd (by have := HD.out; omega) (HT.out.below L6.out.below) (Tab.below (x := IV.a) (xs := [IV.b, IV.c, IV.d, IV.e, IV.f, IV.g, IV.h]) HI.out L6.out.below)); rw [← hown4.out.len] at cq; refine cq.mono ?_; clear cq; rintro e w6 ⟨rfl, hb6⟩; have L7 := hid (L6.out.next hb6); clear hb6)
      | (have _t := tok3; refine wpList_value _ rfl (run_eql_op _ _ (.tmp 30) (.tmp 32) rfl _ _ rfl rfl guardH true _ (eql_hash_same _ _ HN.out)) ?_; clear tok3 _t)
      | (go_at_call 13; have _t := tok4; clear tok4 _t; (have L8 := hid (L7.out.lit (.cells #[.slice A4 (x + y + z) c4] 22))); (have V1 := hid (show (#[.slice A4 (x + y + z) c4] : Array Value) = ([(⟨A4, d, c4⟩ : Part)].map Part.v).toArray by rw [hown4.out.len]; rfl)); (have J1 := hid (joined1 ⟨A4, d, c4⟩)); (have cq := of_any [⟨A4, d, c4⟩] (some ⟨w6.heap.size, 0, none⟩) 1 (w6.alloc (.cells #[.slice A4 (x + y + z) c4] 22)) (by rw [V1.out]; exact rd_parts w6 _) (by intro p hp; simp at hp; subst hp; exact L8.out.rd) (by rw [J1.out]; have := HD.out; show d.length ≤ _; omega) (by simp) (HT.out.below L8.out.below)); rw [J1.out] at cq; refine cq.mono ?_; clear cq; rintro e w7 ⟨rfl, hb7⟩; have L9 := hid (L8.out.next hb7); clear hb7 L8 V1 J1)
      | (go_at_call 8; have _t := tok5; clear tok5 _t; (have cq := sum_any d A4 c4 w7 L9.out.rd (by have := HD.out; omega) (HT.out.below L9.out.below)); rw [← hown4.out.len] at cq; refine cq.mono ?_; clear cq; rintro e w8 ⟨rfl, hb8⟩; have L10 := hid (L9.out.next hb8); have q8 := eq_hash_same w8 (hashL d) HN.out; clear hb8)
      | (refine wpList_value _ rfl (run_eql_op _ _ (.tmp 37) (.tmp 39) rfl _ _ rfl rfl guardH true _ (eql_hash_same _ _ HN.out)) ?_)
      | (go_at_call 13; have _t := tok6; clear tok6 _t; (have cq := of_any [] none 0 w8 (Rd.nil _ _ _) (by simp) (by rw [J0.out]; simp) (by simp) (HT.out.below L10.out.below)); rw [J0.out] at cq; refine cq.mono ?_; clear cq; rintro e w9 ⟨rfl, hb9⟩; have L11 := hid (L10.out.next hb9); clear hb9)
      | (go_at_call 8; have _t := tok7; clear tok7 _t; (have cq := sum_any [] none 0 w9 (Rd.nil _ _ _) (by simp) (HT.out.below L11.out.below)); refine cq.mono ?_; clear cq; rintro e w10 ⟨rfl, hb10⟩; have L12 := hid (L11.out.next hb10); have q10 := eq_hash_same w10 (hashL []) HN0.out; clear hb10)
      | (refine wpList_value _ rfl (run_eql_op _ _ (.tmp 43) (.tmp 44) rfl _ _ rfl rfl guardH true _ (eql_hash_same _ _ HN0.out)) ?_))
    go_ret
    exact ⟨rfl, L12.out.below⟩
end Go.Proofs.YtnhkfmjmjhbjgaaDoor
