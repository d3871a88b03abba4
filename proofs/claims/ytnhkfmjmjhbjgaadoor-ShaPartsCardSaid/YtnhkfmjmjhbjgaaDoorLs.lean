/-
  ShaSums, walked.
-/
import Derived.Test.YtnhkfmjmjhbjgaaDoorCe
import Derived.Test.YtnhkfmjmjhbjgaaDoorSr
namespace Go.Proofs.YtnhkfmjmjhbjgaaDoor
open Go.RowKit

theorem bytes_any (bs : List UInt8) (A B : Option Addr) (c d : Nat) (w : World) (ha : Rb w w.heap.size A bs) (hb : Rb w w.heap.size B bs) :
    Calls Tryd.prog 10 #[.slice A bs.length c, .slice B bs.length d] w fun e w' => e = .returned (.bool true) ∧ w = w' := by
  have k1 := run_convert_rb (P := Tryd.prog) 22 9 5 Tryd.underlying22 Tryd.underlying5 Tryd.underlying9 ha c
  have k2 := run_convert_rb (P := Tryd.prog) 22 9 5 Tryd.underlying22 Tryd.underlying5 Tryd.underlying9 hb d
  clear ha hb
  obtain ⟨n, hn⟩ : ∃ n, n = bs.length := ⟨_, rfl⟩
  rw [← hn] at k1 k2 ⊢
  clear hn
  go_enter Tryd.func10, Tryd.ntmps10
  go_wp2
  go_ret
  exact ⟨rfl, rfl⟩
/-- An operation that yields a value, in a walk outside a fence. -/
theorem wpList_value {P : Program} {ops : Array Oper} {rest : List Oper} {o : Oper} {a : Go.Act} {w w' : World} {Q : Exit → Go.Act → World → Prop} (v : Value) (hg : o.guard = none) (hrun : (execOp a.eval o).run P w = .ok (.value v) w')
    (h : wpList P ops Q rest (a.put o.dst v) w') : wpList P ops Q (o :: rest) a w := by
  refine wpList_plain hg fun K hK => ?_
  unfold Oper.wp
  rw [hrun]
  exact hK _ _ h
theorem eql_hash_same (w : World) (a : List UInt8) (ha : a.length = 32) : (binOp .eql 25 (.agg (ubs a).toArray) (.agg (ubs a).toArray)).run Tryd.prog w = .ok (.bool true) w := by
  rw [eql_hash w a a ha ha]
  simp
set_option maxRecDepth 100000 in
set_option maxHeartbeats 4000000 in
theorem sums_law (bs : List UInt8) (A : Option Addr) (c : Nat) (w : World) (hr : Rb w w.heap.size A bs) (hlen : bs.length ≤ 140737488351232) (hT : Tabs w) (hI : Tab w 1 IV.l) :
    Calls Tryd.prog 3 #[.slice A bs.length c] w fun e w' => e = .returned (.bool true) ∧ Below w.heap.size w w' := by
  obtain ⟨i0, hi, hz0, hz1, hz2⟩ := info_parts infoB
  have HR := hid hr
  have HT := hid hT
  have HI := hid hI
  have HH := hid (hashL_length bs)
  clear hr hT hI
  by_cases hbig : 3000 < bs.length
  · go_enter Tryd.func3, Tryd.ntmps3
    go_wp2_with (go_at_call 7; refine (alive_any _ HT.out).mono ?_; rintro e w1 ⟨rfl, hb1⟩; have HB1 := hid hb1; clear hb1)
    go_ret
    exact ⟨rfl, HB1.out⟩
  · have hO : ∀ w1 : World, Own1 w1 0 [] (.slice (some ⟨w1.heap.size, 0, none⟩) 0 0) (w1.alloc (.cells #[] 5)) := fun w1 =>
      ⟨rfl, by have := World.ownsRow_made (base := w1.heap.size) (e := 5) (size := 1) w1 #[] 0 (by omega) (by simp [maxLen]) rfl; simpa [ubs] using this, (Below.refl _ _).alloc (Nat.le_refl _) _⟩
    have HO := hid hO
    obtain ⟨L, hL⟩ : ∃ L, L = bs.length := ⟨_, rfl⟩
    have HL := hid hL
    rw [← hL] at hbig hlen ⊢
    clear hO hL
    go_enter Tryd.func3, Tryd.ntmps3
    go_wp2_with (first
      | (go_at_call 7; refine (alive_any _ HT.out).mono ?_; rintro e w1 ⟨rfl, hb1⟩; have HB1 := hid hb1; have HR1 := hid (((HR.out.below hb1).mono hb1.size).alloc (.cells #[] 5)); clear hb1)
      | (at_builtin; refine wpList_append_rd rfl (.tmp 9) (.tmp 10) _ rfl w1.heap.size 5 i0 (.int .u8 0) 1 Tryd.underlying22 hi hz0 hz1 hz2 rfl (.slice (some ⟨w1.heap.size, 0, none⟩) 0 0) 0 (ubs []) rfl (HO.out w1).own w1.heap.size A L c (ubs bs) rfl (by rw [ubs_length, HL.out]) HR1.out (ubs_one _) (by unfold maxLen; omega) (by omega) (by simp) ?_; intro v2 w2 hown hgr _; replace hown := hid ((HO.out w1).more hown HL.out hgr); clear hgr; rw [List.nil_append, Nat.zero_add] at hown; obtain ⟨A1, c1, rfl, -⟩ := own_form hown.out.own; have B2 := hid (HB1.out.trans (hown.out.below.mono HB1.out.size)); have R2 := hid (Rd.of_own hown.out.own))
      | (go_at_call 8; (have cc := sum_any bs A1 c1 w2 R2.out (by rw [← HL.out]; exact hlen) (HT.out.below B2.out)); rw [← HL.out] at cc; refine cc.mono ?_; clear cc; rintro e w3 ⟨rfl, hb3⟩; have B3 := hid (B2.out.trans (hb3.mono B2.out.size)); have R3 := hid ((R2.out.below hb3).mono hb3.size); clear hb3)
      | (go_at_call 9; (have cc := sumR_any bs A c w3 ((HR.out.below B3.out).mono B3.out.size) (by rw [← HL.out]; exact hlen) (HT.out.below B3.out) (Tab.below (x := IV.a) (xs := [IV.b, IV.c, IV.d, IV.e, IV.f, IV.g, IV.h]) HI.out B3.out)); rw [← HL.out] at cc; refine cc.mono ?_; clear cc; rintro e w4 ⟨rfl, hb4⟩; have B4 := hid (B3.out.trans (hb4.mono B3.out.size)); have R4 := hid ((R3.out.below hb4).mono hb4.size); clear hb4)
      | (refine wpList_value _ rfl (run_eql_op _ _ (.tmp 13) (.tmp 15) rfl _ _ rfl rfl guardH true _ (eql_hash_same _ _ HH.out)) ?_)
      | (go_at_call 11; (have cc := pad_any bs A1 c1 w4 R4.out (by rw [← HL.out]; exact hlen)); rw [← HL.out] at cc; refine cc.mono ?_; clear cc; rintro e w5 ⟨g, n, rfl, rfl, hA5, hg5, hb5⟩; have B5 := hid (B4.out.trans (hb5.mono B4.out.size)); have R5 := hid ((R4.out.below hb5).mono hb5.size); have P5 := hid (Rd.of_at hA5 0 (fun j u hj => by rw [Nat.zero_add, List.getElem?_toArray]; exact hj) hA5.lt); clear hA5 hg5 hb5)
      | (go_at_call 12; (have cc := padR_any bs A c w5 ((HR.out.below B5.out).mono B5.out.size) (by rw [← HL.out]; exact hlen)); rw [← HL.out] at cc; refine cc.mono ?_; clear cc; rintro e w6 ⟨v, n, rfl, hO6⟩; obtain rfl := hO6.len; obtain ⟨A6, c6, rfl, -⟩ := own_form hO6.own; have B6 := hid (B5.out.trans (hO6.below.mono B5.out.size)); have R6 := hid ((R5.out.below hO6.below).mono hO6.below.size); have P6 := hid ((P5.out.below hO6.below).mono hO6.below.size); have Q6 := hid (Rd.of_own hO6.own); clear hO6)
      | (go_at_call 10; (have cc := bytes_any (padL bs) (some ⟨g, 0, none⟩) A6 (padL bs).length c6 w6 P6.out Q6.out); clear P6 Q6; refine cc.mono ?_; clear cc; rintro e w' ⟨rfl, rfl⟩)
      | (go_at_call 10; (have cc := bytes_any bs A1 A c1 c w6 R6.out ((HR.out.below B6.out).mono B6.out.size)); rw [← HL.out] at cc; refine cc.mono ?_; rintro e w' ⟨rfl, rfl⟩))
    go_ret
    exact ⟨rfl, B6.out⟩
end Go.Proofs.YtnhkfmjmjhbjgaaDoor
