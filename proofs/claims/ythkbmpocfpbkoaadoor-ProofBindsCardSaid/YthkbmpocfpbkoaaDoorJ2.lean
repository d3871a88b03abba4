/-
  alive of layer 9, over what the program's trees are to answer.
  Layer 10: alive, over what the program's trees answer; how much is looked at.
-/
import Derived.Test.YthkbmpocfpbkoaaDoorT0
import Derived.Test.YthkbmpocfpbkoaaDoorN2
import Derived.Test.YthkbmpocfpbkoaaDoorY4
import Derived.Test.YthkbmpocfpbkoaaDoorJ1
namespace Go.Proofs.YthkbmpocfpbkoaaDoor
open Go.RowKit

def h5 : List UInt8 := 5 :: List.replicate 31 0
attribute [irreducible] h5
end Go.Proofs.YthkbmpocfpbkoaaDoor

namespace Go.Proofs.YthkbmpocfpbkoaaDoor
open Go.RowKit

def h3 : List UInt8 := 3 :: List.replicate 31 0
theorem h3_full : h3 ≠ emptyL 0 := fun e => by
  have h := zero_hash
  rw [← emptyL_zero, ← e] at h
  revert h
  decide
theorem run_build_h3 {o : Oper} {a : Go.Act} {W : World} (ho : o.op = .build 35 #[(0, .const (.int .u8 3))]) : (execOp a.eval o).run Tryd.prog W = .ok (.value (.agg (ubs h3).toArray)) W :=
  run_build_of _ _ ho _ (by kernel_rfl)
theorem set_h3 : setT 1 h3 [] = [(1, h3)] := by
  unfold setT
  rw [if_neg h3_full]
  rfl
theorem rgt01 : rgtB 1 [0, 1] = true := by decide
theorem spots01 : (spotsS [0, 1] 1 0).length = 0 := by
  have h1 : belowB [0, 1] 1 0 = true := by decide
  have h2 : belowB [0, 1] 0 0 = true := by decide
  have h3 : belowB [0, 1] 0 1 = true := by decide
  rw [spotsS_step h1, mod64 (by omega), mod64 (by omega), spotsS_leaf h2, spotsS_leaf h3]
  rfl
attribute [irreducible] h3
theorem nu01 {W : World} {g : Nat} (h : At W g #[.int .u64 0, .int .u64 1] 33) : Nu W W.heap.size (some ⟨g, 0, none⟩) [0, 1] := fun _ => by
  refine ⟨g, 0, rfl, h.lt, fun j u hu => ?_⟩
  rw [Nat.zero_add, h.cell j]
  rcases j with _ | _ | j
  · exact hu
  · exact hu
  · cases hu
def Alive10C (w : World) : Prop := ∀ W : World, Below w.heap.size w W → Calls Tryd.prog 36 #[] W fun e w' => e = .returned (.bool true) ∧ Below W.heap.size W w'
set_option maxRecDepth 100000 in
set_option maxHeartbeats 2000000 in
theorem alive10_any {Pt : PtT} {w : World} (t : T9c Pt w) (hT : Tabs w) : Alive10C w := by
  intro W0 hW0
  have HN := hid (show Calls Tryd.prog 30 #[.int .i64 1] W0 (fun r W' => ∃ S b, r = .returned (.tuple #[.pointer (some ⟨b, 0, none⟩), .nilIface]) ∧ Pt S W' b 1 [] ∧ (∀ k, S k → W0.heap.size ≤ k) ∧ Below W0.heap.size W0 W') from t.newOk W0 1 hW0 (by omega))
  have HS := hid (fun (W : World) (S : Nat → Prop) (b : Nat) (hb : Below w.heap.size w W) (p : Pt S W b 1 []) => show Calls Tryd.prog 31 #[.pointer (some ⟨b, 0, none⟩), .int .u64 1, .agg (ubs h3).toArray] W (fun r W' => r = .returned .nilIface ∧ ∃ S', Pt S' W' b 1 [(1, h3)] ∧ (∀ k, S' k → S k ∨ W.heap.size ≤ k) ∧ Fr S W W') from by
    have := t.setOk 1 h3 hb p (by simp) (by omega) (by rw [h3]; rfl)
    rw [show hasB 1 0 1 = true by decide, if_pos rfl, set_h3] at this
    exact this)
  obtain ⟨rt, hrt⟩ : ∃ r, r = nodeS 1 0 [(1, h3)] := ⟨_, rfl⟩
  obtain ⟨lvv, hlvv⟩ : ∃ r, r = leavesS [(1, h3)] [0, 1] := ⟨_, rfl⟩
  have hok : okL [(1, h3)] := fun p hp => by
    obtain rfl : p = (1, h3) := by simpa using hp
    exact ⟨by decide, by rw [h3]; rfl⟩
  have HRL := hid (show rt.length = 32 by rw [hrt]; exact nodeS_length _ _ _ hok)
  have hlvl : lvv.length = 32 * 2 := by rw [hlvv]; exact leavesS_length hok [0, 1]
  have hrtt : rootS 1 [0, 1] 2 0 lvv [] = rt := by
    have := root_tree hok (l := [0, 1]) (h := 1) rgt01
    have hb : besideS [(1, h3)] (spotsS [0, 1] 1 0) = [] := List.eq_nil_of_length_eq_zero (by rw [besideS_length hok, spots01])
    rw [hb, spots01, ← hlvv, ← hrt] at this
    exact this
  have hck : ckB rt 1 [0, 1] 2 0 lvv [] = 0 := by
    have : ccB 1 [0, 1] 2 0 = 0 := by
      unfold ccB
      rw [rgt01, if_pos rfl, show (1 : Int).toNat = 1 from rfl, spots01]
      rfl
    rw [ckB, if_pos this, if_pos hrtt]
  have HR := hid (fun (W : World) (S : Nat → Prop) (b : Nat) (hb : Below w.heap.size w W) (p : Pt S W b 1 [(1, h3)]) => show Calls Tryd.prog 32 #[.pointer (some ⟨b, 0, none⟩)] W (fun r W' => r = .returned (.agg (ubs rt).toArray) ∧ Below W.heap.size W W') from by
    have := t.rootOk hb p (by simp)
    rw [← hrt] at this
    exact this)
  have HMK := hid (fun (W : World) (S : Nat → Prop) (b g : Nat) (hb : Below w.heap.size w W) (p : Pt S W b 1 [(1, h3)]) (hg : At W g #[.int .u64 0, .int .u64 1] 33) => show Calls Tryd.prog 38 #[.pointer (some ⟨b, 0, none⟩), .slice (some ⟨g, 0, none⟩) 2 2] W (fun r W' => ∃ A1 c1, r = .returned (.tuple #[.slice A1 0 c1, .nilIface]) ∧ Below W.heap.size W W') from by
    have := pmake10_ok t hb p (by simp) [0, 1] (some ⟨g, 0, none⟩) 2 (nu01 hg) (by simp) rgt01
    rw [spots01] at this
    exact this.mono fun r W' ⟨A1, c1, h1, _, h2⟩ => ⟨A1, c1, h1, h2⟩)
  have HLV := hid (fun (W : World) (S : Nat → Prop) (b g : Nat) (hb : Below w.heap.size w W) (p : Pt S W b 1 [(1, h3)]) (hg : At W g #[.int .u64 0, .int .u64 1] 33) => show Calls Tryd.prog 39 #[.pointer (some ⟨b, 0, none⟩), .slice (some ⟨g, 0, none⟩) 2 2] W (fun r W' => ∃ A1 c1, r = .returned (.tuple #[.slice A1 2 c1, .nilIface]) ∧ Rd W' W'.heap.size A1 (ubs lvv) ∧ Below W.heap.size W W' ∧ 2 ≤ c1) from by
    have := pleaves_ok t hb p (by simp) [0, 1] (some ⟨g, 0, none⟩) 2 (nu01 hg) rgt01
    rw [← hlvv] at this
    exact this)
  have HCK := hid (fun (W : World) (g : Nat) (AL AB : Option Addr) (cl cb : Nat) (hb : Below w.heap.size w W) (hg : At W g #[.int .u64 0, .int .u64 1] 33) (hr : Rd W W.heap.size AL (ubs lvv)) (hc : 2 ≤ cl) => show Calls Tryd.prog 50 #[.agg (ubs rt).toArray, .int .i64 1, .slice (some ⟨g, 0, none⟩) 2 2, .slice AL 2 cl, .slice AB 0 cb] W (fun r W' => r = .returned .nilIface ∧ Below W.heap.size W W') from by
    have := pcheck10_any rt HRL.out 1 [0, 1] lvv [] (some ⟨g, 0, none⟩) AL AB 2 2 cl 0 cb W (nu01 hg) (by simp) hr (Rd.nil _ _ _) hc (by omega) hlvl rfl (hT.below hb)
    rw [hck] at this
    exact this)
  have HL := hid (show h3.length = 32 by rw [h3]; rfl)
  have HB0 := hid hW0
  have HT := hid t
  obtain ⟨m, hm⟩ : ∃ m, m = h3 := ⟨_, rfl⟩
  have HBH := hid (fun (o : Oper) (a : Go.Act) (W : World) (h : o.op = .build 35 #[(0, .const (.int .u8 3))]) => show (execOp a.eval o).run Tryd.prog W = .ok (.value (.agg (ubs m).toArray)) W by rw [hm]; exact run_build_h3 h)
  rw [← hm] at HS HR HL HMK HLV
  clear hm hW0 t hT hok hlvl hrtt hck hrt hlvv
  go_enter Tryd.func36, Tryd.ntmps36
  go_wp2_with (first
    | (go_at_call 30; refine HN.out.mono ?_; rintro r1 w1 ⟨S, b, rfl, p1, f1, b1⟩; have B1 := hid (HB0.out.trans (b1.mono HB0.out.size)); have C1 := hid b1; have F1 := hid f1; have S1 := hid (HS.out w1 S b B1.out p1); have I1 := hid (fun k hk => (HT.out.inn p1 k hk).2); clear p1 f1 b1)
    | (refine wpList_valW (by rfl) (HBH.out _ _ _ rfl) ?_)
    | (go_at_call 31; refine S1.out.mono ?_; rintro r2 w2 ⟨rfl, S2, p2, f2, fr2⟩; have C2 := hid (show Below W0.heap.size W0 w2 from C1.out.trans (fr2.below (fun k hk => F1.out k hk) C1.out.size)); have B2 := hid (HB0.out.trans (C2.out.mono HB0.out.size)); have P2 := hid p2; clear p2 f2 fr2)
    | (go_at_call 38; have b3x : Below w2.heap.size w2 (w2.alloc (.cells #[.int .u64 0, .int .u64 1] 33)) := (Below.refl _ _).alloc (Nat.le_refl _) _; have G3 := hid (show At (w2.alloc (.cells #[.int .u64 0, .int .u64 1] 33)) w2.heap.size #[.int .u64 0, .int .u64 1] 33 from At.new _ _ _); have D3 := hid (B2.out.trans (b3x.mono B2.out.size)); have C3 := hid (C2.out.trans (b3x.mono C2.out.size)); refine (HMK.out _ S2 b w2.heap.size D3.out (HT.out.new P2.out b3x) G3.out).mono ?_; rintro r4 w4 ⟨A4, c4, rfl, hb4⟩; have P4 := hid (HT.out.new (HT.out.new P2.out b3x) hb4); have B4 := hid (D3.out.trans (hb4.mono D3.out.size)); have C4 := hid (C3.out.trans (hb4.mono C3.out.size)); clear hb4 b3x)
    | (go_at_call 39; have b5x : Below w4.heap.size w4 (w4.alloc (.cells #[.int .u64 0, .int .u64 1] 33)) := (Below.refl _ _).alloc (Nat.le_refl _) _; have G5 := hid (show At (w4.alloc (.cells #[.int .u64 0, .int .u64 1] 33)) w4.heap.size #[.int .u64 0, .int .u64 1] 33 from At.new _ _ _); have D5 := hid (B4.out.trans (b5x.mono B4.out.size)); have C5 := hid (C4.out.trans (b5x.mono C4.out.size)); refine (HLV.out _ S2 b w4.heap.size D5.out (HT.out.new P4.out b5x) G5.out).mono ?_; rintro r6 w6 ⟨A6, c6, rfl, hr6, hb6, hc6⟩; have P6 := hid (HT.out.new (HT.out.new P4.out b5x) hb6); have B6 := hid (D5.out.trans (hb6.mono D5.out.size)); have C6 := hid (C5.out.trans (hb6.mono C5.out.size)); have R6 := hid hr6; have N6 := hid hc6; clear hb6 b5x hr6 hc6)
    | (go_at_call 32; refine (HR.out w6 S2 b B6.out P6.out).mono ?_; rintro r7 w7 ⟨rfl, hb7⟩; have B7 := hid (B6.out.trans (hb7.mono B6.out.size)); have C7 := hid (C6.out.trans (hb7.mono C6.out.size)); have R7 := hid ((Rd.below R6.out hb7).mono hb7.size); clear hb7)
    | (go_at_call 50; have b8x : Below w7.heap.size w7 (w7.alloc (.cells #[.int .u64 0, .int .u64 1] 33)) := (Below.refl _ _).alloc (Nat.le_refl _) _; have G8 := hid (show At (w7.alloc (.cells #[.int .u64 0, .int .u64 1] 33)) w7.heap.size #[.int .u64 0, .int .u64 1] 33 from At.new _ _ _); have D8 := hid (B7.out.trans (b8x.mono B7.out.size)); have C8 := hid (C7.out.trans (b8x.mono C7.out.size)); refine (HCK.out _ w7.heap.size A6 A4 c6 c4 D8.out G8.out ((Rd.below R7.out b8x).mono b8x.size) N6.out).mono ?_; rintro r9 w9 ⟨rfl, hb9⟩; have C9 := hid (C8.out.trans (hb9.mono C8.out.size)); clear hb9 b8x))
  go_ret
  exact ⟨rfl, C9.out⟩
/-- Is there more than is looked at? -/
def largeB (n l b : Nat) : Bool := (decide (40 < n) && decide (n ≤ 256)) || decide (300 < n) || decide (300 < l) || decide (1500 < b)
set_option maxRecDepth 100000 in
set_option maxHeartbeats 2000000 in
theorem large_any (n nl nb : Nat) (A AL AB : Option Addr) (c cl cb : Nat) (W : World) : Calls Tryd.prog 37 #[.slice A n c, .slice AL nl cl, .slice AB nb cb] W fun r W' => r = .returned (.bool (largeB n nl nb)) ∧ W' = W := by
  have e1 : decide ((40 : Int) < (n : Int)) = decide (40 < n) := by rw [decide_eq_decide]; omega
  have e2 : decide ((n : Int) ≤ (256 : Int)) = decide (n ≤ 256) := by rw [decide_eq_decide]; omega
  have e3 : decide ((300 : Int) < (n : Int)) = decide (300 < n) := by rw [decide_eq_decide]; omega
  have e4 : decide ((300 : Int) < (nl : Int)) = decide (300 < nl) := by rw [decide_eq_decide]; omega
  have e5 : decide ((1500 : Int) < (nb : Int)) = decide (1500 < nb) := by rw [decide_eq_decide]; omega
  unfold largeB
  cases k1 : decide (40 < n) <;> cases k2 : decide (n ≤ 256) <;> cases k3 : decide (300 < n) <;> cases k4 : decide (300 < nl) <;> cases k5 : decide (1500 < nb) <;> rw [k1] at e1 <;> rw [k2] at e2 <;> rw [k3] at e3 <;> rw [k4] at e4 <;> rw [k5] at e5
  all_goals
    go_enter Tryd.func37, Tryd.ntmps37
    go_wp2
    go_ret
    exact ⟨rfl, rfl⟩
end Go.Proofs.YthkbmpocfpbkoaaDoor
