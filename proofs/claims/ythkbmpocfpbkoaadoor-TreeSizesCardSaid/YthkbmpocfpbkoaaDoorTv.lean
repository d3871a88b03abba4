/-
  alive of layer 9, over what the program's trees are to answer.
-/
import Derived.Test.YthkbmpocfpbkoaaDoorT0
import Derived.Test.YthkbmpocfpbkoaaDoorNc
import Derived.Test.YthkbmpocfpbkoaaDoorY4
namespace Go.Proofs.YthkbmpocfpbkoaaDoor
open Go.RowKit

def h5 : List UInt8 := 5 :: List.replicate 31 0
theorem h5_length : h5.length = 32 := rfl
theorem h5_full : h5 ≠ emptyL 0 := fun e => by
  have h := zero_hash
  rw [← emptyL_zero, ← e] at h
  revert h
  decide
theorem run_build_h5 {o : Oper} {a : Go.Act} {W : World} (ho : o.op = .build 35 #[(0, .const (.int .u8 5))]) : (execOp a.eval o).run Tryd.prog W = .ok (.value (.agg (ubs h5).toArray)) W :=
  run_build_of _ _ ho _ (by kernel_rfl)
theorem has0 : hasB 0 0 0 = true := by decide
theorem set_h5 : setT 0 h5 [] = [(0, h5)] := by
  unfold setT
  rw [if_neg h5_full]
  rfl
theorem root_h5 : nodeS 0 0 [(0, h5)] = h5 := by
  rw [nodeS_leaf, getH_cons, if_pos rfl]
  rfl
attribute [irreducible] h5
def Alive9C (w : World) : Prop := ∀ W : World, Below w.heap.size w W → Calls Tryd.prog 12 #[] W fun e w' => e = .returned (.bool true) ∧ Below W.heap.size W w'
set_option maxRecDepth 100000 in
set_option maxHeartbeats 1000000 in
theorem alive9_any {Pt : PtT} {w : World} (t : T9c Pt w) : Alive9C w := by
  intro W0 hW0
  have HN := hid (show Calls Tryd.prog 30 #[.int .i64 0] W0 (fun r W' => ∃ S b, r = .returned (.tuple #[ptr b, .nilIface]) ∧ Pt S W' b 0 [] ∧ (∀ k, S k → W0.heap.size ≤ k) ∧ Below W0.heap.size W0 W') from t.newOk W0 0 hW0 (by omega))
  have HS := hid (fun (W : World) (S : Nat → Prop) (b : Nat) (hb : Below w.heap.size w W) (p : Pt S W b 0 []) => show Calls Tryd.prog 31 #[.pointer (some ⟨b, 0, none⟩), .int .u64 0, .agg (ubs h5).toArray] W (fun r W' => r = .returned .nilIface ∧ ∃ S', Pt S' W' b 0 [(0, h5)] ∧ (∀ k, S' k → S k ∨ W.heap.size ≤ k) ∧ Fr S W W') from by
    have := t.setOk 0 h5 hb p (by simp) (by omega) (by rw [h5]; rfl)
    rw [has0, if_pos rfl, set_h5] at this
    exact this)
  have HR := hid (fun (W : World) (S : Nat → Prop) (b : Nat) (hb : Below w.heap.size w W) (p : Pt S W b 0 [(0, h5)]) => show Calls Tryd.prog 32 #[.pointer (some ⟨b, 0, none⟩)] W (fun r W' => r = .returned (.agg (ubs h5).toArray) ∧ Below W.heap.size W W') from by
    have := t.rootOk hb p (by simp)
    rw [root_h5] at this
    exact this)
  have HL := hid (show h5.length = 32 by rw [h5]; rfl)
  have HB0 := hid hW0
  have HT := hid t
  obtain ⟨m, hm⟩ : ∃ m, m = h5 := ⟨_, rfl⟩
  have HBH := hid (fun (o : Oper) (a : Go.Act) (W : World) (h : o.op = .build 35 #[(0, .const (.int .u8 5))]) => show (execOp a.eval o).run Tryd.prog W = .ok (.value (.agg (ubs m).toArray)) W by rw [hm]; exact run_build_h5 h)
  rw [← hm] at HS HR HL
  clear hm hW0 t
  go_enter Tryd.func12, Tryd.ntmps12
  go_wp2_with (first
    | (go_at_call 30; refine HN.out.mono ?_; rintro r1 w1 ⟨S, b, rfl, p1, f1, b1⟩; simp only [ptr]; have B1 := hid (HB0.out.trans (b1.mono HB0.out.size)); have C1 := hid b1; have F1 := hid f1; have S1 := hid (HS.out w1 S b B1.out p1); have I1 := hid (fun k hk => (HT.out.inn p1 k hk).2); clear p1 f1 b1)
    | (refine wpList_valW (by rfl) (HBH.out _ _ _ rfl) ?_)
    | (go_at_call 31; refine S1.out.mono ?_; rintro r2 w2 ⟨rfl, S2, p2, f2, fr2⟩; have C2 := hid (show Below W0.heap.size W0 w2 from C1.out.trans (fr2.below (fun k hk => F1.out k hk) C1.out.size)); have R2 := hid (HR.out w2 S2 b (HB0.out.trans (C2.out.mono HB0.out.size)) p2); clear p2 f2 fr2)
    | (go_at_call 32; refine R2.out.mono ?_; rintro r3 w3 ⟨rfl, b3⟩; have C3 := hid (C2.out.trans (b3.mono C2.out.size)); clear b3)
    | (refine wpList_valW (by rfl) (run_eqlH _ (.tmp 21) (.tmp 22) rfl m m HL.out HL.out rfl rfl true (by simp) _) ?_))
  go_ret
  exact ⟨by simp, C3.out⟩
end Go.Proofs.YthkbmpocfpbkoaaDoor
