/-
  Layer 12: StepCuts: the root behind any cutting step, and what any leaf and path come to.
-/
import Derived.Test.YtdegmcfcbndelaaDoorL6
import Derived.Test.YtdegmcfcbndelaaDoorL9
import Derived.Test.YtdegmcfcbndelaaDoorJ1
namespace Go.Proofs.YtdegmcfcbndelaaDoor
open Go.RowKit

theorem sizeCut12 : (Tryd.prog.info? 83).map (·.size) = some 33 := by kernel_rfl
theorem run_loadC12 {o : Oper} {a : Go.Act} {W : World} (x : Operand) (ho : o.op = .load 83 x) (b : Nat) (hx : a.eval x = .pointer (some ⟨b, 0, none⟩)) (C : List Value) (h : At W b C.toArray 83) (hl : C.length = 33) : (execOp a.eval o).run Tryd.prog W = .ok (.value (.agg C.toArray)) W :=
  run_load_part _ x ho b 0 hx C _ (fun j u hu => by rw [Nat.zero_add, h.cell, List.getElem?_toArray]; exact hu) Tryd.underlying83 rfl (by rw [sizeCut12, hl])
/-- What the law has in memory. -/
structure ScW (W : World) (leaf : List UInt8) (A : Option Addr) (n c a b : Nat) (V : World) : Prop where
  bl : Below W.heap.size W V
  cu : At V W.heap.size (cutV leaf A n c).toArray 83
  sz : At V (W.heap.size + 1) #[.int .u64 (a : Int), .int .u64 (b : Int)] 84
section
variable {W V V' : World} {leaf : List UInt8} {A : Option Addr} {n c a b : Nat}
theorem ScW.new (k : ScW W leaf A n c a b V) (hb : Below V.heap.size V V') : ScW W leaf A n c a b V' := ⟨k.bl.trans (hb.mono k.bl.size), k.cu.new_ hb, k.sz.new_ hb⟩
theorem ScW.drew (k : ScW W leaf A n c a b V) : ScW W leaf A n c a b V.drew := k.new (Below.refl _ _).drew
theorem ScW.start : ScW W leaf A n c a b ((W.alloc (.cells (cutV leaf A n c).toArray 83)).alloc (.cells #[.int .u64 (a : Int), .int .u64 (b : Int)] 84)) :=
  ⟨((Below.refl _ _).alloc (Nat.le_refl _) _).alloc (by simp) _, (At.new _ _ _).alloc _, At.new_at (by simp)⟩
theorem ScW.put (k : ScW W leaf A n c a b V) {G : Nat} (hG : W.heap.size + 2 ≤ G) (cs : Array Value) : ScW W leaf A n c a b (V.setRow G cs) :=
  ⟨below_setRow k.bl (by omega) _, At.setRow_far k.cu (by omega), At.setRow_far k.sz (by omega)⟩
theorem ScW.s0 (k : ScW W leaf A n c a b V) : V.cell? ⟨W.heap.size + 1, 0, none⟩ = some (.int .u64 (a : Int)) := by rw [k.sz.cell]; rfl
theorem ScW.s1 (k : ScW W leaf A n c a b V) : V.cell? ⟨W.heap.size + 1, 1, none⟩ = some (.int .u64 (b : Int)) := by rw [k.sz.cell]; rfl
theorem ScW.far (k : ScW W leaf A n c a b V) : W.heap.size + 2 ≤ V.heap.size := by have := k.sz.lt; omega
end
/-- What the last region yields. -/
def sc12 (g : Nat) (A : Option Addr) (n c a : Nat) (leaf x : List UInt8) : Nat → Value
  | 0 => .nilIface
  | 3 => .agg (ubs x).toArray
  | 4 => .pointer (some ⟨g, 0, none⟩)
  | 5 => .agg (ubs leaf).toArray
  | 6 => .pointer (some ⟨g + 1, 0, none⟩)
  | 7 => .int .u64 (a : Int)
  | 8 => .pointer (some ⟨g, 32, none⟩)
  | 9 => .slice A n c
  | 10 => .agg (ubs x).toArray
  | _ => .bool true
set_option maxRecDepth 100000 in
set_option maxHeartbeats 2000000 in
theorem stepCuts_large {w : World} (hA : Alive12C w) (leaf : List UInt8) (n c a b m cr : Nat) (A AR : Option Addr) (hl : leaf.length = 32) (hg : 60 < n ∨ 1 < m) :
    Calls Tryd.prog 8 #[.agg (cutV leaf A n c).toArray, .agg #[.int .u64 (a : Int), .int .u64 (b : Int)], .slice AR m cr] w fun r w' => r = .returned (.bool true) ∧ Below w.heap.size w w' := by
  have HFL := hid hl
  obtain ⟨C, hC⟩ : ∃ C, C = cutV leaf A n c := ⟨_, rfl⟩
  obtain ⟨S, hS⟩ : ∃ S : Array Value, S = #[.int .u64 (a : Int), .int .u64 (b : Int)] := ⟨_, rfl⟩
  have HC := hid hC
  have K0 := hid (ScW.start (W := w) (leaf := leaf) (A := A) (n := n) (c := c) (a := a) (b := b))
  rw [← hC, ← hS] at K0
  rw [← hC, ← hS]
  have HAL := hid (fun (V : World) (b : Below w.heap.size w V) => hA V b)
  clear hC hS hA hl HC
  by_cases g1 : 60 < n
  · have d1 : decide (60 < (n : Int)) = true := by simp; omega
    have d1n : decide (60 < n) = true := by simp; omega
    clear g1 hg
    go_enter Tryd.func8, Tryd.ntmps8
    go_wp2_with (first
      | (generalize ((w.alloc (.cells C.toArray 83)).alloc (.cells S 84)) = w0 at K0 ⊢; go_at_call 40; refine (HAL.out w0 K0.out.bl).mono ?_; rintro r1 w1 ⟨rfl, hb1⟩; have K1 := hid (K0.out.new hb1); clear hb1; have sC := cutV_cell K1.out.cu HFL.out))
    go_ret
    exact ⟨rfl, K1.out.bl⟩
  have d1 : decide (60 < (n : Int)) = false := by simp; omega
  have d1n : decide (60 < n) = false := by simp; omega
  have d2 : decide (1 < (m : Int)) = true := by simp; omega
  have d2n : decide (1 < m) = true := by simp; omega
  clear g1 hg
  go_enter Tryd.func8, Tryd.ntmps8
  go_wp2_with (first
    | (generalize ((w.alloc (.cells C.toArray 83)).alloc (.cells S 84)) = w0 at K0 ⊢; go_at_call 40; refine (HAL.out w0 K0.out.bl).mono ?_; rintro r1 w1 ⟨rfl, hb1⟩; have K1 := hid (K0.out.new hb1); clear hb1; have sC := cutV_cell K1.out.cu HFL.out))
  go_ret
  exact ⟨rfl, K1.out.bl⟩
end Go.Proofs.YtdegmcfcbndelaaDoor
