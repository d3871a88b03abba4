/-
  Layer 12, the document's side: Grow, Write.
  Layer 12: alive; StepGrows: the root behind any growing step.
  Layer 12, the program's side: After of a writing step.
  Layer 12: StepWrites: what its ways share.
-/
import Derived.Test.YtdegmcfcbndelaaDoorL5
import Derived.Test.YtdegmcfcbndelaaDoorN1
import Derived.Test.YtdegmcfcbndelaaDoorJ4
import Derived.Test.YtdegmcfcbndelaaDoorJ3
import Derived.Test.YtdegmcfcbndelaaDoorL1
import Derived.Test.YtdegmcfcbndelaaDoorK9
import Derived.Test.YtdegmcfcbndelaaDoorJ1
namespace Go.Proofs.YtdegmcfcbndelaaDoor
open Go.RowKit

/-- A growing root's memory, and the empty hashes. -/
structure GwW (W : World) (x : List UInt8) (g : Nat) (V : World) : Prop where
  c : CbW W x V
  e : V.rangeAt g 0 (ubs (eRow 33))
  lo : W.heap.size + 1 < g
  hi : g < V.heap.size
theorem GwW.new {W V V' : World} {x : List UInt8} {g : Nat} (k : GwW W x g V) (hb : Below V.heap.size V V') : GwW W x g V' := ⟨k.c.new hb, range_new hb k.hi k.e, k.lo, Nat.lt_of_lt_of_le k.hi hb.size⟩
theorem GwW.drew {W V : World} {x : List UInt8} {g : Nat} (k : GwW W x g V) : GwW W x g V.drew := k.new (Below.refl _ _).drew
theorem GwW.put {W V : World} {x y : List UInt8} {g : Nat} (k : GwW W x g V) : GwW W y g (V.setRow W.heap.size (ubs y).toArray) :=
  ⟨k.c.put, fun j u hu => (World.cell?_of_block (setRow_other V _ g _ (by have := k.lo; omega))).trans (k.e j u hu), k.lo, by have := k.hi; simpa [World.setRow] using this⟩
theorem range_empty {V : World} {g j : Nat} (h : V.rangeAt g 0 (ubs (eRow 33))) (hj : j < 33) : V.rangeAt g (32 * j) (ubs (emptyL j)) := by
  have := range_mid (a := 32 * j) (m := 32) h
  rw [Nat.zero_add] at this
  rwa [← hpart, hpart_eRow hj] at this
end Go.Proofs.YtdegmcfcbndelaaDoor

namespace Go.Proofs.YtdegmcfcbndelaaDoor
open Go.RowKit

theorem empties_unlike : (emptyL 0 == emptyL 1) = false := by decide +kernel
def h7 : List UInt8 := 7 :: List.replicate 31 0
theorem run_build_h7 {o : Oper} {a : Go.Act} {W : World} (ho : o.op = .build 25 #[(0, .const (.int .u8 7))]) : (execOp a.eval o).run Tryd.prog W = .ok (.value (.agg (ubs h7).toArray)) W :=
  run_build_of _ _ ho _ (by kernel_rfl)
attribute [irreducible] h7
def Alive12C (w : World) : Prop := ∀ W : World, Below w.heap.size w W → Calls Tryd.prog 40 #[] W fun e w' => e = .returned (.bool true) ∧ Below W.heap.size W w'
set_option maxRecDepth 100000 in
set_option maxHeartbeats 2000000 in
theorem alive12_any {w : World} (hT : Tabs w) : Alive12C w := by
  intro W0 hW0
  have HEM := hid (fun (V : World) (b : Below W0.heap.size W0 V) => pempties_any V ((hT.below hW0).below b))
  obtain ⟨y, hy⟩ : ∃ y, y = hashL (joinT 1 h7 (emptyL 0)) := ⟨_, rfl⟩
  have h7l : h7.length = 32 := by rw [h7]; rfl
  have HGR := hid (fun (V : World) (b : Below W0.heap.size W0 V) => show Calls Tryd.prog 50 #[.agg (ubs h7).toArray, .int .u64 1, .int .u64 2] V (fun r W' => r = .returned (.tuple #[.agg (ubs y).toArray, .nilIface]) ∧ Below V.heap.size V W') from by
    have := pgrow12_any h7 1 2 V h7l (by omega) (by omega) ((hT.below hW0).below b)
    have e1 : grE h7 1 2 = y := by
      rw [hy, grE, show hgB 1 2 = true by decide, if_pos rfl, show highN 1 = 0 by decide, show highN 2 = 1 by decide]
      rfl
    rw [e1, show hgB 1 2 = true by decide, if_pos rfl] at this
    exact this)
  have HJN := hid (fun (V : World) (b : Below W0.heap.size W0 V) => show Calls Tryd.prog 25 #[.int .i64 1, .agg (ubs h7).toArray, .agg (ubs (emptyL 0)).toArray] V (fun r W' => r = .returned (.tuple #[.agg (ubs y).toArray, .nilIface]) ∧ Below V.heap.size V W') from by
    have := pjoin_any 1 h7 (emptyL 0) V h7l (emptyL_length 0) ((hT.below hW0).below b)
    rw [jnH, show htB 1 = true by decide, if_pos rfl, show (1 : Int).toNat = 1 from rfl, ← hy] at this
    exact this)
  have HYL := hid (show y.length = 32 by rw [hy]; exact hashL_length _)
  have HAH := hid (fun (o : Oper) (a : Go.Act) (W : World) (h : o.op = .alloc 25) => run_alloc_of (o := o) (a := a) (W := W) _ h _ zeroH8)
  have HAE := hid (fun (o : Oper) (a : Go.Act) (W : World) (h : o.op = .alloc 112) => run_alloc_of (o := o) (a := a) (W := W) _ h _ zeroAH)
  have HNL := hid n32_length
  have HZL := hid z1056_length
  obtain ⟨E0, hE0⟩ : ∃ e, e = eRow 33 := ⟨_, rfl⟩
  have HEL := hid (show E0.length = 1056 by rw [hE0, eRow_length])
  obtain ⟨a0, ha0⟩ : ∃ a, a = emptyL 0 := ⟨_, rfl⟩
  obtain ⟨a1, ha1⟩ : ∃ a, a = emptyL 1 := ⟨_, rfl⟩
  have HR0 := hid (fun (V : World) (G : Nat) (h : At V G (ubs E0).toArray 112) => show V.rangeAt G 0 (ubs a0) ∧ V.rangeAt G 32 (ubs a1) from by
    rw [ha0, ha1]
    rw [hE0] at h
    exact ⟨range_empty (j := 0) (range_whole h) (by omega), range_empty (j := 1) (range_whole h) (by omega)⟩)
  have HA0 := hid (show a0.length = 32 by rw [ha0]; exact emptyL_length 0)
  have HA1 := hid (show a1.length = 32 by rw [ha1]; exact emptyL_length 1)
  have HNE := hid (show (a0 == a1) = !true by rw [ha0, ha1]; exact empties_unlike)
  rw [← hE0] at HEM
  rw [← ha0] at HJN
  have HBW := hid (Below.refl W0.heap.size W0)
  clear hy h7l hE0 ha0 ha1 hT hW0
  go_enter Tryd.func40, Tryd.ntmps40
  go_wp2_with (first
    | (go_at_call 64; refine (HEM.out W0 HBW.out).mono ?_; rintro r1 w1 ⟨rfl, hb1⟩; have B1 := hid hb1; clear hb1)
    | (refine Great.wpList_allocTo rfl _ rfl _ _ (HAE.out _ _ _ rfl) ?_)
    | (refine wpList_store_row rfl _ (.tmp 1) (.tmp 6) rfl w1.heap.size (ubs E0).toArray rfl rfl 112 (ubs z1056).toArray (At.new _ _ _) (sizeAH_of HEL.out) (by simp [ubs_length, HZL.out, HEL.out]) (ubs_all _) ?_; have Bx2 := hid (show Below w1.heap.size w1 ((w1.alloc (.cells (ubs z1056).toArray 112)).setRow w1.heap.size (ubs E0).toArray) from below_setRow ((Below.refl _ _).alloc (Nat.le_refl _) _) (Nat.le_refl _) _); have E2 := hid (show At ((w1.alloc (.cells (ubs z1056).toArray 112)).setRow w1.heap.size (ubs E0).toArray) w1.heap.size (ubs E0).toArray 112 from setRow_heap _ _ _ _ _ _ (At.new w1 (ubs z1056).toArray 112)); have B2 := hid (B1.out.trans (Bx2.out.mono B1.out.size)); clear Bx2; generalize ((w1.alloc (.cells (ubs z1056).toArray 112)).setRow w1.heap.size (ubs E0).toArray) = w2 at E2 B2 ⊢; generalize w1.heap.size = G1 at E2 ⊢)
    | (refine wpList_valW (by rfl) (run_build_h7 rfl) ?_)
    | (go_at_call 50; refine (HGR.out w2 B2.out).mono ?_; rintro r3 w3 ⟨rfl, hb3⟩; have B3 := hid (B2.out.trans (hb3.mono B2.out.size)); have E3 := hid (E2.out.new_ hb3); clear hb3)
    | (refine Great.wpList_allocTo rfl _ rfl _ _ (HAH.out _ _ _ rfl) ?_)
    | (refine wpList_store_row rfl _ (.tmp 2) (.tmp 10) rfl w3.heap.size (ubs y).toArray rfl rfl 25 (ubs n32).toArray (At.new _ _ _) (sizeH_of HYL.out) (by simp [ubs_length, HNL.out, HYL.out]) (ubs_all _) ?_; have Bx4 := hid (show Below w3.heap.size w3 ((w3.alloc (.cells (ubs n32).toArray 25)).setRow w3.heap.size (ubs y).toArray) from below_setRow ((Below.refl _ _).alloc (Nat.le_refl _) _) (Nat.le_refl _) _); have X4 := hid (show At ((w3.alloc (.cells (ubs n32).toArray 25)).setRow w3.heap.size (ubs y).toArray) w3.heap.size (ubs y).toArray 25 from setRow_heap _ _ _ _ _ _ (At.new w3 (ubs n32).toArray 25)); have B4 := hid (B3.out.trans (Bx4.out.mono B3.out.size)); have E4 := hid (E3.out.new_ Bx4.out); clear Bx4; generalize ((w3.alloc (.cells (ubs n32).toArray 25)).setRow w3.heap.size (ubs y).toArray) = w4 at X4 B4 E4 ⊢; generalize w3.heap.size = G2 at X4 ⊢)
    | (refine wpList_valW (by rfl) (run_loadH (.tmp 14) rfl G1 0 rfl a0 (HR0.out _ _ E4.out).1 HA0.out) ?_)
    | (go_at_call 25; refine (HJN.out w4 B4.out).mono ?_; rintro r5 w5 ⟨rfl, hb5⟩; have B5 := hid (B4.out.trans (hb5.mono B4.out.size)); have E5 := hid (E4.out.new_ hb5); have X5 := hid (X4.out.new_ hb5); clear hb5)
    | (refine wpList_store_row rfl _ (.tmp 4) (.tmp 17) rfl w5.heap.size (ubs y).toArray rfl rfl 25 (ubs n32).toArray (At.new _ _ _) (sizeH_of HYL.out) (by simp [ubs_length, HNL.out, HYL.out]) (ubs_all _) ?_; have Bx6 := hid (show Below w5.heap.size w5 ((w5.alloc (.cells (ubs n32).toArray 25)).setRow w5.heap.size (ubs y).toArray) from below_setRow ((Below.refl _ _).alloc (Nat.le_refl _) _) (Nat.le_refl _) _); have Y6 := hid (show At ((w5.alloc (.cells (ubs n32).toArray 25)).setRow w5.heap.size (ubs y).toArray) w5.heap.size (ubs y).toArray 25 from setRow_heap _ _ _ _ _ _ (At.new w5 (ubs n32).toArray 25)); have B6 := hid (B5.out.trans (Bx6.out.mono B5.out.size)); have E6 := hid (E5.out.new_ Bx6.out); have X6 := hid (X5.out.new_ Bx6.out); clear Bx6; generalize ((w5.alloc (.cells (ubs n32).toArray 25)).setRow w5.heap.size (ubs y).toArray) = w6 at Y6 B6 E6 X6 ⊢; generalize w5.heap.size = G3 at Y6 ⊢)
    | (refine wpList_valW (by rfl) (run_loadH (.tmp 2) rfl G2 0 rfl y (range_whole X6.out) HYL.out) ?_)
    | (refine wpList_valW (by rfl) (run_loadH (.tmp 4) rfl G3 0 rfl y (range_whole Y6.out) HYL.out) ?_)
    | (refine wpList_valW (by rfl) (run_eqlH _ (.tmp 26) (.tmp 27) rfl y y HYL.out HYL.out rfl rfl true (by simp) _) ?_)
    | (refine wpList_valW (by rfl) (run_loadH (.tmp 31) rfl G1 0 rfl a0 (HR0.out _ _ E6.out).1 HA0.out) ?_)
    | (refine wpList_valW (by rfl) (run_loadH (.tmp 33) rfl G1 32 rfl a1 (HR0.out _ _ E6.out).2 HA1.out) ?_)
    | (refine wpList_valW (by rfl) (run_neqH _ (.tmp 32) (.tmp 34) rfl a0 a1 HA0.out HA1.out rfl rfl true HNE.out _) ?_))
  go_ret
  exact ⟨rfl, B6.out⟩
end Go.Proofs.YtdegmcfcbndelaaDoor

namespace Go.Proofs.YtdegmcfcbndelaaDoor
open Go.RowKit

/-- What After of a writing step has in memory. -/
structure WaW (W : World) (q : List UInt8) (O : Array Value) (V : World) : Prop where
  bl : Below W.heap.size W V
  o : At V W.heap.size O 72
  r : At V (W.heap.size + 1) (ubs q).toArray 25
  z : At V (W.heap.size + 2) (ubs n32).toArray 25
theorem WaW.new {W V V' : World} {q : List UInt8} {O : Array Value} (k : WaW W q O V) (hb : Below V.heap.size V V') : WaW W q O V' := ⟨k.bl.trans (hb.mono k.bl.size), k.o.new_ hb, k.r.new_ hb, k.z.new_ hb⟩
theorem WaW.start {W : World} {q : List UInt8} {O : Array Value} : WaW W q O (((W.alloc (.cells O 72)).alloc (.cells (ubs q).toArray 25)).alloc (.cells (ubs n32).toArray 25)) :=
  ⟨(((Below.refl _ _).alloc (Nat.le_refl _) _).alloc (by simp) _).alloc (by simp; omega) _, ((At.new _ _ _).alloc _).alloc _, (At.new_at (by simp)).alloc _, At.new_at (by simp)⟩
end Go.Proofs.YtdegmcfcbndelaaDoor

namespace Go.Proofs.YtdegmcfcbndelaaDoor
open Go.RowKit

/-- What the law has in memory: a writing step, two lists. -/
structure SwW (W : World) (C S : List Value) (V : World) : Prop where
  bl : Below W.heap.size W V
  cu : At V W.heap.size C.toArray 72
  sz : At V (W.heap.size + 1) S.toArray 73
section
variable {W V V' : World} {C S : List Value}
theorem SwW.new (k : SwW W C S V) (hb : Below V.heap.size V V') : SwW W C S V' := ⟨k.bl.trans (hb.mono k.bl.size), k.cu.new_ hb, k.sz.new_ hb⟩
theorem SwW.start : SwW W C S ((W.alloc (.cells C.toArray 72)).alloc (.cells S.toArray 73)) :=
  ⟨((Below.refl _ _).alloc (Nat.le_refl _) _).alloc (by simp) _, (At.new _ _ _).alloc _, At.new_at (by simp)⟩
theorem SwW.put (k : SwW W C S V) {G : Nat} (hG : W.heap.size + 2 ≤ G) (cs : Array Value) : SwW W C S (V.setRow G cs) :=
  ⟨below_setRow k.bl (by omega) _, At.setRow_far k.cu (by omega), At.setRow_far k.sz (by omega)⟩
theorem SwW.far (k : SwW W C S V) : W.heap.size + 2 ≤ V.heap.size := by have := k.sz.lt; omega
theorem SwW.at {i : Nat} (k : SwW W C S V) : V.cell? ⟨W.heap.size, i, none⟩ = C[i]? := by rw [k.cu.cell, List.getElem?_toArray]
end
end Go.Proofs.YtdegmcfcbndelaaDoor
