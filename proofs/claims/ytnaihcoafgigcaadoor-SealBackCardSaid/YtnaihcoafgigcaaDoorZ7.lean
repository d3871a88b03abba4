/-
  The program's alike and Blocks of layer 5.
  The iterator that the program's Blocks hands back: its contract.
-/
import Derived.Test.YtnaihcoafgigcaaDoorY1
import Derived.Test.YtnaihcoafgigcaaDoorZ5
import Derived.Test.YtnaihcoafgigcaaDoorZ6
import Derived.Test.YtnaihcoafgigcaaDoorZ4
import Derived.Sort.LoopGhostIn
namespace Go.Proofs.YtnaihcoafgigcaaDoor
open Go.RowKit

set_option maxRecDepth 100000 in
set_option maxHeartbeats 1000000 in
theorem alike_any (key : List UInt8) (p : Option Addr) (w : World) (hk : key.length = 16) (hc : Cip w key p) :
    Calls Tryd.prog 71 #[.pointer p] w fun e w' => ∃ C, e = .returned (.pointer (some ⟨C, 0, none⟩)) ∧ w.heap.size ≤ C ∧ At w' C (ubs (rks key 11)).toArray 94 ∧ Below w.heap.size w w' := by
  have HR := hid (roundKey_in key p 0 w (by omega) hk hc)
  have HK := hid hk
  have HE := hid (rk_zero key)
  rw [HE.out] at HR
  have HN := hid (fun W => new_any key W hk)
  have hz := noughts16
  clear hk hc
  go_enter Tryd.func71, Tryd.ntmps71
  go_wp2_with (first
    | (go_at_call 80; refine HR.out.mono ?_; rintro e w1 ⟨rfl, hb1⟩; have HB1 := hid hb1; clear hb1)
    | (refine wpList_store_row rfl _ (.tmp 3) (.tmp 8) rfl w1.heap.size (ubs key).toArray rfl rfl 22 (ubs n16).toArray (At.new w1 _ _) (size16_of HK.out) ?e3 (ubs_all _) ?e4; rotate_right; have HB2 := hid (below_setRow ((Below.refl w1.heap.size w1).alloc (Nat.le_refl _) (.cells (ubs n16).toArray 22)) (Nat.le_refl _) (ubs key).toArray); have D2 := hid (setRow_heap (w1.alloc (.cells (ubs n16).toArray 22)) w1.heap.size (ubs n16).toArray (ubs key).toArray 22 (0, 0) (At.new w1 _ _)); generalize ((w1.alloc (.cells (ubs n16).toArray 22)).setRow w1.heap.size (ubs key).toArray) = W2 at HB2 D2 ⊢)
    | (refine wpList_load_row rfl _ (.tmp 3) rfl w1.heap.size rfl 22 (ubs key).toArray (0, 0) _ D2.out Tryd.underlying22 rfl (size16_of HK.out) ?_)
    | (go_at_call 22; refine (HN.out _).mono ?_; rintro e w3 ⟨C, rfl, hC, hA, hb3⟩; have HC := hid hC; have HA := hid hA; have HB3 := hid hb3; clear hC hA hb3))
  case e3 => simp [ubs_length, n16_length, HK.out]
  go_ret
  have h1 := HB1.out.size
  have h2 := HB2.out.size
  exact ⟨C, rfl, Nat.le_trans h1 (Nat.le_trans h2 HC.out), HA.out, HB1.out.trans ((HB2.out.mono h1).trans (HB3.out.mono (Nat.le_trans h1 h2)))⟩
/-- An iterator: its counter, its cipher's place and its cipher. -/
structure Itr (key c : List UInt8) (g D C : Nat) (W : World) : Prop where
  ctr : At W g (ubs c).toArray 22
  own : At W D #[.pointer (some ⟨C, 0, none⟩)] 65
  ciph : At W C (ubs (rks key 11)).toArray 94
theorem Itr.below {key c : List UInt8} {g D C : Nat} {W W' : World} (h : Itr key c g D C W) (hb : Below W.heap.size W W') : Itr key c g D C W' := ⟨h.ctr.new_ hb, h.own.new_ hb, h.ciph.new_ hb⟩
set_option maxRecDepth 100000 in
set_option maxHeartbeats 1000000 in
theorem pblocks_any (key c : List UInt8) (p : Option Addr) (w : World) (hk : key.length = 16) (hc : Cip w key p) :
    Calls Tryd.prog 58 #[.pointer p, .agg (ubs c).toArray] w fun e w' => ∃ D C, e = .returned (.func (.func 72) #[] #[.pointer (some ⟨w.heap.size, 0, none⟩), .pointer (some ⟨D, 0, none⟩)]) ∧ w.heap.size ≤ D ∧ w.heap.size ≤ C ∧ Itr key c w.heap.size D C w' ∧ Below w.heap.size w w' := by
  obtain ⟨W0, hW0⟩ : ∃ W0, W0 = w.alloc (.cells (ubs c).toArray 22) := ⟨_, rfl⟩
  have hb0 : Below w.heap.size w W0 := by rw [hW0]; exact (Below.refl _ _).alloc (Nat.le_refl _) _
  have HB0 := hid hb0
  have HAT := hid (show At W0 w.heap.size (ubs c).toArray 22 by rw [hW0]; exact At.new _ _ _)
  have HAL := hid (alike_any key p W0 hk (hc.below hb0))
  clear hk hc hb0
  subst hW0
  go_enter Tryd.func58, Tryd.ntmps58
  go_wp2_with (go_at_call 71; refine HAL.out.mono ?_; rintro e w1 ⟨C, rfl, hC, hA, hb1⟩; have HC := hid hC; have HA := hid hA; have HB1 := hid hb1; clear hC hA hb1)
  go_ret
  have h0 := HB0.out.size
  have h1 := HB1.out.size
  exact ⟨w1.heap.size, C, rfl, Nat.le_trans h0 h1, Nat.le_trans h0 HC.out, ⟨(HAT.out.new_ HB1.out).alloc _, At.new _ _ _, HA.out.alloc _⟩, (HB0.out.trans (HB1.out.mono h0)).alloc (Nat.le_trans h0 h1) _⟩
end Go.Proofs.YtnaihcoafgigcaaDoor

namespace Go.Proofs.YtnaihcoafgigcaaDoor
open Go.RowKit

attribute [local go_sem] Oper.semAt_some

/-- What a round keeps: every row of cells but those of S. -/
structure KeepsOut (S : Nat → Prop) (A B : World) : Prop where
  size : A.heap.size ≤ B.heap.size
  same : ∀ (k : Nat) (cs : Array Value) (t : TypeId) (fr : Nat × Nat), ¬ S k → A.heap[k]? = some (.cells cs t fr) → B.heap[k]? = some (.cells cs t fr)
theorem KeepsOut.refl (S : Nat → Prop) (A : World) : KeepsOut S A A := ⟨Nat.le_refl _, fun _ _ _ _ _ h => h⟩
theorem KeepsOut.trans {S : Nat → Prop} {A B D : World} (h : KeepsOut S A B) (k : KeepsOut S B D) : KeepsOut S A D := ⟨Nat.le_trans h.size k.size, fun i cs t fr hi h0 => k.same i cs t fr hi (h.same i cs t fr hi h0)⟩
theorem KeepsOut.putObj {S : Nat → Prop} (W : World) (l : Nat) (o o' : Obj) (h : W.heap[l]? = some o) (hc : o.isCells = false) : KeepsOut S W (W.putObj l o') :=
  ⟨(grownBy_putObj' W l o').size, fun k cs t fr _ h0 => by
    by_cases e : k = l
    · subst e
      rw [h] at h0
      cases h0
      cases hc
    · exact ((grownBy_putObj' W l o').block k (Array.getElem?_eq_some_iff.1 h0).1 (by simpa using e)).trans h0⟩
theorem KeepsOut.of_below {S : Nat → Prop} {A B : World} (h : Below A.heap.size A B) : KeepsOut S A B := ⟨h.size, fun k _ _ _ _ h0 => (h.block k (Array.getElem?_eq_some_iff.1 h0).1).trans h0⟩
theorem KeepsOut.setRow {S : Nat → Prop} (A : World) (g : Nat) (hg : S g) (cs : Array Value) : KeepsOut S A (A.setRow g cs) := ⟨by simp, fun k _ _ _ hk h0 => (setRow_other A g k cs (fun e => hk (e ▸ hg))).trans h0⟩
theorem KeepsOut.setCell {S : Nat → Prop} (A : World) (p : Addr) (hg : S p.block) (v : Value) : KeepsOut S A (A.setCell p v) := ⟨by simp [World.setCell], fun k _ _ _ hk h0 => (Below.heap_setCell A p v k (fun e => hk (e ▸ hg))).trans h0⟩
theorem KeepsOut.at_ {S : Nat → Prop} {g : Nat} {A B : World} {cs : Array Value} {t : TypeId} (h : KeepsOut S A B) (hA : At A g cs t) (hg : ¬ S g) : At B g cs t := h.same g cs t (0, 0) hg hA
theorem grown_setRow (W : World) (g : Nat) (cs : Array Value) : W.grownBy (W.setRow g cs) (some g) := ⟨rfl, rfl, rfl, by simp, fun k _ hk => setRow_other W g k cs (fun e => hk (by rw [e]))⟩
/-- Block k of a stream as it is handed to the body. -/
def elB (key c : List UInt8) (k : Nat) : Array Value := #[.agg (ubs (encL (rks key 11) (nextL c k))).toArray]

/-- What holds between the iterator's rounds. -/
structure ItW (key c : List UInt8) (B D C k : Nat) (W : World) : Prop where
  here : At W B (ubs (nextL c k)).toArray 22
  own : At W D #[.pointer (some ⟨C, 0, none⟩)] 65
  ciph : At W C (ubs (rks key 11)).toArray 94
theorem ItW.new {key c : List UInt8} {B D C k : Nat} {W W' : World} (h : ItW key c B D C k W) (hb : Below W.heap.size W W') : ItW key c B D C k W' := ⟨h.here.new_ hb, h.own.new_ hb, h.ciph.new_ hb⟩
theorem ItW.kept {S : Nat → Prop} {key c : List UInt8} {B D C k : Nat} {W W' : World} (h : ItW key c B D C k W) (hk : KeepsOut S W W') (hB : ¬ S B) (hD : ¬ S D) (hC : ¬ S C) : ItW key c B D C k W' := ⟨hk.at_ h.here hB, hk.at_ h.own hD, hk.at_ h.ciph hC⟩

set_option maxRecDepth 100000 in
set_option maxHeartbeats 4000000 in
theorem blocks_in (n l g D C N : Nat) (S : Nat → Prop) (key c : List UInt8) (J : Nat → World → Prop) (Jx : Unit → World → Prop) (W : World) (hkl : key.length = 16) (hcl : c.length = 16)
    (hJ : FreeFrom W.heap.size J) (hN : ∀ k W', J k W' → k < N)
    (hY : ∀ k W1, J k W1 → YieldAt Fence.wide (n - 1) Tryd.prog l (elB key c k) W1 fun e W' => (e = .returned (.bool true) ∧ J (k + 1) W' ∧ KeepsOut S W1 W') ∨ (e = .returned (.bool false) ∧ Jx () W'))
    (hI : Itr key c g D C W) (hS : ∀ k, S k → k < W.heap.size) (hD : ¬ S D) (hC : ¬ S C) (h0 : J 0 W) :
    CallsIn Fence.wide n Tryd.prog 72 #[.func (.yield l) #[] #[], .pointer (some ⟨g, 0, none⟩), .pointer (some ⟨D, 0, none⟩)] W fun e W' => (∃ v, e = .returned v) ∧ Jx () W' := by
  have HJ := hid hJ
  have HY := hid hY
  have HI := hid hI
  have HCL := hid hcl
  have HKL := hid hkl
  have HDl := hid (show D ≠ W.heap.size from Nat.ne_of_lt hI.own.lt)
  have HCl := hid (show C ≠ W.heap.size from Nat.ne_of_lt hI.ciph.lt)
  have HB := hid (show ¬ S W.heap.size from fun h => Nat.lt_irrefl _ (hS _ h))
  have HD := hid hD
  have HC := hid hC
  have H0 := hid h0
  have HNN := hid hN
  have HEN := hid (fun (b : List UInt8) (W : World) (hb : b.length = 16) (h : At W C (ubs (rks key 11)).toArray 94) => encrypt_p key b (some ⟨C, 0, none⟩) W hkl hb (.inr ⟨C, rfl, h⟩))
  have hz := noughts16
  clear hJ hN hY hI hS hD hC h0 hcl hkl
  refine callsIn_of_wp Tryd.func72 rfl trivial ?_ rfl
  simp only [Tryd.ntmps72, List.size_toArray, List.length_cons, List.length_nil, Nat.reduceAdd, Nat.reduceSub, Array.replicate_succ, Array.replicate_zero, List.push_toArray, List.append_toArray, List.nil_append, List.cons_append]
  gi_wp2_with (first
    | (refine wpListIn_load_row rfl _ (.tmp 1) rfl g rfl 22 (ubs c).toArray _ HI.out.ctr Tryd.underlying22 rfl (size16_of HCL.out) ?_)
    | (refine wpListIn_store_row rfl _ (.tmp 4) (.tmp 5) rfl W.heap.size (ubs c).toArray rfl rfl 22 (ubs n16).toArray (At.new W _ _) (size16_of HCL.out) ?e3 (ubs_all _) ?e4; rotate_right))
  case e3 => simp [ubs_length, n16_length, HCL.out]
  have hb2 : Below W.heap.size W ((W.alloc (.cells (ubs n16).toArray 22)).setRow W.heap.size (ubs c).toArray) := below_setRow ((Below.refl _ _).alloc (Nat.le_refl _) _) (Nat.le_refl _) _
  have HW := hid (show ItW key c W.heap.size D C 0 ((W.alloc (.cells (ubs n16).toArray 22)).setRow W.heap.size (ubs c).toArray) from ⟨by rw [nextL_zero c HCL.out]; exact setRow_heap _ _ (ubs n16).toArray _ _ _ (At.new _ _ _), HI.out.own.new_ hb2, HI.out.ciph.new_ hb2⟩)
  have HJ2 := hid (HJ.out 0 W _ none H0.out (grown_of_below hb2) (fun r e => by cases e))
  have HSZ := hid hb2.size
  generalize ((W.alloc (.cells (ubs n16).toArray 22)).setRow W.heap.size (ubs c).toArray) = W2 at HW HJ2 HSZ ⊢
  clear hb2 HI H0
  try simp only [Act.put]
  gi_loopg [] N (fun gk wr => ∃ k : Nat, Hid (gk + k = N) ∧ Hid (J k wr) ∧ ItW key c W.heap.size D C k wr)
  case atStart => exact ⟨0, rfl, HJ2.out, HW.out⟩
  case round =>
    clear HJ2 HW HSZ
    obtain ⟨k, HK, HJk, hA⟩ := hrel
    have HA := hid hA
    clear hA
    have HX := hid (nextL_length c k)
    have HAD := hid (nextL_add c k 1)
    have HNX := hid (fun (W : World) => pnext_any (nextL c k) 1 W (nextL_length c k) (by omega))
    obtain ⟨x, hx⟩ : ∃ x, x = nextL c k := ⟨_, rfl⟩
    obtain ⟨y, hy⟩ : ∃ y, y = encL (rks key 11) (nextL c k) := ⟨_, rfl⟩
    have HYX := hid (show encL (rks key 11) x = y by rw [hy, hx])
    have HEL := hid (show elB key c k = #[.agg (ubs y).toArray] by rw [hy]; rfl)
    have HCT := hid (show At wr W.heap.size (ubs x).toArray 22 by rw [hx]; exact HA.out.here)
    have hcd := HA.out.own.cell 0
    rw [HAD.out, ← hx] at HNX
    rw [← hx] at HX
    have HXX := hid hx
    clear hx hy
    gi_wp2_with (first
      | (refine wpListIn_load_row rfl _ (.tmp 4) rfl W.heap.size rfl 22 (ubs x).toArray _ HCT.out Tryd.underlying22 rfl (size16_of HX.out) ?_)
      | (refine ⟨trivial, (fun h => by cases h), ?_⟩; gi_at_call 73; (have cq := HEN.out x wr HX.out HA.out.ciph); rw [HYX.out] at cq; refine (callsIn_wide.2 cq).mono ?_; clear cq; rintro e W3 ⟨rfl, hb3⟩; have HA3 := hid (HA.out.new hb3); have HC3 := hid (HCT.out.new_ hb3); have HJ3 := hid (HJ.out k wr _ none HJk.out (grown_of_below hb3) (fun r e => by cases e)); clear hb3))
    obtain ⟨fn, tmps, assign, body, hy, hR⟩ := HY.out k W3 HJ3.out
    rw [HEL.out] at hy
    clear HCT hcd HA HJk
    rw [hy]
    rw [Oper.uponIn_round]
    refine ⟨(fun h => by cases h), hR.mono ?_⟩
    clear hR hy
    rintro e W4 (⟨rfl, hJ4, hK4⟩ | ⟨rfl, hx4⟩)
    · have HJ4 := hid hJ4
      have HA4 := hid (HA3.out.kept hK4 HB.out HD.out HC.out)
      have HC4 := hid (hK4.at_ HC3.out HB.out)
      have hlt := HNN.out _ _ hJ4
      have HLT := hid hlt
      clear hJ4 hK4 hlt HA3 HC3 HJ3
      gi_wp2_with (first
        | (refine wpListIn_load_row rfl _ (.tmp 4) rfl W.heap.size rfl 22 (ubs x).toArray _ HC4.out Tryd.underlying22 rfl (size16_of HX.out) ?_)
        | (refine ⟨trivial, (fun h => by cases h), ?_⟩; gi_at_call 74; refine (callsIn_wide.2 (HNX.out W4)).mono ?_; rintro e W5 ⟨rfl, hb5⟩; have HA5 := hid (HA4.out.new hb5); have HC5 := hid (HC4.out.new_ hb5); have HJ5 := hid (HJ.out (k + 1) W4 _ none HJ4.out (grown_of_below hb5) (fun r e => by cases e)); clear hb5)
        | (refine wpListIn_store_row rfl _ (.tmp 4) (.tmp 12) rfl W.heap.size (ubs (nextL c (k + 1))).toArray rfl rfl 22 (ubs x).toArray HC5.out (size16_of (nextL_length _ _)) ?e5 (ubs_all _) ?e6; rotate_right))
      case e5 => simp [ubs_length, HX.out, nextL_length]
      try simp only [Act.put]
      gi_roundg (N - (k + 1))
      case rel =>
        refine ⟨k + 1, by have := HLT.out; show N - (k + 1) + (k + 1) = N; omega, hid (HJ.out (k + 1) W5 _ (some W.heap.size) HJ5.out (grown_setRow _ _ _) (fun r e => by cases e; exact Nat.le_refl _)), ⟨setRow_heap _ _ _ _ _ _ HC5.out, HA5.out.own.setRow_far HDl.out, HA5.out.ciph.setRow_far HCl.out⟩⟩
      case measure => have := HK.out; have := HLT.out; omega
    · gi_wp2
      go_end0
      exact ⟨⟨_, rfl⟩, hx4⟩
theorem blocks_ends (n g D C : Nat) (S : Nat → Prop) (key c : List UInt8) (w : World) (hkl : key.length = 16) (hcl : c.length = 16) (hI : Itr key c g D C w) (hS : ∀ k, S k → k < w.heap.size) (hD : ¬ S D) (hC : ¬ S C) :
    SeqEnds Fence.wide n Tryd.prog 72 #[.pointer (some ⟨g, 0, none⟩), .pointer (some ⟨D, 0, none⟩)] (elB key c) (KeepsOut S) w :=
  fun l N J Jx W hW hJ hN hY h0 => blocks_in n l g D C N S key c J Jx W hkl hcl hJ hN hY (hI.below hW) (fun k h => Nat.lt_of_lt_of_le (hS k h) hW.size) hD hC h0
end Go.Proofs.YtnaihcoafgigcaaDoor
