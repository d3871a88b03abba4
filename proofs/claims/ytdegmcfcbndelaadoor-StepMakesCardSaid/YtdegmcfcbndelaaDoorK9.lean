/-
  Layer 10, the program's side: the text that is joined lies in new memory; checkCounts; what a stack of hashes holds; slices of hashes cut.
  Layer 10, the program's side: what climb hands to the walk.
  Layer 10, the program's side: two hashes are joined.
  Layer 10, the program's side: climb, whoever is handed the texts.
  Layer 10, the program's side: Root, Check, Texts.
  Layer 10, the program's side: Texts.
-/
import Derived.Test.YtdegmcfcbndelaaDoorK6
import Derived.Test.YtdegmcfcbndelaaDoorK8
import Derived.Test.YtdegmcfcbndelaaDoorJ6
import Derived.Test.YtdegmcfcbndelaaDoorY4
import Derived.Test.YtdegmcfcbndelaaDoorV3
import Derived.Test.YtdegmcfcbndelaaDoorK4
namespace Go.Proofs.YtdegmcfcbndelaaDoor
open Go.RowKit

theorem Ah.cap {W : World} {base n c : Nat} {A : Option Addr} {bs : List UInt8} (h : Ah W base (.slice A n c) n bs) : n ≤ c := by
  rcases h.2 with ⟨e, h0⟩ | ⟨g, cap, cur, e, hb, hh, hc, -⟩
  · cases e; omega
  · cases e; exact hc
/-- A hash of it. -/
theorem Ah.range {W : World} {base n c : Nat} {A : Option Addr} {bs : List UInt8} (h : Ah W base (.slice A n c) n bs) {i : Nat} (hi : i < n) : ∃ g, A = some ⟨g, 0, none⟩ ∧ W.rangeAt g (32 * i) (ubs (hpart bs i)) := by
  have hl : bs.length = 32 * n := by have := h.1; rw [ubs_length] at this; omega
  rcases h.2 with ⟨e, h0⟩ | ⟨g, cap, cur, e, hb, hh, -⟩
  · omega
  · cases e
    refine ⟨g, rfl, fun q u hq => ?_⟩
    have hq2 : q < 32 := by
      have := (List.getElem?_eq_some_iff.1 hq).1
      rw [ubs_length, hpart_length hl hi] at this
      exact this
    have h5 : (ubs bs)[32 * i + q]? = some u := by
      rw [← hq, hpart]
      unfold ubs
      rw [List.getElem?_map, List.getElem?_map, List.getElem?_take, if_pos hq2, List.getElem?_drop]
    have := World.ownsRow.cells h (g := g) rfl (32 * i + q) u h5
    rwa [add_plain, Nat.zero_add] at this
end Go.Proofs.YtdegmcfcbndelaaDoor

namespace Go.Proofs.YtdegmcfcbndelaaDoor
open Go.RowKit

/-- Who is handed the texts that are joined: what has been handed (ts), in blocks of his own (T). -/
structure JtC (gj : Nat) (lbj : Array Value) (b0 : Nat) (K : (Nat → Prop) → List (List UInt8) → World → Prop) : Prop where
  fn : ∀ args V, (callFunc gj args).run Tryd.prog V = .ok (.enter gj args) V
  inn : ∀ {T ts V}, K T ts V → ∀ k, T k → b0 ≤ k ∧ k < V.heap.size
  keep : ∀ {T ts V V'}, K T ts V → V.heap.size ≤ V'.heap.size → KeepsS T V V' → K T ts V'
  call : ∀ {T ts V bs} (A : Option Addr) (c : Nat), K T ts V → bs.length = 66 → ts.length ≤ 8589934591 → Rb V V.heap.size A bs → (∀ q, (Value.slice A 66 c).ownBlock = some q → b0 ≤ q ∧ q < V.heap.size ∧ ¬ T q) →
    Calls Tryd.prog gj (#[.slice A 66 c] ++ lbj) V fun r V' => r = .returned (.tuple #[]) ∧ Fr T V V' ∧ ∃ T', K T' (ts ++ [bs]) V' ∧ ∀ k, T' k → T k ∨ V.heap.size ≤ k ∨ (Value.slice A 66 c).ownBlock = some k
/-- The hashes that are open, and the texts that were handed on. -/
def OpC (K : (Nat → Prop) → List (List UInt8) → World → Prop) (s XO : Nat) (st : List (List UInt8)) (tx : List (List UInt8)) (V : World) : Prop :=
  ∃ (v : Value) (T : Nat → Prop), At V XO #[v] 31 ∧ Ah V (XO + 1) v st.length st.flatten ∧ K T tx V ∧ ∀ k, T k → k ≠ s ∧ k ≠ s + 1 ∧ k ≠ s + 2 ∧ k ≠ s + 3 ∧ k ≠ XO ∧ v.ownBlock ≠ some k
/-- A list of hashes that came in, as far as it is left. -/
def InC (w : World) (b0 : Nat) (X : Nat) (bs : List UInt8) (V : World) : Prop :=
  ∃ (A : Option Addr) (n c : Nat), At V X #[.slice A n c] 31 ∧ n ≤ c ∧ 32 * n = bs.length ∧ Rd w b0 A (ubs bs)
section
variable {gj : Nat} {lbj : Array Value} {b0 : Nat} {K : (Nat → Prop) → List (List UInt8) → World → Prop} {w V V' : World} {s XO : Nat} {st tx : List (List UInt8)}
theorem OpC.keep (j : JtC gj lbj b0 K) {v : Value} {T : Nat → Prop} (h1 : At V XO #[v] 31) (h2 : Ah V (XO + 1) v st.length st.flatten) (h3 : K T tx V) (h4 : ∀ k, T k → k ≠ s ∧ k ≠ s + 1 ∧ k ≠ s + 2 ∧ k ≠ s + 3 ∧ k ≠ XO ∧ v.ownBlock ≠ some k) {S : Nat → Prop} (hf : Fr S V V') (hX : ¬ S XO) (hv : ∀ k, v.ownBlock = some k → ¬ S k) (hT : ∀ k, T k → ¬ S k) :
    At V' XO #[v] 31 ∧ Ah V' (XO + 1) v st.length st.flatten ∧ K T tx V' ∧ ∀ k, T k → k ≠ s ∧ k ≠ s + 1 ∧ k ≠ s + 2 ∧ k ≠ s + 3 ∧ k ≠ XO ∧ v.ownBlock ≠ some k := by
  refine ⟨h1.fr hf hX, ⟨h2.1, ?_⟩, j.keep h3 hf.size (KeepsS.of_fr hf (fun k hk => (j.inn h3 k hk).2) hT), h4⟩
  rcases h2.2 with h5 | ⟨g, cap, cur, rfl, hb1, hh, r⟩
  · exact .inl h5
  · exact .inr ⟨g, cap, cur, rfl, hb1, (hf.block g (lt_of_block hh) (hv g rfl)).trans hh, r⟩
theorem OpC.new (j : JtC gj lbj b0 K) (h : OpC K s XO st tx V) (hb : Below V.heap.size V V') : OpC K s XO st tx V' := by
  obtain ⟨v, T, h1, h2, h3, h4⟩ := h
  exact ⟨v, T, OpC.keep j h1 h2 h3 h4 (S := fun _ => False) (Fr.of_new hb) id (fun _ _ => id) (fun _ _ => id)⟩
theorem OpC.far (j : JtC gj lbj b0 K) (h : OpC K s XO st tx V) {Y : Nat} (hY : Y = s ∨ Y = s + 1) (hs : s + 3 < XO) (u : Value) : OpC K s XO st tx (V.setCell ⟨Y, 0, none⟩ u) := by
  obtain ⟨v, T, h1, h2, h3, h4⟩ := h
  refine ⟨v, T, OpC.keep j h1 h2 h3 h4 (S := fun k => k = Y) (show Fr (fun k => k = Y) V (V.setCell ⟨Y, 0, none⟩ u) from (Fr.refl (fun k => k = Y) V).setCell (p := ⟨Y, 0, none⟩) (.inr rfl) u) (by show ¬ XO = Y; omega) (fun k hk e => ?_) (fun k hk e => ?_)⟩
  · have := (World.ownsRow.lt h2 k hk).1
    have e' : k = Y := e
    omega
  · have := h4 k hk
    have e' : k = Y := e
    omega
/-- A hash more: its row is the old one, or a new one. -/
theorem OpC.push (j : JtC gj lbj b0 K) {v v4 : Value} {T : Nat → Prop} {W2 W3 : World} {st' : List (List UInt8)} (h1 : At V XO #[v] 31) (h3 : K T tx V) (h4 : ∀ k, T k → k ≠ s ∧ k ≠ s + 1 ∧ k ≠ s + 2 ∧ k ≠ s + 3 ∧ k ≠ XO ∧ v.ownBlock ≠ some k)
    (hlt : ∀ k, v.ownBlock = some k → XO + 1 ≤ k) (hb : Below V.heap.size V W2) (hg : W2.grownBy W3 v.ownBlock) (ha : Ah W3 (XO + 1) v4 st'.length st'.flatten) (ho : v4.ownBlock = v.ownBlock ∨ v4.ownBlock = some W2.heap.size) : OpC K s XO st' tx (W3.setCell ⟨XO, 0, none⟩ v4) := by
  have hf : Fr (fun k => k = XO ∨ v.ownBlock = some k) V (W3.setCell ⟨XO, 0, none⟩ v4) := ((Fr.of_new hb).grown hg (fun k hk => .inr (.inr hk))).setCell (p := ⟨XO, 0, none⟩) (.inr (.inl rfl)) v4
  refine ⟨v4, T, ?_, ha.far (p := ⟨XO, 0, none⟩) (Nat.lt_succ_self _) _, j.keep h3 hf.size (KeepsS.of_fr hf (fun k hk => (j.inn h3 k hk).2) (fun k hk e => ?_)), fun k hk => ?_⟩
  · have h5 : At W3 XO #[v] 31 := h1.fr (S := fun k => v.ownBlock = some k) ((Fr.of_new hb).grown hg (fun k hk => .inr hk)) (fun e => by have := hlt _ e; omega)
    exact h5.put 0 v4
  · have := h4 k hk
    rcases e with e | e
    · omega
    · exact this.2.2.2.2.2 e
  · have h5 := h4 k hk
    refine ⟨h5.1, h5.2.1, h5.2.2.1, h5.2.2.2.1, h5.2.2.2.2.1, fun e => ?_⟩
    rcases ho with ho | ho
    · exact h5.2.2.2.2.2 (by rw [← ho]; exact e)
    · rw [ho] at e
      have h6 := (j.inn h3 k hk).2
      have h7 := hb.size
      have : W2.heap.size = k := by simpa using e
      omega
theorem InC.fr {X : Nat} {bs : List UInt8} (h : InC w b0 X bs V) {S : Nat → Prop} (hf : Fr S V V') (hX : ¬ S X) : InC w b0 X bs V' := by
  obtain ⟨A, n, c, h1, h2⟩ := h
  exact ⟨A, n, c, h1.fr hf hX, h2⟩
end
end Go.Proofs.YtdegmcfcbndelaaDoor

namespace Go.Proofs.YtdegmcfcbndelaaDoor
open Go.RowKit

end Go.Proofs.YtdegmcfcbndelaaDoor

namespace Go.Proofs.YtdegmcfcbndelaaDoor
open Go.RowKit

section
variable {gj : Nat} {lbj : Array Value} {b0 : Nat} {K : (Nat → Prop) → List (List UInt8) → World → Prop}
end
end Go.Proofs.YtdegmcfcbndelaaDoor

namespace Go.Proofs.YtdegmcfcbndelaaDoor
open Go.RowKit

end Go.Proofs.YtdegmcfcbndelaaDoor

namespace Go.Proofs.YtdegmcfcbndelaaDoor
open Go.RowKit

end Go.Proofs.YtdegmcfcbndelaaDoor
