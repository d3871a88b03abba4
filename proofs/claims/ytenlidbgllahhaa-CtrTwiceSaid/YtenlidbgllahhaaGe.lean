/-
  A loop over an iterator that has no end of its own: the loop's body ends it. Nothing here speaks of the program.
-/
import Derived.RangeFuncNested
import Derived.RangeFuncLeaves
import Derived.OwnWalkIn
import Derived.TacticsInMore
import Derived.Test.YtenlidbgllahhaaBase
namespace Go.Proofs.Ytenlidbgllahhaa
open Go.RowKit

section
variable {F : Fence} {n : Nat} {P : Program}
/-- What speaks of nothing from block B on. -/
def FreeFrom {β : Type} (B : Nat) (J : β → World → Prop) : Prop :=
  ∀ s W W' row, J s W → W.grownBy W' row → (∀ r, row = some r → B ≤ r) → J s W'
theorem FreeFrom.own {β : Type} {B : Nat} {J : β → World → Prop} (h : FreeFrom B J) : OwnFrom B J := fun s W W' row hs hg hr => h s W W' row hs hg fun r e => (hr r e).1
theorem FreeFrom.and {β : Type} {B : Nat} {I J : β → World → Prop} (h : FreeFrom B I) (h' : FreeFrom B J) : FreeFrom B (fun s W => I s W ∧ J s W) := fun s W W' row hs hg hr => ⟨h s W W' row hs.1 hg hr, h' s W W' row hs.2 hg hr⟩
/-- An iterator without end: it hands element k to the body while the body goes on, which it does fewer than N times. -/
def SeqEnds (F : Fence) (n : Nat) (P : Program) (g : Nat) (lb : Array Value) (el : Nat → Array Value) (Kp : World → World → Prop) (w : World) : Prop :=
  ∀ (l N : Nat) (J : Nat → World → Prop) (Jx : Unit → World → Prop) (W : World), Below w.heap.size w W → FreeFrom W.heap.size J → (∀ k W', J k W' → k < N) →
    (∀ k W1, J k W1 → YieldAt F (n - 1) P l (el k) W1 fun e W' => (e = .returned (.bool true) ∧ J (k + 1) W' ∧ Kp W1 W') ∨ (e = .returned (.bool false) ∧ Jx () W')) →
    J 0 W →
    CallsIn F n P g (#[.func (.yield l) #[] #[]] ++ lb) W fun e W' => (∃ v, e = .returned v) ∧ Jx () W'
theorem SeqEnds.later {g : Nat} {lb : Array Value} {el : Nat → Array Value} {Kp : World → World → Prop} {w w' : World} (h : SeqEnds F n P g lb el Kp w) (hb : Below w.heap.size w w') : SeqEnds F n P g lb el Kp w' :=
  fun l N J Jx W hW => h l N J Jx W (hb.trans (hW.mono hb.size))
/-- How the body may be left. -/
def endsPost (B : Nat) (Kp : World → World → Prop) (I : Nat → World → Prop) (Ix : Code → World → Prop) (k : Nat) (W : World) : Exit → Act → World → Prop
  | .normal, _, W' => KeepsFrom B W W' ∧ Kp W W' ∧ I (k + 1) W'
  | .ret, _, W' => KeepsFrom B W W' ∧ Ix .ret W'
  | .exit id, _, W' => KeepsFrom B W W' ∧ Ix (.exit id) W'
  | .goto t, _, W' => KeepsFrom B W W' ∧ Ix (.goto t) W'
  | .panic _, _, _ => False
  | .outgrown, _, _ => False
/-- The loop's record and the block for deferred calls lie as they lay. -/
structure Booked (w : World) (rec : LoopState → Option Code → Loop) (st : LoopState) (c : Option Code) (W : World) : Prop where
  l : W.heap[w.heap.size + 1]? = some (.loop (rec st c))
  d : W.heap[w.heap.size]? = some (.deferred (some []))
theorem Booked.kept {w W W' : World} {rec : LoopState → Option Code → Loop} {st : LoopState} {c : Option Code} (h : Booked w rec st c W) (k : KeepsFrom w.heap.size W W') : Booked w rec st c W' :=
  ⟨k.same _ _ (by omega) h.l rfl, k.same _ _ (Nat.le_refl _) h.d rfl⟩
theorem Booked.abides {w W W' : World} {rec : LoopState → Option Code → Loop} {st : LoopState} {c : Option Code} {row : Option Nat} (h : Booked w rec st c W) (hg : W.grownBy W' row) (hr : ∀ r, row = some r → w.heap.size + 2 ≤ r) : Booked w rec st c W' :=
  ⟨(hg.block _ (Array.getElem?_eq_some_iff.1 h.l).1 (fun e => by have := hr _ e.symm; omega)).trans h.l, (hg.block _ (Array.getElem?_eq_some_iff.1 h.d).1 (fun e => by have := hr _ e.symm; omega)).trans h.d⟩
theorem Booked.put {w W : World} {rec : LoopState → Option Code → Loop} {st st' : LoopState} {c c' : Option Code} (h : Booked w rec st c W) : Booked w rec st' c' (W.putObj (w.heap.size + 1) (.loop (rec st' c'))) :=
  ⟨World.putObj_heap_same (Array.getElem?_eq_some_iff.1 h.l).1, (World.putObj_heap_other (by omega)).trans h.d⟩

theorem wpIn_rangeFunc_ends {g : Operand} {ps : Array Tmp} {assign body : Code} {Q : Exit → Act → World → Prop} {a : Act} {w : World}
    (hro : F.round = none) (h1 : 1 ≤ n) {gf : Nat} {lb : Array Value} (hg : a.eval g = .func (.func gf) #[] lb) (hFg : F.fn gf) (eg : ∀ args w, (callFunc gf args).run P w = .ok (.enter gf args) w)
    {el : Nat → Array Value} {Kp : World → World → Prop} {w0 : World} (hseq : SeqEnds F (n - 1) P gf lb el Kp w0)
    (hKt : ∀ {A B C : World}, Kp A B → Kp B C → Kp A C) (hKb : ∀ (W : World) (l : Nat) (o o' : Obj), w.heap.size ≤ l → W.heap[l]? = some o → o.isCells = false → Kp W (W.putObj l o')) (hb0 : Below w0.heap.size w0 w) (hps : ∀ k, (el k).size = ps.size)
    (N : Nat) (I : Nat → World → Prop) (Ix : Code → World → Prop) (Bo : Nat → Act → World → Prop) (hI : FreeFrom w.heap.size I) (hIx : OwnFrom w.heap.size Ix) (hBo : ∀ a', OwnFrom w.heap.size (fun k W => Bo k a' W)) (hN : ∀ k W, I k W → k < N) (h0 : I 0 w)
    (hassign : ∀ (l k : Nat) (W : World) (K : Act → World → Prop), I k W → (∀ a' W', KeepsFrom w.heap.size W W' → Kp W W' → Bo k a' W' → K a' W') →
      assign.wpIn (F.inRound l) (n - 1 - 1) P (Exit.then K (fun _ _ _ => False)) { tmps := (ps.zip (el k)).foldl (fun t (p, v) => t.setIfInBounds p v) a.tmps, defers := [] } W)
    (hbody : ∀ (l k : Nat) (a' : Act) (W : World), Bo k a' W → body.wpIn (F.inRound l) (n - 1 - 1) P (endsPost w.heap.size Kp I Ix k W) a' W)
    (hstop : ∀ (D : Nat) (c : Code) (W : World), w.heap.size ≤ D → Ix c W → W.heap[D]? = some (.deferred (some [])) → c.wpIn F n P Q { a with defers := { target := .collected D, args := #[] } :: a.defers } W) :
    (Code.rangeFunc g ps assign body).wpIn F n P Q a w := by
  refine wpIn_rangeFunc fun fn hfn => ?_
  rw [hro]
  obtain ⟨rec, hrec⟩ : ∃ rec : LoopState → Option Code → Loop, rec = fun st pe => { state := st, pending := pe, fn, tmps := a.tmps, params := ps, assign, body, defers := w.heap.size } := ⟨_, rfl⟩
  obtain ⟨W1, hW1⟩ : ∃ W1, (w.alloc (.deferred (some []))).alloc (.loop (rec .ready none)) = W1 := ⟨_, rfl⟩
  have hB1 : Booked w rec .ready none W1 := by
    subst hW1
    refine ⟨?_, (Below.heap_alloc _ _ _ (by simp)).trans (World.alloc_heap_new w _)⟩
    have := World.alloc_heap_new (w.alloc (.deferred (some []))) (.loop (rec .ready none))
    rwa [World.size_alloc] at this
  have hI1 : I 0 W1 := by rw [← hW1]; exact hI.own.alloc _ (hI.own.alloc _ h0)
  have hb1 : Below w.heap.size w W1 := by rw [← hW1]; exact ((Below.refl _ w).alloc (Nat.le_refl _) _).alloc (by simp) _
  refine ⟨w.heap.size + 1, [{ target := .collected w.heap.size, args := #[] }], W1, { target := .fn (.func gf) lb, args := #[.func (.yield (w.heap.size + 1)) #[] #[]] }, W1, gf,
    #[.func (.yield (w.heap.size + 1)) #[] #[]] ++ lb, W1, by rw [← hW1, hrec]; exact run_enterLoop_outer _ _ _ _ _, by simp only [resolve, hg]; simp [go_sem], fun f' hf' => by simp [Target.leads] at hf'; subst hf'; exact hFg, by simp [invoke, go_sem, eg], fun _ => h1, ?_⟩
  have hs1 : W1.heap.size = w.heap.size + 2 := by rw [← hW1]; simp
  refine (hseq (w.heap.size + 1) N (fun k W => I k W ∧ Booked w rec .ready none W) (fun _ W => ∃ c, Ix c W ∧ Booked w rec .done (some c) W) W1 (hb0.trans (hb1.mono hb0.size))
    (fun s A B row hs hg' hr => ⟨hI s A B row hs.1 hg' (fun r e => Nat.le_trans hb1.size (hr r e)), hs.2.abides hg' fun r e => by have := hr r e; omega⟩) (fun k W h => hN k W h.1) ?_ ⟨hI1, hB1⟩).mono ?_
  · rintro k W ⟨hi, hbk⟩
    have hy := run_yield (P := P) (args := el k) hbk.l (by rw [hrec]; exact hps k)
    rw [hrec] at hy
    refine ⟨fn, _, assign, body, hy, roundIn_of_wpIn hfn (hassign _ k W _ hi fun a' Wa hka hpa hbo => ?_)⟩
    have hba := hbk.kept hka
    refine ⟨_, run_beginRound hba.l (by rw [hrec]), ?_⟩
    have e1 : ({ rec .ready none with state := .busy } : Loop) = rec .busy none := by rw [hrec]
    rw [e1]
    have hb2 : Booked w rec .busy none (Wa.putObj (w.heap.size + 1) (.loop (rec .busy none))) := hba.put
    have hp2 := hKb Wa (w.heap.size + 1) _ (.loop (rec .busy none)) (by omega) hba.l rfl
    refine wpIn_mono (hbody _ k a' _ ((hBo a').putObj (s := k) _ hbo (by omega) hba.l rfl)) ?_
    have fin : ∀ (c : Code) (W3 : World), KeepsFrom w.heap.size (Wa.putObj (w.heap.size + 1) (.loop (rec .busy none))) W3 → Ix c W3 →
        (Instr.endRound (w.heap.size + 1) (some c)).run P W3 = .ok (.bool false) (W3.putObj (w.heap.size + 1) (.loop (rec .done (some c)))) ∧ ∃ c', Ix c' (W3.putObj (w.heap.size + 1) (.loop (rec .done (some c)))) ∧ Booked w rec .done (some c') (W3.putObj (w.heap.size + 1) (.loop (rec .done (some c)))) := fun c W3 hk3 hi3 => by
      have hb3 := hb2.kept hk3
      have := run_endRound (P := P) (some c) hb3.l
      rw [hrec] at this ⊢
      exact ⟨this, c, hIx.putObj _ hi3 (by omega) hb3.l rfl, by have := hb3.put (st' := .done) (c' := some c); rw [hrec] at this; exact this⟩
    rintro e a3 W3 hp
    cases e with
    | normal =>
      obtain ⟨hk3, hkp3, hi3⟩ := hp
      have hb3 := hb2.kept hk3
      have hr := run_endRound (P := P) none hb3.l
      have e2 : ({ rec .busy none with state := if (none : Option Code).isNone = true then .ready else .done, pending := none } : Loop) = rec .ready none := by rw [hrec]; rfl
      rw [e2] at hr
      exact ⟨_, _, hr, .inl ⟨rfl, ⟨hI.own.putObj _ hi3 (by omega) hb3.l rfl, hb3.put⟩, hKt hpa (hKt (hKt hp2 hkp3) (hKb _ _ _ _ (by omega) hb3.l rfl))⟩⟩
    | ret => obtain ⟨hr, hx⟩ := fin _ W3 hp.1 hp.2; exact ⟨_, _, hr, .inr ⟨rfl, hx⟩⟩
    | exit id => obtain ⟨hr, hx⟩ := fin _ W3 hp.1 hp.2; exact ⟨_, _, hr, .inr ⟨rfl, hx⟩⟩
    | goto t => obtain ⟨hr, hx⟩ := fin _ W3 hp.1 hp.2; exact ⟨_, _, hr, .inr ⟨rfl, hx⟩⟩
    | panic ch => exact hp.elim
    | outgrown => exact hp.elim
  · rintro e W2 ⟨⟨v, rfl⟩, c, hx, hbk⟩
    have hr := run_endLoop (P := P) hbk.l (by rw [hrec]; simp)
    have e3 : (rec .done (some c)).pending = some c := by rw [hrec]
    rw [e3] at hr
    exact ⟨some c, _, hr, hstop _ c _ (Nat.le_refl _) (hIx.putObj _ hx (by omega) hbk.l rfl) ((World.putObj_heap_other (by omega)).trans hbk.d)⟩
end
end Go.Proofs.Ytenlidbgllahhaa
