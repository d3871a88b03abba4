/-
  Whether an error is none.
  A loop over an iterator that lays its own blocks between rounds and reads them again behind them: its contract, and the law for the loop. The loop's body turns nothing that was laid since the iterator was called, but for what it lays itself. Nothing here speaks of the program.
-/
import Derived.Test.YthkbmpocfpbkoaaDoorY9
import Derived.Test.YthkbmpocfpbkoaaDoorY1
namespace Go.Proofs.YthkbmpocfpbkoaaDoor
open Go.RowKit

/-- An error that is none, or isn't. -/
def isE (E : Value) (M : Bool) : Prop := (E = .nilIface ∧ M = true) ∨ ∃ n : Int, E = .iface 47 (.int .i64 n) ∧ M = false
theorem run_eqlE {o : Oper} {a : Go.Act} (t2 : TypeId) (k : Nat) (ho : o.op = .binOp .eql 39 (.tmp k) (.const .nilIface) t2) (E : Value) (M : Bool) (hx : a.eval (.tmp k) = E) (hE : isE E M) (w : World) :
    (execOp a.eval o).run Tryd.prog w = .ok (.value (.bool M)) w := by
  have hc : a.eval (.const .nilIface) = .nilIface := rfl
  have hg : ∀ E, (eqGuard .eql 39 (.tmp k) (.const .nilIface) E .nilIface).run Tryd.prog w = .ok () w := fun E => by cases E <;> rfl
  have hb : (binOp .eql 39 E .nilIface).run Tryd.prog w = .ok (.bool M) w := by
    rcases hE with ⟨rfl, rfl⟩ | ⟨n, rfl, rfl⟩
    · kernel_rfl
    · kernel_rfl
  unfold execOp
  simp only [ho, hx, hc, Sem.run_bind]
  rw [hg]
  simp only [Result.andThen_ok, hb, Sem.run_pure]
theorem isE_errV (b : Bool) : isE (errV (if b then 0 else 1)) b := by
  cases b
  · exact Or.inr ⟨1, rfl, rfl⟩
  · exact Or.inl ⟨rfl, rfl⟩
end Go.Proofs.YthkbmpocfpbkoaaDoor

namespace Go.Proofs.YthkbmpocfpbkoaaDoor
open Go.RowKit

section
variable {F : Fence} {n : Nat} {P : Program}
/-- Whatever lay from block B on lies as it lay. -/
structure KeepsAll (B : Nat) (A A' : World) : Prop where
  size : A.heap.size ≤ A'.heap.size
  same : ∀ k, B ≤ k → k < A.heap.size → A'.heap[k]? = A.heap[k]?
theorem KeepsAll.refl (B : Nat) (A : World) : KeepsAll B A A := ⟨Nat.le_refl _, fun _ _ _ => rfl⟩
theorem KeepsAll.trans {B : Nat} {X Y Z : World} (h : KeepsAll B X Y) (k : KeepsAll B Y Z) : KeepsAll B X Z :=
  ⟨Nat.le_trans h.size k.size, fun i hi hl => (k.same i hi (Nat.lt_of_lt_of_le hl h.size)).trans (h.same i hi hl)⟩
theorem KeepsAll.mono {B B' : Nat} {X Y : World} (h : KeepsAll B X Y) (hb : B ≤ B') : KeepsAll B' X Y := ⟨h.size, fun k hk hl => h.same k (Nat.le_trans hb hk) hl⟩
theorem KeepsAll.of_below {B : Nat} {X Y : World} (h : Below X.heap.size X Y) : KeepsAll B X Y := ⟨h.size, fun k _ hl => h.block k hl⟩
theorem KeepsAll.putObj {B : Nat} (W : World) (l : Nat) (o : Obj) (hl : l < B) : KeepsAll B W (W.putObj l o) :=
  ⟨(grownBy_putObj' W l o).size, fun k hk _ => World.putObj_heap_other (by omega)⟩
theorem KeepsAll.setCell {B : Nat} (W : World) (p : Addr) (v : Value) (hl : p.block < B) : KeepsAll B W (W.setCell p v) :=
  ⟨by simp [World.setCell], fun k hk _ => Below.heap_setCell W p v k (by omega)⟩
theorem KeepsAll.setRow {B : Nat} (W : World) (g : Nat) (cs : Array Value) (hl : g < B) : KeepsAll B W (W.setRow g cs) := ⟨by simp, fun k hk _ => setRow_other W g k cs (by omega)⟩
theorem KeepsAll.from {B : Nat} {X Y : World} (h : KeepsAll B X Y) : KeepsFrom B X Y := ⟨h.size, fun k _ hk h0 _ => (h.same k hk (Array.getElem?_eq_some_iff.1 h0).1).trans h0⟩
/-- What speaks of nothing from block B on. -/
def FreeB {β : Type} (B : Nat) (J : β → World → Prop) : Prop := ∀ s W W', J s W → Below B W W' → J s W'
theorem FreeB.and {β : Type} {B : Nat} {I J : β → World → Prop} (h : FreeB B I) (h' : FreeB B J) : FreeB B (fun s W => I s W ∧ J s W) := fun s W W' hs hb => ⟨h s W W' hs.1 hb, h' s W W' hs.2 hb⟩
/-- What an iterator promises that may lay blocks of its own: what its caller says (J) speaks of nothing that is laid from its call on, and a round turns nothing of it. -/
def SeqFree {α : Type} (F : Fence) (n : Nat) (P : Program) (g : Nat) (lb : Array Value) (encs : α → Array Value) (Kp : World → World → Prop) (S Sp : List α → Prop) (N : Nat) (w : World) : Prop :=
  ∀ (l : Nat) (J Jx : List α → World → Prop) (W : World), Below w.heap.size w W → FreeB W.heap.size J → FreeB W.heap.size Jx →
    (∀ pre x W1, J pre W1 → pre.length < N → YieldAt F (n - 1) P l (encs x) W1 fun e W' =>
      (e = .returned (.bool true) ∧ J (pre ++ [x]) W' ∧ Kp W1 W' ∧ KeepsAll W.heap.size W1 W') ∨ (e = .returned (.bool false) ∧ Jx (pre ++ [x]) W' ∧ KeepsAll W.heap.size W1 W')) →
    J [] W →
    CallsIn F n P g (#[.func (.yield l) #[] #[]] ++ lb) W fun e W' => (∃ v, e = .returned v) ∧ ((∃ xs, S xs ∧ J xs W') ∨ (∃ pre, Sp pre ∧ Jx pre W'))
theorem SeqFree.later {α : Type} {g : Nat} {lb : Array Value} {encs : α → Array Value} {Kp : World → World → Prop} {S Sp : List α → Prop} {N : Nat} {w w' : World} (h : SeqFree F n P g lb encs Kp S Sp N w) (hb : Below w.heap.size w w') : SeqFree F n P g lb encs Kp S Sp N w' :=
  fun l J Jx W hW => h l J Jx W (hb.trans (hW.mono hb.size))
theorem SeqFree.imp {α : Type} {g : Nat} {lb : Array Value} {encs : α → Array Value} {Kp : World → World → Prop} {S Sp S' Sp' : List α → Prop} {N : Nat} {w : World} (h : SeqFree F n P g lb encs Kp S Sp N w) (hs : ∀ xs, S xs → S' xs) (hp : ∀ xs, Sp xs → Sp' xs) : SeqFree F n P g lb encs Kp S' Sp' N w :=
  fun l J Jx W hW hJ hJx hY h0 => (h l J Jx W hW hJ hJx hY h0).mono fun _ _ ⟨h1, h2⟩ => ⟨h1, h2.imp (fun ⟨xs, a, b⟩ => ⟨xs, hs xs a, b⟩) (fun ⟨xs, a, b⟩ => ⟨xs, hp xs a, b⟩)⟩
/-- How the body may be left. -/
def freePost {α : Type} (B : Nat) (Kp : World → World → Prop) (I : List α → World → Prop) (Ix : Code → List α → World → Prop) (xs : List α) (W : World) : Exit → Act → World → Prop
  | .normal, _, W' => KeepsAll B W W' ∧ Kp W W' ∧ I xs W'
  | .ret, _, W' => KeepsAll B W W' ∧ Ix .ret xs W'
  | .exit id, _, W' => KeepsAll B W W' ∧ Ix (.exit id) xs W'
  | .goto t, _, W' => KeepsAll B W W' ∧ Ix (.goto t) xs W'
  | .panic _, _, _ => False
  | .outgrown, _, _ => False
theorem belowB_putObj {B : Nat} (W : World) (l : Nat) (o : Obj) (hl : B ≤ l) (hw : l < W.heap.size) : Below B W (W.putObj l o) :=
  (Below.refl _ W).grown (grownBy_putObj' W l o) (by omega) fun r e => by cases e; exact hl
theorem FreeB.putObj {β : Type} {B : Nat} {J : β → World → Prop} (h : FreeB B J) {s : β} {W : World} (hs : J s W) (l : Nat) (o : Obj) (hl : B ≤ l) (hw : l < W.heap.size) : J s (W.putObj l o) := h s W _ hs (belowB_putObj W l o hl hw)
theorem FreeB.alloc {β : Type} {B : Nat} {J : β → World → Prop} (h : FreeB B J) {s : β} {W : World} (hs : J s W) (o : Obj) (hw : B ≤ W.heap.size) : J s (W.alloc o) := h s W _ hs ((Below.refl _ _).alloc hw _)
theorem FreeB.mono {β : Type} {B B' : Nat} {J : β → World → Prop} (h : FreeB B J) (hb : B ≤ B') : FreeB B' J := fun s W W' hs hg => h s W W' hs (hg.mono hb)
theorem Booked.later {w W W' : World} {rec : LoopState → Option Code → Loop} {st : LoopState} {c : Option Code} {B : Nat} (h : Booked w rec st c W) (hb : Below B W W') (hB : w.heap.size + 2 ≤ B) : Booked w rec st c W' :=
  ⟨(hb.block _ (by omega)).trans h.l, (hb.block _ (by omega)).trans h.d⟩
theorem atB_free {β : Type} {B g : Nat} {t : TypeId} {f : β → Array Value} (h : g < B) : FreeB B (fun (x : β) W => At W g (f x) t) := fun _ _ _ hs hb => (hb.block g h).trans hs
theorem belowB_free {β : Type} {n₀ B : Nat} {w₀ : World} (hB : n₀ ≤ B) : FreeB B (fun (_ : β) W => Below n₀ w₀ W) := fun _ _ _ hs hb => hs.trans (hb.mono hB)

theorem wpIn_rangeFunc_free {α : Type} {g : Operand} {ps : Array Tmp} {assign body : Code} {Q : Exit → Act → World → Prop} {a : Act} {w : World}
    (hro : F.round = none) (h1 : 1 ≤ n) {gf : Nat} {lb : Array Value} (hg : a.eval g = .func (.func gf) #[] lb) (hFg : F.fn gf) (eg : ∀ args w, (callFunc gf args).run P w = .ok (.enter gf args) w)
    {encs : α → Array Value} {Kp : World → World → Prop} {S Sp : List α → Prop} {N : Nat} {w0 : World} (hseq : SeqFree F (n - 1) P gf lb encs Kp S Sp N w0)
    (hKt : ∀ {A B C : World}, Kp A B → Kp B C → Kp A C) (hKb : ∀ (W : World) (l : Nat) (o : Obj), w.heap.size ≤ l → Kp W (W.putObj l o)) (hb0 : Below w0.heap.size w0 w) (hps : ∀ x, (encs x).size = ps.size)
    (I : List α → World → Prop) (Ix : Code → List α → World → Prop) (hI : FreeB w.heap.size I) (hIx : ∀ c, FreeB w.heap.size (Ix c)) (h0 : I [] w) (Ax : α → Act → World → Prop) (hAx : ∀ x a', OwnFrom w.heap.size (fun (_ : Unit) W => Ax x a' W))
    (hassign : ∀ (l : Nat) (pre : List α) (x : α) (W : World) (K : Act → World → Prop), I pre W → (∀ a' W', KeepsAll w.heap.size W W' → Kp W W' → I pre W' → Ax x a' W' → K a' W') →
      assign.wpIn (F.inRound l) (n - 1 - 1) P (Exit.then K (fun _ _ _ => False)) { tmps := (ps.zip (encs x)).foldl (fun t (p, v) => t.setIfInBounds p v) a.tmps, defers := [] } W)
    (hbody : ∀ (l : Nat) (pre : List α) (x : α) (a' : Act) (W : World), w.heap.size ≤ l → (∃ r, W.heap[l]? = some (.loop r)) → I pre W → Ax x a' W → pre.length < N → body.wpIn (F.inRound l) (n - 1 - 1) P (freePost w.heap.size Kp I Ix (pre ++ [x]) W) a' W)
    (hdone : ∀ (D : Nat) (xs : List α) (W : World), w.heap.size ≤ D → S xs → I xs W → W.heap[D]? = some (.deferred (some [])) → Q .normal { a with defers := { target := .collected D, args := #[] } :: a.defers } W)
    (hstop : ∀ (D : Nat) (c : Code) (pre : List α) (W : World), w.heap.size ≤ D → Sp pre → Ix c pre W → W.heap[D]? = some (.deferred (some [])) → c.wpIn F n P Q { a with defers := { target := .collected D, args := #[] } :: a.defers } W) :
    (Code.rangeFunc g ps assign body).wpIn F n P Q a w := by
  refine wpIn_rangeFunc fun fn hfn => ?_
  rw [hro]
  obtain ⟨rec, hrec⟩ : ∃ rec : LoopState → Option Code → Loop, rec = fun st pe => { state := st, pending := pe, fn, tmps := a.tmps, params := ps, assign, body, defers := w.heap.size } := ⟨_, rfl⟩
  obtain ⟨W1, hW1⟩ : ∃ W1, (w.alloc (.deferred (some []))).alloc (.loop (rec .ready none)) = W1 := ⟨_, rfl⟩
  have hB1 : Booked w rec .ready none W1 := by
    subst hW1
    refine ⟨?_, (Below.heap_alloc _ _ _ (by simp)).trans (World.alloc_heap_new w _)⟩
    have := World.alloc_heap_new (w.alloc (.deferred (some []))) (.loop (rec .ready none))
    rwa [World.size_alloc] at this
  have hI1 : I [] W1 := by rw [← hW1]; exact hI.alloc (hI.alloc h0 _ (Nat.le_refl _)) _ (by simp)
  have hb1 : Below w.heap.size w W1 := by rw [← hW1]; exact ((Below.refl _ w).alloc (Nat.le_refl _) _).alloc (by simp) _
  refine ⟨w.heap.size + 1, [{ target := .collected w.heap.size, args := #[] }], W1, { target := .fn (.func gf) lb, args := #[.func (.yield (w.heap.size + 1)) #[] #[]] }, W1, gf,
    #[.func (.yield (w.heap.size + 1)) #[] #[]] ++ lb, W1, by rw [← hW1, hrec]; exact run_enterLoop_outer _ _ _ _ _, by simp only [resolve, hg]; simp [go_sem], fun f' hf' => by simp [Target.leads] at hf'; subst hf'; exact hFg, by simp [invoke, go_sem, eg], fun _ => h1, ?_⟩
  have hs1 : W1.heap.size = w.heap.size + 2 := by rw [← hW1]; simp
  refine (hseq (w.heap.size + 1) (fun pre W => I pre W ∧ Booked w rec .ready none W) (fun pre W => ∃ c, Ix c pre W ∧ Booked w rec .done (some c) W) W1 (hb0.trans (hb1.mono hb0.size))
    (fun s A B hs hb => ⟨hI s A B hs.1 (hb.mono hb1.size), hs.2.later hb (by omega)⟩)
    (fun s A B hs hb => by
      obtain ⟨c, h1, h2⟩ := hs
      exact ⟨c, hIx c s A B h1 (hb.mono hb1.size), h2.later hb (by omega)⟩) ?_ ⟨hI1, hB1⟩).mono ?_
  · rintro pre x W ⟨hi, hbk⟩ hlen
    have hy := run_yield (P := P) (args := encs x) hbk.l (by rw [hrec]; exact hps x)
    rw [hrec] at hy
    refine ⟨fn, _, assign, body, hy, roundIn_of_wpIn hfn (hassign _ pre x W _ hi fun a' Wa hka hpa hia hax => ?_)⟩
    have hba := hbk.kept hka.from
    refine ⟨_, run_beginRound hba.l (by rw [hrec]), ?_⟩
    have e1 : ({ rec .ready none with state := .busy } : Loop) = rec .busy none := by rw [hrec]
    rw [e1]
    have hb2 : Booked w rec .busy none (Wa.putObj (w.heap.size + 1) (.loop (rec .busy none))) := hba.put
    have hp2 := hKb Wa (w.heap.size + 1) (.loop (rec .busy none)) (by omega)
    have hka2 : KeepsAll W1.heap.size W (Wa.putObj (w.heap.size + 1) (.loop (rec .busy none))) := (hka.mono (by omega)).trans (KeepsAll.putObj _ _ _ (by omega))
    refine wpIn_mono (hbody _ pre x a' _ (by omega) ⟨_, hb2.l⟩ (hI.putObj hia _ _ (by omega) (Array.getElem?_eq_some_iff.1 hba.l).1) ((hAx x a').putObj (s := ()) _ hax (by omega) hba.l rfl) hlen) ?_
    have fin : ∀ (c : Code) (W3 : World), KeepsAll w.heap.size (Wa.putObj (w.heap.size + 1) (.loop (rec .busy none))) W3 → Ix c (pre ++ [x]) W3 →
        (Instr.endRound (w.heap.size + 1) (some c)).run P W3 = .ok (.bool false) (W3.putObj (w.heap.size + 1) (.loop (rec .done (some c)))) ∧ (∃ c', Ix c' (pre ++ [x]) (W3.putObj (w.heap.size + 1) (.loop (rec .done (some c)))) ∧ Booked w rec .done (some c') (W3.putObj (w.heap.size + 1) (.loop (rec .done (some c))))) ∧ KeepsAll W1.heap.size W (W3.putObj (w.heap.size + 1) (.loop (rec .done (some c)))) := fun c W3 hk3 hi3 => by
      have hb3 := hb2.kept hk3.from
      have := run_endRound (P := P) (some c) hb3.l
      refine ⟨by rw [hrec] at this ⊢; exact this, ⟨c, (hIx c).putObj hi3 _ _ (by omega) (Array.getElem?_eq_some_iff.1 hb3.l).1, hb3.put⟩, hka2.trans ((hk3.mono (by omega)).trans (KeepsAll.putObj _ _ _ (by omega)))⟩
    rintro e a3 W3 hp
    cases e with
    | normal =>
      obtain ⟨hk3, hkp3, hi3⟩ := hp
      have hb3 := hb2.kept hk3.from
      have hr := run_endRound (P := P) none hb3.l
      have e2 : ({ rec .busy none with state := if (none : Option Code).isNone = true then .ready else .done, pending := none } : Loop) = rec .ready none := by rw [hrec]; rfl
      rw [e2] at hr
      exact ⟨_, _, hr, .inl ⟨rfl, ⟨hI.putObj hi3 _ _ (by omega) (Array.getElem?_eq_some_iff.1 hb3.l).1, hb3.put⟩, hKt hpa (hKt (hKt hp2 hkp3) (hKb _ _ _ (by omega))), hka2.trans ((hk3.mono (by omega)).trans (KeepsAll.putObj _ _ _ (by omega)))⟩⟩
    | ret => obtain ⟨hr, hx, hk⟩ := fin _ W3 hp.1 hp.2; exact ⟨_, _, hr, .inr ⟨rfl, hx, hk⟩⟩
    | exit id => obtain ⟨hr, hx, hk⟩ := fin _ W3 hp.1 hp.2; exact ⟨_, _, hr, .inr ⟨rfl, hx, hk⟩⟩
    | goto t => obtain ⟨hr, hx, hk⟩ := fin _ W3 hp.1 hp.2; exact ⟨_, _, hr, .inr ⟨rfl, hx, hk⟩⟩
    | panic ch => exact hp.elim
    | outgrown => exact hp.elim
  · rintro e W2 ⟨⟨v, rfl⟩, ⟨xs, hS, hi, hbk⟩ | ⟨pre, hSp, c, hx, hbk⟩⟩
    · have hr := run_endLoop (P := P) hbk.l (by rw [hrec]; simp)
      have e3 : (rec .ready none).pending = none := by rw [hrec]
      rw [e3] at hr
      exact ⟨none, _, hr, hdone _ xs _ (Nat.le_refl _) hS (hI.putObj hi _ _ (by omega) (Array.getElem?_eq_some_iff.1 hbk.l).1) ((World.putObj_heap_other (by omega)).trans hbk.d)⟩
    · have hr := run_endLoop (P := P) hbk.l (by rw [hrec]; simp)
      have e3 : (rec .done (some c)).pending = some c := by rw [hrec]
      rw [e3] at hr
      exact ⟨some c, _, hr, hstop _ c pre _ (Nat.le_refl _) hSp ((hIx c).putObj hx _ _ (by omega) (Array.getElem?_eq_some_iff.1 hbk.l).1) ((World.putObj_heap_other (by omega)).trans hbk.d)⟩
end
end Go.Proofs.YthkbmpocfpbkoaaDoor
