/-
  Four growing slices of bytes of the call's own, apart from one another. Nothing here walks.
-/
import Derived.Test.YtjfpdbhjbleffaaDoorY8
import Derived.Test.YtjfpdbhjbleffaaDoorY1
namespace Go.Proofs.YtjfpdbhjbleffaaDoor
open Go.RowKit

/-- A function with one value more. -/
def upf {α : Type} (f : Nat → α) (i : Nat) (a : α) : Nat → α := fun j => if j = i then a else f j
theorem upf_same {α : Type} (f : Nat → α) (i : Nat) (a : α) : upf f i a i = a := by simp [upf]
theorem upf_ne {α : Type} (f : Nat → α) (i j : Nat) (a : α) (h : j ≠ i) : upf f i a j = f j := by simp [upf, h]
/-- Four slices of the call's own. -/
structure Four (base : Nat) (n : Nat → Nat) (v : Nat → Value) (xs : Nat → List UInt8) (W : World) : Prop where
  r : ∀ i, i < 4 → W.ownsRow base 5 1 (v i) (n i) (ubs (xs i))
  apart : ∀ i j, i < 4 → j < 4 → i ≠ j → ∀ g, (v i).ownBlock = some g → (v j).ownBlock ≠ some g
theorem Four.new {base : Nat} {n : Nat → Nat} {v : Nat → Value} {xs : Nat → List UInt8} {W W' : World} (h : Four base n v xs W) (hb : Below W.heap.size W W') : Four base n v xs W' :=
  ⟨fun i hi => own_fr (h.r i hi) (Fr.of_new (S := fun _ => False) hb) (fun _ _ => id), h.apart⟩
theorem Four.far {base g : Nat} {n : Nat → Nat} {v : Nat → Value} {xs : Nat → List UInt8} {W W' : World} (h : Four base n v xs W) (hf : Fr (fun k => k = g) W W') (hn : ∀ i, i < 4 → (v i).ownBlock ≠ some g) : Four base n v xs W' :=
  ⟨fun i hi => own_fr (h.r i hi) hf (fun k hk e => hn i hi (by rw [hk, e])), h.apart⟩
theorem Four.grow {base m : Nat} {n : Nat → Nat} {v : Nat → Value} {xs : Nat → List UInt8} {W W' : World} (h : Four base n v xs W) (i : Nat) (hi : i < 4) {v' : Value} {ys : List UInt8} (ho : W'.ownsRow base 5 1 v' (n i + m) (ubs (xs i) ++ ubs ys))
    (hg : W.grownBy W' (v i).ownBlock) (hb : v'.ownBlock = (v i).ownBlock ∨ v'.ownBlock = some W.heap.size) : Four base (upf n i (n i + m)) (upf v i v') (upf xs i (xs i ++ ys)) W' := by
  have hnew : ∀ j, j < 4 → j ≠ i → ∀ g, v'.ownBlock = some g → (v j).ownBlock ≠ some g := by
    intro j hj hji g hv e
    rcases hb with hb | hb
    · exact h.apart i j hi hj (Ne.symm hji) g (hb ▸ hv) e
    · rw [hb] at hv
      have := (World.ownsRow.lt (h.r j hj) g e).2
      simp at hv
      omega
  refine ⟨fun j hj => ?_, fun j k hj hk hjk g hv => ?_⟩
  · by_cases e : j = i
    · subst e
      rw [upf_same, upf_same, upf_same, ubs_append]
      exact ho
    · rw [upf_ne _ _ _ _ e, upf_ne _ _ _ _ e, upf_ne _ _ _ _ e]
      exact own_grown (h.r j hj) hg (fun g hg' e' => h.apart j i hj hi e g hg' e')
  · by_cases e : j = i
    · subst e
      rw [upf_same] at hv
      rw [upf_ne _ _ _ _ (Ne.symm hjk)]
      exact hnew k hk (Ne.symm hjk) g hv
    · rw [upf_ne _ _ _ _ e] at hv
      by_cases e2 : k = i
      · subst e2
        rw [upf_same]
        intro e3
        exact hnew j hj e g e3 hv
      · rw [upf_ne _ _ _ _ e2]
        exact h.apart j k hj hk hjk g hv
theorem Four.congr {base : Nat} {n n' : Nat → Nat} {v v' : Nat → Value} {xs xs' : Nat → List UInt8} {W : World} (h : Four base n v xs W) (h1 : ∀ i, i < 4 → n i = n' i) (h2 : ∀ i, i < 4 → v i = v' i) (h3 : ∀ i, i < 4 → xs i = xs' i) : Four base n' v' xs' W :=
  ⟨fun i hi => by rw [← h1 i hi, ← h2 i hi, ← h3 i hi]; exact h.r i hi, fun i j hi hj hij g hv => by rw [← h2 i hi] at hv; rw [← h2 j hj]; exact h.apart i j hi hj hij g hv⟩
theorem Four.nil (base : Nat) (W : World) : Four base (fun _ => 0) (fun _ => .slice none 0 0) (fun _ => []) W :=
  ⟨fun _ _ => World.ownsRow_nil _ _ _ _, fun _ _ _ _ _ g h => by simp [Value.ownBlock] at h⟩
/-- The slices lie in two arrays. -/
structure MeW (Wb : World) (n : Nat → Nat) (v : Nat → Value) (xs : Nat → List UInt8) (W : World) : Prop where
  four : Four Wb.heap.size n v xs W
  d1 : At W Wb.heap.size #[v 0, v 1] 57
  d2 : At W (Wb.heap.size + 1) #[v 2, v 3] 57
  below : Below Wb.heap.size Wb W
theorem MeW.new {Wb W W' : World} {n : Nat → Nat} {v : Nat → Value} {xs : Nat → List UInt8} (h : MeW Wb n v xs W) (hb : Below W.heap.size W W') : MeW Wb n v xs W' :=
  ⟨h.four.new hb, h.d1.new_ hb, h.d2.new_ hb, h.below.trans (hb.mono h.below.size)⟩
theorem MeW.start (Wb : World) : MeW Wb (fun _ => 0) (fun _ => .slice none 0 0) (fun _ => []) ((Wb.alloc (.cells #[.slice none 0 0, .slice none 0 0] 57)).alloc (.cells #[.slice none 0 0, .slice none 0 0] 57)) :=
  ⟨Four.nil _ _, (At.new _ _ _).alloc _, At.new_at (by simp), ((Below.refl _ _).alloc (Nat.le_refl _) _).alloc (by simp) _⟩
/-- Slice i has grown; the arrays still hold the elder one. -/
structure MeG (Wb : World) (n : Nat → Nat) (v v0 : Nat → Value) (xs : Nat → List UInt8) (W : World) : Prop where
  four : Four Wb.heap.size n v xs W
  d1 : At W Wb.heap.size #[v0 0, v0 1] 57
  d2 : At W (Wb.heap.size + 1) #[v0 2, v0 3] 57
  below : Below Wb.heap.size Wb W
theorem MeW.grow {Wb W W' : World} {m : Nat} {n : Nat → Nat} {v : Nat → Value} {xs : Nat → List UInt8} (h : MeW Wb n v xs W) (i : Nat) (hi : i < 4) {v' : Value} {ys : List UInt8} (ho : W'.ownsRow Wb.heap.size 5 1 v' (n i + m) (ubs (xs i) ++ ubs ys))
    (hg : W.grownBy W' (v i).ownBlock) (hb : v'.ownBlock = (v i).ownBlock ∨ v'.ownBlock = some W.heap.size) : MeG Wb (upf n i (n i + m)) (upf v i v') v (upf xs i (xs i ++ ys)) W' :=
  ⟨h.four.grow i hi ho hg hb, at_grown h.d1 (h.four.r i hi) (by decide) hg, at_grown h.d2 (h.four.r i hi) (by decide) hg, h.below.grown hg h.below.size (fun k hk => (World.ownsRow.lt (h.four.r i hi) k hk).1)⟩
/-- A block of arrays is none of the slices'. -/
theorem own_not {W : World} {base g n : Nat} {v : Value} {xs : List UInt8} {cs : Array Value} (h : W.ownsRow base 5 1 v n (ubs xs)) (hA : At W g cs 57) : v.ownBlock ≠ some g := by
  intro e
  rcases h.2 with ⟨h1, _⟩ | ⟨g', cap, cur, h1, _, hh, _⟩
  · rw [h1] at e
    cases e
  · rw [h1] at e
    have e2 : g' = g := Option.some.inj e
    rw [e2] at hh
    exact At.ne (show At W g cur 5 from hh) hA (by decide) rfl
theorem fr_setCell (W : World) (g o : Nat) (u : Value) : Fr (fun k => k = g) W (W.setCell ⟨g, o, none⟩ u) := (Fr.refl (fun k => k = g) W).setCell (p := ⟨g, o, none⟩) (.inr rfl) u
theorem MeG.set1 {Wb W : World} {n : Nat → Nat} {v v0 : Nat → Value} {xs : Nat → List UInt8} (h : MeG Wb n v v0 xs W) (i : Nat) (hi : i < 2) (he : ∀ j, j ≠ i → v j = v0 j) : MeW Wb n v xs (W.setCell ⟨Wb.heap.size, i, none⟩ (v i)) := by
  have e2 : #[v 2, v 3] = #[v0 2, v0 3] := by rw [he 2 (by omega), he 3 (by omega)]
  refine ⟨h.four.far (fr_setCell _ _ _ _) (fun j hj => own_not (h.four.r j hj) h.d1), ?_, by rw [e2]; exact h.d2.far (p := ⟨Wb.heap.size, i, none⟩) (by simp) _, h.below.setCell (Nat.le_refl _) _⟩
  · have := h.d1.put i (v i)
    rcases (by omega : i = 0 ∨ i = 1) with rfl | rfl
    · rw [← he 1 (by omega)] at this
      exact this
    · rw [← he 0 (by omega)] at this
      exact this
theorem MeG.set2 {Wb W : World} {n : Nat → Nat} {v v0 : Nat → Value} {xs : Nat → List UInt8} (h : MeG Wb n v v0 xs W) (i : Nat) (hi : i < 2) (he : ∀ j, j ≠ i + 2 → v j = v0 j) : MeW Wb n v xs (W.setCell ⟨Wb.heap.size + 1, i, none⟩ (v (i + 2))) := by
  have e1 : #[v 0, v 1] = #[v0 0, v0 1] := by rw [he 0 (by omega), he 1 (by omega)]
  refine ⟨h.four.far (fr_setCell _ _ _ _) (fun j hj => own_not (h.four.r j hj) h.d2), ?_, ?_, h.below.setCell (by simp) _⟩
  · rw [e1]
    exact h.d1.far (p := ⟨Wb.heap.size + 1, i, none⟩) (by simp) _
  · have := h.d2.put i (v (i + 2))
    rcases (by omega : i = 0 ∨ i = 1) with rfl | rfl
    · rw [← he 3 (by omega)] at this
      exact this
    · rw [← he 2 (by omega)] at this
      exact this
theorem MeG.grow {Wb W W' : World} {m : Nat} {n : Nat → Nat} {v v0 : Nat → Value} {xs : Nat → List UInt8} (h : MeG Wb n v v0 xs W) (i : Nat) (hi : i < 4) {v' : Value} {ys : List UInt8} (ho : W'.ownsRow Wb.heap.size 5 1 v' (n i + m) (ubs (xs i) ++ ubs ys))
    (hg : W.grownBy W' (v i).ownBlock) (hb : v'.ownBlock = (v i).ownBlock ∨ v'.ownBlock = some W.heap.size) : MeG Wb (upf n i (n i + m)) (upf v i v') v0 (upf xs i (xs i ++ ys)) W' :=
  ⟨h.four.grow i hi ho hg hb, at_grown h.d1 (h.four.r i hi) (by decide) hg, at_grown h.d2 (h.four.r i hi) (by decide) hg, h.below.grown hg h.below.size (fun k hk => (World.ownsRow.lt (h.four.r i hi) k hk).1)⟩
theorem MeG.sets1 {Wb W : World} {n : Nat → Nat} {v v0 : Nat → Value} {xs : Nat → List UInt8} (h : MeG Wb n v v0 xs W) (h2 : v 2 = v0 2) (h3 : v 3 = v0 3) : MeW Wb n v xs ((W.setCell ⟨Wb.heap.size, 0, none⟩ (v 0)).setCell ⟨Wb.heap.size, 1, none⟩ (v 1)) := by
  have e2 : #[v 2, v 3] = #[v0 2, v0 3] := by rw [h2, h3]
  have hA := h.d1.put 0 (v 0)
  refine ⟨(h.four.far (fr_setCell _ _ _ _) (fun j hj => own_not (h.four.r j hj) h.d1)).far (fr_setCell _ _ _ _) (fun j hj => own_not (h.four.r j hj) h.d1), hA.put 1 (v 1), ?_, (h.below.setCell (Nat.le_refl _) _).setCell (Nat.le_refl _) _⟩
  rw [e2]
  exact (h.d2.far (p := ⟨Wb.heap.size, 0, none⟩) (by simp) _).far (p := ⟨Wb.heap.size, 1, none⟩) (by simp) _
theorem MeG.sets2 {Wb W : World} {n : Nat → Nat} {v v0 : Nat → Value} {xs : Nat → List UInt8} (h : MeG Wb n v v0 xs W) (h2 : v 0 = v0 0) (h3 : v 1 = v0 1) : MeW Wb n v xs ((W.setCell ⟨Wb.heap.size + 1, 0, none⟩ (v 2)).setCell ⟨Wb.heap.size + 1, 1, none⟩ (v 3)) := by
  have e2 : #[v 0, v 1] = #[v0 0, v0 1] := by rw [h2, h3]
  have hA := h.d2.put 0 (v 2)
  refine ⟨(h.four.far (fr_setCell _ _ _ _) (fun j hj => own_not (h.four.r j hj) h.d2)).far (fr_setCell _ _ _ _) (fun j hj => own_not (h.four.r j hj) h.d2), ?_, hA.put 1 (v 3), (h.below.setCell (by simp) _).setCell (by simp) _⟩
  rw [e2]
  exact (h.d1.far (p := ⟨Wb.heap.size + 1, 0, none⟩) (by simp) _).far (p := ⟨Wb.heap.size + 1, 1, none⟩) (by simp) _
/-- Two new blocks, in either order: they are two. -/
structure Pair2 (i j : Nat) (vals : Nat → Value) (W : World) : Prop where
  ne : ∀ g h, vals i = .pointer (some ⟨g, 0, none⟩) → vals j = .pointer (some ⟨h, 0, none⟩) → g ≠ h
  li : ∀ g, vals i = .pointer (some ⟨g, 0, none⟩) → g < W.heap.size
  lj : ∀ g, vals j = .pointer (some ⟨g, 0, none⟩) → g < W.heap.size
theorem Pair2.other {i j : Nat} {vals : Nat → Value} {W W' : World} (h : Pair2 i j vals W) (k : Nat) (hi : i ≠ k) (hj : j ≠ k) (v : Value) (hs : W.heap.size ≤ W'.heap.size) : Pair2 i j (upv vals k v) W' := by
  have e1 : upv vals k v i = vals i := by simp [upv, hi]
  have e2 : upv vals k v j = vals j := by simp [upv, hj]
  exact ⟨fun g h' => by rw [e1, e2]; exact h.ne g h', fun g => by rw [e1]; exact fun e => Nat.lt_of_lt_of_le (h.li g e) hs, fun g => by rw [e2]; exact fun e => Nat.lt_of_lt_of_le (h.lj g e) hs⟩
theorem Pair2.first {i j : Nat} {vals : Nat → Value} {W : World} (h : Pair2 i j vals W) (hij : j ≠ i) (o : Obj) : Pair2 i j (upv vals i (.pointer (some ⟨W.heap.size, 0, none⟩))) (W.alloc o) := by
  have e1 : upv vals i (.pointer (some ⟨W.heap.size, 0, none⟩)) i = .pointer (some ⟨W.heap.size, 0, none⟩) := by simp [upv]
  have e2 : upv vals i (.pointer (some ⟨W.heap.size, 0, none⟩)) j = vals j := by simp [upv, hij]
  refine ⟨fun g g' => ?_, fun g => ?_, fun g => ?_⟩
  · rw [e1, e2]
    intro h1 h2 e
    cases h1
    have := h.lj g' h2
    omega
  · rw [e1]
    intro h1
    cases h1
    simp
  · rw [e2]
    intro h1
    have := h.lj g h1
    simp
    omega
theorem Pair2.second {i j : Nat} {vals : Nat → Value} {W : World} (h : Pair2 i j vals W) (hij : i ≠ j) (o : Obj) : Pair2 i j (upv vals j (.pointer (some ⟨W.heap.size, 0, none⟩))) (W.alloc o) := by
  have e1 : upv vals j (.pointer (some ⟨W.heap.size, 0, none⟩)) j = .pointer (some ⟨W.heap.size, 0, none⟩) := by simp [upv]
  have e2 : upv vals j (.pointer (some ⟨W.heap.size, 0, none⟩)) i = vals i := by simp [upv, hij]
  refine ⟨fun g g' => ?_, fun g => ?_, fun g => ?_⟩
  · rw [e1, e2]
    intro h1 h2 e
    cases h2
    have := h.li g h1
    omega
  · rw [e2]
    intro h1
    have := h.li g h1
    simp
    omega
  · rw [e1]
    intro h1
    cases h1
    simp
theorem Pair2.none {i j : Nat} {vals : Nat → Value} {W : World} (h1 : vals i = undef) (h2 : vals j = undef) : Pair2 i j vals W :=
  ⟨fun g h e => by (rw [h1] at e; cases e), fun g e => by (rw [h1] at e; cases e), fun g e => by (rw [h2] at e; cases e)⟩
theorem own_notH {W : World} {base g n : Nat} {v : Value} {xs : List UInt8} {cs : Array Value} (h : W.ownsRow base 5 1 v n (ubs xs)) (hA : At W g cs 27) : v.ownBlock ≠ some g := by
  intro e
  rcases h.2 with ⟨h1, _⟩ | ⟨g', cap, cur, h1, _, hh, _⟩
  · rw [h1] at e
    cases e
  · rw [h1] at e
    have e2 : g' = g := Option.some.inj e
    rw [e2] at hh
    exact At.ne (show At W g cur 5 from hh) hA (by decide) rfl
theorem MeW.row {Wb W : World} {n : Nat → Nat} {v : Nat → Value} {xs : Nat → List UInt8} {g : Nat} {cs : Array Value} (h : MeW Wb n v xs W) (hA : At W g cs 27) (hg : Wb.heap.size ≤ g) (ds : Array Value) : MeW Wb n v xs (W.setRow g ds) :=
  ⟨h.four.far ((Fr.refl (fun k => k = g) W).setRow (g := g) (.inr rfl) ds) (fun i hi => own_notH (h.four.r i hi) hA), h.d1.setRow_far (At.ne h.d1 hA (by decide)), h.d2.setRow_far (At.ne h.d2 hA (by decide)), below_setRow h.below hg ds⟩
end Go.Proofs.YtjfpdbhjbleffaaDoor
