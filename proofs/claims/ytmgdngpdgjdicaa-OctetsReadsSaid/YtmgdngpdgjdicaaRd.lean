/-
  The contracts of the reader's methods (package octets): each call behaves as its chapter says.
-/
import Derived.Test.YtmgdngpdgjdicaaHs
namespace Go.Proofs.Ytmgdngpdgjdicaa
open Go.RowKit

/-- A reader behind p: its error's number, what is left. -/
structure RI (w : World) (base : Nat → Prop) (p k : Nat) (A : Option Addr) (c : Nat) (bs : List UInt8) : Prop where
  at_ : At w p #[errV k, .slice A bs.length c] 82
  cap : bs.length ≤ c
  rd : Rb w w.heap.size A bs
  far : ∀ b o, A = some ⟨b, o, none⟩ → base b ∧ b ≠ p ∧ b < w.heap.size
  plain : ∀ a, A = some a → a.spot = none
  low : base p
  done : k ≠ 0 → bs = []
/-- A reader without its slice's place. -/
def RS (w : World) (base : Nat → Prop) (p k : Nat) (bs : List UInt8) : Prop := ∃ A c, RI w base p k A c bs
/-- What a reader's call may touch: its box. -/
def Only (p : Nat) (k : Nat) : Prop := k = p

theorem RI.bad {w : World} {base : Nat → Prop} {p k : Nat} (h : At w p #[errV k, .slice none 0 0] 82) (hl : base p) : RS w base p k [] :=
  ⟨none, 0, ⟨h, Nat.le_refl _, Rd.nil _ _ _, fun _ _ h => (by cases h), fun _ h => (by cases h), hl, fun _ => rfl⟩⟩

/-- Fail with an error. -/
theorem fail_any (base : Nat → Prop) (p k : Nat) (bs : List UInt8) (w : World) (c : Nat) (hc : c ≠ 0) (h : RS w base p k bs) :
    Calls Try.prog 34 #[.pointer (some ⟨p, 0, none⟩), errV c] w fun e w' => e = .returned (.tuple #[]) ∧ RS w' base p (werr k c) [] ∧ Fr (Only p) w w' := by
  obtain ⟨A, cc, h⟩ := h
  have c0 := h.at_.cell 0
  have c1 := h.at_.cell 1
  have f0 := h.at_.frozen 0
  have f1 := h.at_.frozen 1
  simp at c0 c1
  have H := hid h
  clear h
  have e : errV c = .iface 53 (.int .i64 (c : Int)) := errV_pos hc
  by_cases hk : k = 0
  · subst hk
    rw [errV_zero] at c0
    rw [e]
    have E := hid e
    clear e
    go_enter Try.func34, Try.ntmps34
    go_wp2
    go_end0
    refine ⟨rfl, RI.bad ?_ H.out.low, ((Fr.refl (Only p) _).setCell (p := ⟨p, 0, none⟩) (.inr rfl) _).setCell (p := ⟨p, 1, none⟩) (.inr rfl) _⟩
    have := (H.out.at_.put 0 (errV c)).put 1 (.slice none 0 0)
    have hw : werr 0 c = c := if_pos rfl
    rw [hw]
    rw [E.out] at this ⊢
    exact this
  · have hk' := hid hk
    rw [errV_pos hk] at c0
    rw [e]
    have hw : werr k c = k := if_neg hk
    rw [hw]
    clear hk e hw
    go_enter Try.func34, Try.ntmps34
    go_wp2
    go_end0
    exact ⟨rfl, RI.bad (H.out.at_.put 1 (.slice none 0 0)) H.out.low, (Fr.refl (Only p) _).setCell (p := ⟨p, 1, none⟩) (.inr rfl) _⟩
/-- Fail with nil, or of nil. -/
theorem fail_none (a : Addr) (w : World) :
    Calls Try.prog 34 #[.pointer (some a), .nilIface] w fun e w' => e = .returned (.tuple #[]) ∧ w = w' := by
  go_enter Try.func34, Try.ntmps34
  go_wp2
  go_end0
  exact ⟨rfl, rfl⟩
theorem fail_nil (v : Value) (w : World) :
    Calls Try.prog 34 #[.pointer none, v] w fun e w' => e = .returned (.tuple #[]) ∧ w = w' := by
  go_enter Try.func34, Try.ntmps34
  go_wp2
  go_end0
  exact ⟨rfl, rfl⟩

/-- take: it can't be done. -/
def TakeBad (base : Nat → Prop) (p k : Nat) (w : World) (x : Value) (w' : World) : Prop := x = .slice none 0 0 ∧ RS w' base p (werr k 2) [] ∧ Fr (Only p) w w'
theorem take_bad (base : Nat → Prop) (p k : Nat) (bs : List UInt8) (n : Int) (w : World) (h : RS w base p k bs) (hn : n < 0 ∨ (bs.length : Int) < n) :
    Calls Try.prog 45 #[.pointer (some ⟨p, 0, none⟩), .int .i64 n] w fun e w' => ∃ x, e = .returned x ∧ TakeBad base p k w x w' := by
  have HC := hid (fail_any base p k bs w 2 (by decide) h)
  obtain ⟨A, cc, h⟩ := h
  have c1 := h.at_.cell 1
  simp at c1
  clear h
  rcases hn with hn | hn
  · go_enter Try.func45, Try.ntmps45
    go_wp2_with (go_at_call 34; refine HC.out.mono ?_; rintro e w' ⟨rfl, hx⟩; replace hx := hid hx)
    go_ret
    exact ⟨_, rfl, rfl, hx.out⟩
  · have h0 : ¬ n < 0 := by omega
    go_enter Try.func45, Try.ntmps45
    go_wp2_with (go_at_call 34; refine HC.out.mono ?_; rintro e w' ⟨rfl, hx⟩; replace hx := hid hx)
    go_ret
    exact ⟨_, rfl, rfl, hx.out⟩
theorem take_nil (n : Value) (w : World) :
    Calls Try.prog 45 #[.pointer none, n] w fun e w' => e = .returned (.slice none 0 0) ∧ w = w' := by
  go_enter Try.func45, Try.ntmps45
  go_wp2
  go_ret
  exact ⟨rfl, rfl⟩
/-- It can. -/
def TakeOut (base : Nat → Prop) (p k n : Nat) (bs : List UInt8) (w : World) (x : Value) (w' : World) : Prop :=
  ∃ A c, x = .slice A n c ∧ Rb w' w'.heap.size A (bs.take n) ∧ RS w' base p k (bs.drop n) ∧ Fr (Only p) w w'
theorem take_good (base : Nat → Prop) (p k : Nat) (bs : List UInt8) (n : Nat) (w : World) (h : RS w base p k bs) (hn : n ≤ bs.length) :
    Calls Try.prog 45 #[.pointer (some ⟨p, 0, none⟩), .int .i64 n] w fun e w' => ∃ x, e = .returned x ∧ TakeOut base p k n bs w x w' := by
  obtain ⟨A, c, h⟩ := h
  have c1 := h.at_.cell 1
  have f1 := h.at_.frozen 1
  simp at c1
  have hc := h.cap
  have H := hid h
  clear h
  go_enter Try.func45, Try.ntmps45
  go_wp2
  · go_ret
    refine ⟨_, rfl, A, n, rfl, ?_, ⟨A, 0, ⟨?_, by simp; omega, ?_, (fun b o e => by simpa using H.out.far b o e), H.out.plain, H.out.low, fun hk => by rw [H.out.done hk, List.drop_nil]⟩⟩, (Fr.refl (Only p) _).setCell (p := ⟨p, 1, none⟩) (.inr rfl) _⟩
    · exact (Rd.setCell (rb_take H.out.rd n) (p := ⟨p, 1, none⟩) (fun b o e => (H.out.far b o e).2.1) _).lt
    · rw [List.length_drop]
      exact H.out.at_.put 1 _
    · have : bs.drop n = [] := List.drop_eq_nil_of_le (by omega)
      rw [this]
      exact Rd.nil _ _ _
  · have hcn : ¬ c = n := by assumption
    go_ret
    refine ⟨_, rfl, A, c, rfl, ?_, ⟨A.map (·.add n), c - n, ⟨?_, by simp; omega, ?_, ?_, ?_, H.out.low, fun hk => by rw [H.out.done hk, List.drop_nil]⟩⟩, (Fr.refl (Only p) _).setCell (p := ⟨p, 1, none⟩) (.inr rfl) _⟩
    · exact (Rd.setCell (rb_take H.out.rd n) (p := ⟨p, 1, none⟩) (fun b o e => (H.out.far b o e).2.1) _).lt
    · rw [List.length_drop]
      exact H.out.at_.put 1 _
    · have h1 := rb_drop H.out.rd (n := n) (cap := c) hn hc
      rw [if_neg hcn] at h1
      refine (Rd.setCell h1 (p := ⟨p, 1, none⟩) (fun b o e => ?_) _).lt
      rcases A with _ | ⟨b', o', sp⟩
      · cases e
      · have := H.out.plain _ rfl
        simp only at this
        subst this
        simp only [Option.map_some, add_plain] at e
        cases e
        exact (H.out.far _ _ rfl).2.1
    · intro b o e
      rcases A with _ | ⟨b', o', sp⟩
      · cases e
      · have := H.out.plain _ rfl
        simp only at this
        subst this
        simp only [Option.map_some, add_plain] at e
        cases e
        simpa using H.out.far _ _ rfl
    · intro a e
      rcases A with _ | ⟨b', o', sp⟩
      · cases e
      · have := H.out.plain _ rfl
        simp only at this
        subst this
        simp only [Option.map_some, add_plain] at e
        cases e
        rfl
end Go.Proofs.Ytmgdngpdgjdicaa
