/-
  Layer 13, the program's side: a reader by its state.
-/
import Derived.Test.YtfmbpdjcoopaeaaDoorKf
import Derived.Test.YtfmbpdjcoopaeaaDoorUh
namespace Go.Proofs.YtfmbpdjcoopaeaaDoor
open Go.RowKit

/-- What a program's reader has left. -/
def lf (s : Rs) : List UInt8 := if s.1 = 0 then s.2 else []
structure RT (W : World) (base : Nat → Prop) (p : Nat) (s : Rs) : Prop where
  rs : RS W base p s.1 (lf s)
  st : s.1 = 0 ∨ s.1 = 2
section
variable {W W' : World} {base : Nat → Prop} {p : Nat} {s : Rs}
theorem RT.start {bs : List UInt8} (h : RS W base p 0 bs) : RT W base p (0, bs) := ⟨h, .inl rfl⟩
theorem RT.fr {S : Nat → Prop} (h : RT W base p s) (hf : Fr S W W') (hn : ∀ g, base g → ¬ S g) : RT W' base p s := ⟨h.rs.fr hf hn, h.st⟩
theorem RT.new (h : RT W base p s) (hb : Below W.heap.size W W') : RT W' base p s := ⟨h.rs.new hb, h.st⟩
theorem RT.old (h : RT W base p s) : RT W (fun g => base g ∧ g < W.heap.size) p s := ⟨h.rs.old, h.st⟩
theorem RT.mono {base' : Nat → Prop} (h : RT W base p s) (hb : ∀ g, base g → base' g) : RT W base' p s := ⟨h.rs.mono hb, h.st⟩
theorem RT.lt (h : RT W base p s) : p < W.heap.size := h.rs.lt
theorem RT.low (h : RT W base p s) : base p := by
  obtain ⟨_, _, h1⟩ := h.rs
  exact h1.low
end
/-- A number is read. -/
theorem rt_num (base : Nat → Prop) (p n : Nat) (s : Rs) (hs : Sz n) (W : World) (h : RT W base p s) :
    Calls Tryd.prog 129 #[.pointer (some ⟨p, 0, none⟩), .int .i64 (n : Int)] W fun e w' => e = .returned (.int .u64 ((nmS n s).1 : Nat)) ∧ RT w' base p (nmS n s).2 ∧ Fr (Only p) W w' := by
  obtain ⟨k, bs⟩ := s
  obtain ⟨h1, h2⟩ := h
  have hn0 : 0 < n := by rcases hs with rfl | rfl | rfl | rfl <;> omega
  rcases (h2 : k = 0 ∨ k = 2) with rfl | rfl
  · by_cases hn : n ≤ bs.length
    · have e1 : nmS n (0, bs) = (val (bs.take n), (0, bs.drop n)) := by unfold nmS; rw [tkS_ok hn]
      rw [e1]
      refine (rnum_good base p 0 bs n hs W h1 hn).mono ?_
      rintro e w' ⟨x, rfl, rfl, h3, h4⟩
      exact ⟨rfl, ⟨h3, .inl rfl⟩, h4⟩
    · have e1 : nmS n (0, bs) = (0, (2, bs)) := by unfold nmS; rw [tkS_bad hn]; rfl
      rw [e1]
      refine (rnum_bad base p 0 bs (n : Int) W h1 (.inl (by omega))).mono ?_
      rintro e w' ⟨x, rfl, rfl, h3, h4⟩
      exact ⟨rfl, ⟨h3, .inr rfl⟩, h4⟩
  · have e1 : nmS n (2, bs) = (0, (2, bs)) := nmS_done (s := (2, bs)) (show (2 : Nat) ≠ 0 by decide)
    rw [e1]
    refine (rnum_bad base p 2 [] (n : Int) W h1 (.inl (by simp; omega))).mono ?_
    rintro e w' ⟨x, rfl, rfl, h3, h4⟩
    exact ⟨rfl, ⟨h3, .inr rfl⟩, h4⟩
/-- Bytes are read. -/
theorem rt_raw (base : Nat → Prop) (p n : Nat) (s : Rs) (hn0 : 0 < n) (W : World) (h : RT W base p s) (hl : s.2.length ≤ 1000000000) :
    Calls Tryd.prog 131 #[.pointer (some ⟨p, 0, none⟩), .int .i64 (n : Int)] W fun e w' => ∃ A c, e = .returned (.slice A (tkS n s).1.length c) ∧ Rb w' w'.heap.size A (tkS n s).1 ∧ RT w' base p (tkS n s).2 ∧ Fr (Only p) W w' := by
  obtain ⟨k, bs⟩ := s
  obtain ⟨h1, h2⟩ := h
  rcases (h2 : k = 0 ∨ k = 2) with rfl | rfl
  · by_cases hn : n ≤ bs.length
    · rw [tkS_ok hn]
      refine (rraw_good base p 0 bs n W h1 hn hl).mono ?_
      rintro e w' ⟨x, rfl, ho, h3, h4⟩
      obtain ⟨A, c, rfl, -⟩ := own_form ho
      exact ⟨A, c, rfl, Rd.of_own ho, ⟨h3, .inl rfl⟩, h4⟩
    · rw [tkS_bad hn]
      refine (rraw_bad base p 0 bs (n : Int) W h1 (.inr (by omega))).mono ?_
      rintro e w' ⟨x, rfl, ho, h3, h4⟩
      obtain ⟨A, c, rfl, -⟩ := own_form ho
      exact ⟨A, c, rfl, Rd.of_own ho, ⟨h3, .inr rfl⟩, h4⟩
  · rw [tkS_done (s := (2, bs)) (show (2 : Nat) ≠ 0 by decide)]
    refine (rraw_bad base p 2 [] (n : Int) W h1 (.inr (by simp; omega))).mono ?_
    rintro e w' ⟨x, rfl, ho, h3, h4⟩
    obtain ⟨A, c, rfl, -⟩ := own_form ho
    exact ⟨A, c, rfl, Rd.of_own ho, ⟨h3, .inr rfl⟩, h4⟩
/-- A sealed block, as the program reads it. -/
def slP (s : Rs) : Sl13 × Rs := if s.1 = 0 then (if 56 ≤ s.2.length then slS s else ((0, n32, n16), (2, s.2))) else ((0, n32, n16), s)
theorem slP_ok {bs : List UInt8} (h : 56 ≤ bs.length) : slP (0, bs) = slS (0, bs) := by unfold slP; rw [if_pos rfl, if_pos h]
theorem slP_bad {bs : List UInt8} (h : ¬ 56 ≤ bs.length) : slP (0, bs) = ((0, n32, n16), (2, bs)) := by unfold slP; rw [if_pos rfl, if_neg h]
theorem slP_done {s : Rs} (h : s.1 ≠ 0) : slP s = ((0, n32, n16), s) := by unfold slP; rw [if_neg h]
theorem slS_whole {bs : List UInt8} (h : 56 ≤ bs.length) : slS (0, bs) = ((val (bs.take 8), (bs.drop 8).take 32, (bs.drop 40).take 16), (0, bs.drop 56)) := by
  unfold slS
  have e1 : nmS 8 (0, bs) = (val (bs.take 8), (0, bs.drop 8)) := by unfold nmS; rw [tkS_ok (by omega)]
  rw [e1]
  simp only
  have l1 : (bs.drop 8).length = bs.length - 8 := List.length_drop
  rw [tkS_ok (show 32 ≤ (bs.drop 8).length by omega)]
  simp only
  have l2 : ((bs.drop 8).drop 32).length = bs.length - 40 := by rw [List.length_drop, l1]; omega
  rw [tkS_ok (show 16 ≤ ((bs.drop 8).drop 32).length by omega)]
  simp only
  have l3 : ((bs.drop 8).take 32).length = 32 := by rw [List.length_take]; omega
  have l4 : (((bs.drop 8).drop 32).take 16).length = 16 := by rw [List.length_take]; omega
  rw [l3, l4, List.drop_drop, List.drop_drop]
  simp
theorem slS_zero_len {bs : List UInt8} (h : (slS (0, bs)).2.1 = 0) : 56 ≤ bs.length := by
  obtain ⟨-, h2⟩ := slS_zero h
  have h3 := (slO_cod _ _ _).1 h2
  obtain ⟨h4, h5⟩ := h3
  have h6 : bs = putS (slS (0, bs)).1 ++ (slS (0, bs)).2.2 := h5
  have h7 := congrArg List.length h6
  rw [List.length_append, show (putS (slS (0, bs)).1).length = 56 from putL_length _ _ _ h4.2.1 h4.2.2] at h7
  omega
theorem slP_oks (s : Rs) : okS (slP s).1 := by
  unfold slP
  split
  · split
    · exact slS_ok s
    · exact ⟨(show (0 : Nat) < 18446744073709551616 by decide), by simp [n32], by simp [n16]⟩
  · exact ⟨(show (0 : Nat) < 18446744073709551616 by decide), by simp [n32], by simp [n16]⟩
/-- What is known while the blocks are read stays so. -/
theorem Lp2.nextP {bs : List UInt8} {p e n i : Nat} {l : List Nat} {sl : List Sl13} {s : Rs} (h : Lp2 bs p e n l i sl s) (hi : i ≤ n) : Lp2 bs p e n l (i + 1) (sl ++ [(slP s).1]) (slP s).2 := by
  obtain ⟨k, r⟩ := s
  by_cases hk : k = 0
  · subst hk
    have h1 := h.next hi rfl
    by_cases h5 : 56 ≤ r.length
    · rw [slP_ok h5]
      exact h1
    · rw [slP_bad h5]
      rcases h1 with ⟨h2, -⟩ | ⟨-, h3⟩
      · exact absurd (slS_zero_len h2) h5
      · exact .inr ⟨rfl, h3⟩
  · rw [slP_done (s := (k, r)) hk]
    rcases h with ⟨h2, -⟩ | ⟨h2, h3⟩
    · exact absurd h2 hk
    · exact .inr ⟨h2, h3⟩
theorem Lp1.nextP {bs : List UInt8} {p e k n i : Nat} {l : List Nat} {s : Rs} (h : Lp1 bs p e k n i l s) (hk : k = 1 ∨ k = 2) (hi : i ≤ n) : Lp1 bs p e k n (i + 1) (l ++ [(nmS 4 s).1]) (nmS 4 s).2 := by
  by_cases h0 : s.1 = 0
  · exact h.next hk hi h0
  · rw [nmS_done h0]
    rcases h with ⟨h2, -⟩ | ⟨h2, h3⟩
    · exact absurd h2 h0
    · exact .inr ⟨h2, h3⟩
end Go.Proofs.YtfmbpdjcoopaeaaDoor
