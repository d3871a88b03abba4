/-
  Layer 13, the document's side: Read of a ticket.
-/
import Derived.Test.YtfmbpdjcoopaeaaDoorMB
import Derived.Test.YtfmbpdjcoopaeaaDoorQe
namespace Go.Proofs.YtfmbpdjcoopaeaaDoor
open Go.RowKit

/-- What is known of the bytes that a ticket is read of. -/
def RdA (bs : List UInt8) (p e k : Nat) (s : Rs) : Prop := (s.1 = 0 ∧ ∃ r1 r2, nmO 8 bs = some (p, r1) ∧ nmO 8 r1 = some (e, r2) ∧ nmO 1 r2 = some (k, s.2)) ∨ (s.1 = 2 ∧ rdT bs = none)
def RdB (bs : List UInt8) (p e k : Nat) (x : List Nat × List Sl13 × Nat) (s : Rs) : Prop := (s.1 = 0 ∧ ∃ r1 r2 r3, nmO 8 bs = some (p, r1) ∧ nmO 8 r1 = some (e, r2) ∧ nmO 1 r2 = some (k, r3) ∧ bdO k r3 = some (x, s.2)) ∨ (s.1 = 2 ∧ rdT bs = none)
theorem rdT_of {bs r1 r2 r3 r4 r5 tg : List UInt8} {p e k : Nat} {x : List Nat × List Sl13 × Nat} (h1 : nmO 8 bs = some (p, r1)) (h2 : nmO 8 r1 = some (e, r2)) (h3 : nmO 1 r2 = some (k, r3)) (h4 : bdO k r3 = some (x, r4)) (h5 : tkO 16 r4 = some (tg, r5)) :
    rdT bs = if mayN ⟨p, e, ⟨(k : Int), x.1, x.2.1, x.2.2⟩, tg⟩ = 0 then some (⟨p, e, ⟨(k : Int), x.1, x.2.1, x.2.2⟩, tg⟩, r5) else none := by
  unfold rdT
  rw [h1]
  simp only [Option.bind_some]
  rw [h2]
  simp only [Option.bind_some]
  rw [h3]
  simp only [Option.bind_some]
  rw [h4]
  simp only [Option.bind_some]
  rw [h5]
  rfl
theorem rdT_no5 {bs r1 r2 r3 r4 : List UInt8} {p e k : Nat} {x : List Nat × List Sl13 × Nat} (h1 : nmO 8 bs = some (p, r1)) (h2 : nmO 8 r1 = some (e, r2)) (h3 : nmO 1 r2 = some (k, r3)) (h4 : bdO k r3 = some (x, r4)) (h5 : tkO 16 r4 = none) : rdT bs = none := by
  unfold rdT
  rw [h1]
  simp only [Option.bind_some]
  rw [h2]
  simp only [Option.bind_some]
  rw [h3]
  simp only [Option.bind_some]
  rw [h4]
  simp only [Option.bind_some]
  rw [h5]
  rfl
theorem rdT_no4 {bs r1 r2 r3 : List UInt8} {p e k : Nat} (h1 : nmO 8 bs = some (p, r1)) (h2 : nmO 8 r1 = some (e, r2)) (h3 : nmO 1 r2 = some (k, r3)) (h4 : bdO k r3 = none) : rdT bs = none := by
  unfold rdT
  rw [h1]
  simp only [Option.bind_some]
  rw [h2]
  simp only [Option.bind_some]
  rw [h3]
  simp only [Option.bind_some]
  rw [h4]
  rfl
theorem RdA.start (bs : List UInt8) : RdA bs (nmS 8 (0, bs)).1 (nmS 8 (nmS 8 (0, bs)).2).1 (nmS 1 (nmS 8 (nmS 8 (0, bs)).2).2).1 (nmS 1 (nmS 8 (nmS 8 (0, bs)).2).2).2 := by
  by_cases h1 : (nmS 8 (0, bs)).2.1 = 0
  · obtain ⟨-, g1⟩ := nmS_zero h1
    by_cases h2 : (nmS 8 (nmS 8 (0, bs)).2).2.1 = 0
    · obtain ⟨-, g2⟩ := nmS_zero h2
      by_cases h3 : (nmS 1 (nmS 8 (nmS 8 (0, bs)).2).2).2.1 = 0
      · obtain ⟨-, g3⟩ := nmS_zero h3
        exact .inl ⟨h3, _, _, g1, g2, g3⟩
      · obtain ⟨-, g3, -⟩ := nmS_err h3
        obtain ⟨g4, g5⟩ := g3 h2
        refine .inr ⟨g4, ?_⟩
        unfold rdT
        rw [g1]
        simp only [Option.bind_some]
        rw [g2]
        simp only [Option.bind_some]
        rw [g5]
        rfl
    · obtain ⟨-, g3, -⟩ := nmS_err h2
      obtain ⟨g4, g5⟩ := g3 h1
      obtain ⟨e1, e2⟩ : (nmS 1 (nmS 8 (nmS 8 (0, bs)).2).2) = (0, (nmS 8 (nmS 8 (0, bs)).2).2) ∧ True := ⟨nmS_done h2, trivial⟩
      rw [e1]
      refine .inr ⟨g4, ?_⟩
      unfold rdT
      rw [g1]
      simp only [Option.bind_some]
      rw [g5]
      rfl
  · obtain ⟨-, g3, -⟩ := nmS_err h1
    obtain ⟨g4, g5⟩ := g3 rfl
    have e1 : nmS 8 (nmS 8 (0, bs)).2 = (0, (nmS 8 (0, bs)).2) := nmS_done h1
    rw [e1]
    have e2 : nmS 1 ((0 : Nat), (nmS 8 (0, bs)).2).2 = (0, (nmS 8 (0, bs)).2) := nmS_done h1
    rw [e2]
    refine .inr ⟨g4, ?_⟩
    unfold rdT
    rw [g5]
    rfl
/-- Behind the tag. -/
theorem RdB.tag {bs : List UInt8} {p e k : Nat} {x : List Nat × List Sl13 × Nat} {s : Rs} (h : RdB bs p e k x s) :
    ((tkS 16 s).2.1 = 0 ∧ (tkS 16 s).1.length = 16 ∧ okT ⟨p, e, ⟨(k : Int), x.1, x.2.1, x.2.2⟩, (tkS 16 s).1⟩ ∧ rdT bs = if mayN ⟨p, e, ⟨(k : Int), x.1, x.2.1, x.2.2⟩, (tkS 16 s).1⟩ = 0 then some (⟨p, e, ⟨(k : Int), x.1, x.2.1, x.2.2⟩, (tkS 16 s).1⟩, (tkS 16 s).2.2) else none) ∨ ((tkS 16 s).2.1 = 2 ∧ rdT bs = none) := by
  rcases h with ⟨h0, r1, r2, r3, h1, h2, h3, h4⟩ | ⟨h0, h1⟩
  · by_cases h5 : (tkS 16 s).2.1 = 0
    · obtain ⟨-, g⟩ := tkS_zero h5
      refine .inl ⟨h5, tkS_len h5, ?_, rdT_of h1 h2 h3 h4 g⟩
      obtain ⟨b1, -⟩ := (nmO_cod 8 _ _ _).1 h1
      obtain ⟨b2, -⟩ := (nmO_cod 8 _ _ _).1 h2
      refine ⟨b1, b2, ?_, tkS_len h5⟩
      unfold bdO at h4
      by_cases k3 : k = 3
      · rw [if_pos k3, Option.map_eq_some_iff] at h4
        obtain ⟨⟨n', r4'⟩, e1, e2⟩ := h4
        obtain ⟨e3, -⟩ := (nmO_cod 8 _ _ _).1 e1
        cases e2
        exact ⟨(fun _ h => absurd h (by simp)), (fun _ h => absurd h (by simp)), e3⟩
      · rw [if_neg k3] at h4
        by_cases k12 : k = 1 ∨ k = 2
        · rw [if_pos k12] at h4
          simp only [Option.bind_eq_some_iff] at h4
          obtain ⟨⟨m, q1⟩, e1, ⟨l', q2⟩, e2, e3⟩ := h4
          obtain ⟨⟨-, f3⟩, -⟩ := (manyO_cod (nmO_cod 4) _ _ _ _).1 e2
          have fl : ∀ x ∈ l', x < 18446744073709551616 := fun x hx => Nat.lt_trans (f3 x hx) (by decide)
          by_cases k1 : k = 1
          · rw [if_pos k1, Option.map_eq_some_iff] at e3
            obtain ⟨⟨s', q3⟩, e4, e5⟩ := e3
            obtain ⟨⟨-, f5⟩, -⟩ := (manyO_cod slO_cod _ _ _ _).1 e4
            cases e5
            exact ⟨fl, f5, by show 0 < _; decide⟩
          · rw [if_neg k1] at e3
            cases e3
            exact ⟨fl, (fun _ h => absurd h (by simp)), by show 0 < _; decide⟩
        · rw [if_neg k12] at h4
          cases h4
          exact ⟨(fun _ h => absurd h (by simp)), (fun _ h => absurd h (by simp)), by show 0 < _; decide⟩
    · obtain ⟨-, g, -⟩ := tkS_err h5
      obtain ⟨g1, g2⟩ := g h0
      exact .inr ⟨g1, rdT_no5 h1 h2 h3 h4 g2⟩
  · refine .inr ⟨?_, h1⟩
    rw [tkS_done (by rw [h0]; decide)]
    exact h0
theorem RdB.len {bs : List UInt8} {p e k : Nat} {x : List Nat × List Sl13 × Nat} {s : Rs} (h : RdB bs p e k x s) (h0 : s.1 = 0) : x.2.1.length ≤ 256 ∧ x.1.length ≤ 256 := by
  rcases h with ⟨-, r1, r2, r3, h1, h2, h3, h4⟩ | ⟨h1, -⟩
  · unfold bdO at h4
    by_cases k3 : k = 3
    · rw [if_pos k3, Option.map_eq_some_iff] at h4
      obtain ⟨⟨n', r4'⟩, e1, e2⟩ := h4
      cases e2
      exact ⟨Nat.zero_le _, Nat.zero_le _⟩
    · rw [if_neg k3] at h4
      by_cases k12 : k = 1 ∨ k = 2
      · rw [if_pos k12] at h4
        simp only [Option.bind_eq_some_iff] at h4
        obtain ⟨⟨m, q1⟩, e1, ⟨l', q2⟩, e2, e3⟩ := h4
        obtain ⟨hm, -⟩ := (nmO_cod 1 _ _ _).1 e1
        obtain ⟨⟨f2, -⟩, -⟩ := (manyO_cod (nmO_cod 4) _ _ _ _).1 e2
        simp only at f2
        have hm : m < 256 := hm
        by_cases k1 : k = 1
        · rw [if_pos k1, Option.map_eq_some_iff] at e3
          obtain ⟨⟨s', q3⟩, e4, e5⟩ := e3
          obtain ⟨⟨f4, -⟩, -⟩ := (manyO_cod slO_cod _ _ _ _).1 e4
          simp only at f4
          cases e5
          exact ⟨by show s'.length ≤ 256; omega, by show l'.length ≤ 256; omega⟩
        · rw [if_neg k1] at e3
          cases e3
          exact ⟨Nat.zero_le _, by show l'.length ≤ 256; omega⟩
      · rw [if_neg k12] at h4
        cases h4
        exact ⟨Nat.zero_le _, Nat.zero_le _⟩
  · rw [h0] at h1
    cases h1
/-- To resize: the number of blocks. -/
theorem RdA.three {bs : List UInt8} {p e : Nat} {s : Rs} (h : RdA bs p e 3 s) : RdB bs p e 3 ([], [], (nmS 8 s).1) (nmS 8 s).2 := by
  rcases h with ⟨h0, r1, r2, h1, h2, h3⟩ | ⟨h0, h1⟩
  · by_cases h5 : (nmS 8 s).2.1 = 0
    · obtain ⟨-, g⟩ := nmS_zero h5
      refine .inl ⟨h5, r1, r2, _, h1, h2, h3, ?_⟩
      unfold bdO
      rw [if_pos rfl, g]
      rfl
    · obtain ⟨-, g, -⟩ := nmS_err h5
      obtain ⟨g1, g2⟩ := g h0
      refine .inr ⟨g1, rdT_no4 h1 h2 h3 ?_⟩
      unfold bdO
      rw [if_pos rfl, g2]
      rfl
  · refine .inr ⟨?_, h1⟩
    rw [nmS_done (by rw [h0]; decide)]
    exact h0
/-- No kind. -/
theorem RdA.none {bs : List UInt8} {p e k : Nat} {s : Rs} (h : RdA bs p e k s) (h3 : k ≠ 3) (h1 : k ≠ 1) (h2 : k ≠ 2) : RdB bs p e k ([], [], 0) s := by
  rcases h with ⟨h0, r1, r2, g1, g2, g3⟩ | ⟨h0, g1⟩
  · refine .inl ⟨h0, r1, r2, _, g1, g2, g3, ?_⟩
    unfold bdO
    rw [if_neg h3, if_neg (by omega)]
  · exact .inr ⟨h0, g1⟩
/-- Behind the indices; behind the sealed blocks. -/
def Lp1 (bs : List UInt8) (p e k n i : Nat) (l : List Nat) (s : Rs) : Prop := (s.1 = 0 ∧ ∃ r1 r2 r3 r4, nmO 8 bs = some (p, r1) ∧ nmO 8 r1 = some (e, r2) ∧ nmO 1 r2 = some (k, r3) ∧ nmO 1 r3 = some (n, r4) ∧ manyO (nmO 4) i r4 = some (l, s.2)) ∨ (s.1 = 2 ∧ rdT bs = none)
def Lp2 (bs : List UInt8) (p e n : Nat) (l : List Nat) (i : Nat) (sl : List Sl13) (s : Rs) : Prop := (s.1 = 0 ∧ ∃ r1 r2 r3 r4 r5, nmO 8 bs = some (p, r1) ∧ nmO 8 r1 = some (e, r2) ∧ nmO 1 r2 = some (1, r3) ∧ nmO 1 r3 = some (n, r4) ∧ manyO (nmO 4) (n + 1) r4 = some (l, r5) ∧ manyO slO i r5 = some (sl, s.2)) ∨ (s.1 = 2 ∧ rdT bs = none)
theorem bdO_list {k : Nat} (hk : k = 1 ∨ k = 2) (bs : List UInt8) : bdO k bs = (nmO 1 bs).bind fun n => (manyO (nmO 4) (n.1 + 1) n.2).bind fun l => if k = 1 then (manyO slO (n.1 + 1) l.2).map fun s => ((l.1, s.1, 0), s.2) else some ((l.1, [], 0), l.2) := by
  unfold bdO
  rw [if_neg (by omega), if_pos hk]
theorem RdA.list {bs : List UInt8} {p e k : Nat} {s : Rs} (h : RdA bs p e k s) (hk : k = 1 ∨ k = 2) : Lp1 bs p e k (nmS 1 s).1 0 [] (nmS 1 s).2 := by
  rcases h with ⟨h0, r1, r2, g1, g2, g3⟩ | ⟨h0, g1⟩
  · by_cases h5 : (nmS 1 s).2.1 = 0
    · obtain ⟨-, g⟩ := nmS_zero h5
      exact .inl ⟨h5, r1, r2, _, _, g1, g2, g3, g, rfl⟩
    · obtain ⟨-, g, -⟩ := nmS_err h5
      obtain ⟨f1, f2⟩ := g h0
      refine .inr ⟨f1, rdT_no4 g1 g2 g3 ?_⟩
      rw [bdO_list hk, f2]
      rfl
  · refine .inr ⟨?_, g1⟩
    rw [nmS_done (by rw [h0]; decide)]
    exact h0
theorem Lp1.next {bs : List UInt8} {p e k n i : Nat} {l : List Nat} {s : Rs} (h : Lp1 bs p e k n i l s) (hk : k = 1 ∨ k = 2) (hi : i ≤ n) (h0 : s.1 = 0) : Lp1 bs p e k n (i + 1) (l ++ [(nmS 4 s).1]) (nmS 4 s).2 := by
  rcases h with ⟨-, r1, r2, r3, r4, g1, g2, g3, g4, g5⟩ | ⟨h1, -⟩
  · by_cases h5 : (nmS 4 s).2.1 = 0
    · obtain ⟨-, g⟩ := nmS_zero h5
      exact .inl ⟨h5, r1, r2, r3, r4, g1, g2, g3, g4, manyO_next g5 g⟩
    · obtain ⟨-, g, -⟩ := nmS_err h5
      obtain ⟨f1, f2⟩ := g h0
      refine .inr ⟨f1, rdT_no4 g1 g2 g3 ?_⟩
      rw [bdO_list hk, g4]
      simp only [Option.bind_some]
      have := manyO_none (manyO_stop g5 f2) (n - i)
      rw [show i + 1 + (n - i) = n + 1 by omega] at this
      rw [this]
      rfl
  · rw [h0] at h1
    cases h1
theorem Lp1.two {bs : List UInt8} {p e n i : Nat} {l : List Nat} {s : Rs} (h : Lp1 bs p e 2 n i l s) (hi : s.1 = 0 → i = n + 1) : RdB bs p e 2 (l, [], 0) s := by
  rcases h with ⟨h0, r1, r2, r3, r4, g1, g2, g3, g4, g5⟩ | h1
  · refine .inl ⟨h0, r1, r2, r3, g1, g2, g3, ?_⟩
    rw [bdO_list (.inr rfl), g4]
    simp only [Option.bind_some]
    rw [← hi h0, g5]
    rfl
  · exact .inr h1
theorem Lp1.one {bs : List UInt8} {p e n i : Nat} {l : List Nat} {s : Rs} (h : Lp1 bs p e 1 n i l s) (hi : s.1 = 0 → i = n + 1) : Lp2 bs p e n l 0 [] s := by
  rcases h with ⟨h0, r1, r2, r3, r4, g1, g2, g3, g4, g5⟩ | h1
  · refine .inl ⟨h0, r1, r2, r3, r4, _, g1, g2, g3, g4, ?_, rfl⟩
    rw [← hi h0]
    exact g5
  · exact .inr h1
theorem Lp2.next {bs : List UInt8} {p e n i : Nat} {l : List Nat} {sl : List Sl13} {s : Rs} (h : Lp2 bs p e n l i sl s) (hi : i ≤ n) (h0 : s.1 = 0) : Lp2 bs p e n l (i + 1) (sl ++ [(slS s).1]) (slS s).2 := by
  rcases h with ⟨-, r1, r2, r3, r4, r5, g1, g2, g3, g4, g5, g6⟩ | ⟨h1, -⟩
  · by_cases h5 : (slS s).2.1 = 0
    · obtain ⟨-, g⟩ := slS_zero h5
      exact .inl ⟨h5, r1, r2, r3, r4, r5, g1, g2, g3, g4, g5, manyO_next g6 g⟩
    · obtain ⟨f1, f2⟩ := slS_err h0 h5
      refine .inr ⟨f1, rdT_no4 g1 g2 g3 ?_⟩
      rw [bdO_list (.inl rfl), g4]
      simp only [Option.bind_some]
      rw [g5]
      simp only [Option.bind_some, if_true]
      have := manyO_none (manyO_stop g6 f2) (n - i)
      rw [show i + 1 + (n - i) = n + 1 by omega] at this
      rw [this]
      rfl
  · rw [h0] at h1
    cases h1
theorem Lp2.done {bs : List UInt8} {p e n i : Nat} {l : List Nat} {sl : List Sl13} {s : Rs} (h : Lp2 bs p e n l i sl s) (hi : s.1 = 0 → i = n + 1) : RdB bs p e 1 (l, sl, 0) s := by
  rcases h with ⟨h0, r1, r2, r3, r4, r5, g1, g2, g3, g4, g5, g6⟩ | h1
  · refine .inl ⟨h0, r1, r2, r3, g1, g2, g3, ?_⟩
    rw [bdO_list (.inl rfl), g4]
    simp only [Option.bind_some]
    rw [g5]
    simp only [Option.bind_some, if_true]
    rw [← hi h0, g6]
    rfl
  · exact .inr h1
theorem nmS_lt (n : Nat) (s : Rs) : (nmS n s).1 < 256 ^ n := by
  have h1 := tkS_le n s
  have h2 : (nmS n s).1 < 256 ^ (tkS n s).1.length := val_lt _
  exact Nat.lt_of_lt_of_le h2 (Nat.pow_le_pow_right (by omega) h1)
theorem slS_ok (s : Rs) : okS (slS s).1 := by
  have h1 := tkS_le 32 (nmS 8 s).2
  have h2 := tkS_le 16 (tkS 32 (nmS 8 s).2).2
  refine ⟨nmS_lt 8 s, ?_, ?_⟩
  · show ((tkS 32 (nmS 8 s).2).1 ++ List.replicate (32 - (tkS 32 (nmS 8 s).2).1.length) 0).length = 32
    rw [List.length_append, List.length_replicate]
    omega
  · show ((tkS 16 (tkS 32 (nmS 8 s).2).2).1 ++ List.replicate (16 - (tkS 16 (tkS 32 (nmS 8 s).2).2).1.length) 0).length = 16
    rw [List.length_append, List.length_replicate]
    omega
end Go.Proofs.YtfmbpdjcoopaeaaDoor
