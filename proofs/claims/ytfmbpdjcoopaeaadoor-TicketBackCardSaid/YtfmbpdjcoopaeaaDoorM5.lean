/-
  Layer 13, pure: orders, tickets, their bytes, and what is read of bytes.
  Layer 13: sealed blocks one behind the other; slices of them that grow.
  Layer 13: orders and tickets as values, in memory.
  Layer 13: the document's reader, whole: Take and Read of any reader.
-/
import Derived.Test.YtfmbpdjcoopaeaaDoorY9
import Derived.Test.YtfmbpdjcoopaeaaDoorV3
import Derived.Test.YtfmbpdjcoopaeaaDoorM4
import Derived.Test.YtfmbpdjcoopaeaaDoorDc
import Derived.Maps.AppendAt
import Derived.Great.BuildSlice
import Derived.Deep.AppendLies
import Derived.Test.YtfmbpdjcoopaeaaDoorMG
namespace Go.Proofs.YtfmbpdjcoopaeaaDoor

theorem val_beN (l : List UInt8) : val l = beN l := by with_unfolding_all rfl
theorem toBE_one (n : Nat) : toBE 1 n = [UInt8.ofNat n] := by rw [toBE_succ, toBE_zero]; rfl
/-- A sealed block: its epoch, its data, its tag. -/
abbrev Sl13 := Nat × List UInt8 × List UInt8
structure Ord13 where
  kind : Int
  idx : List Nat
  sl : List Sl13
  blocks : Nat
deriving DecidableEq
structure Tk13 where
  prev : Nat
  epoch : Nat
  o : Ord13
  tag : List UInt8
deriving DecidableEq
def ord0 : Ord13 := ⟨0, [], [], 0⟩
def tk0 : Tk13 := ⟨0, 0, ord0, List.replicate 16 0⟩
def okS (x : Sl13) : Prop := x.1 < 18446744073709551616 ∧ x.2.1.length = 32 ∧ x.2.2.length = 16
def okO (o : Ord13) : Prop := (∀ x ∈ o.idx, x < 18446744073709551616) ∧ (∀ x ∈ o.sl, okS x) ∧ o.blocks < 18446744073709551616
def okT (t : Tk13) : Prop := t.prev < 18446744073709551616 ∧ t.epoch < 18446744073709551616 ∧ okO t.o ∧ t.tag.length = 16
def oneE (l : List Sl13) : Bool := l.all fun x => rightB 0 x.1 && decide (x.1 = (l.headD (0, [], [])).1)
def rgtO (o : Ord13) : Bool :=
  if o.kind = 3 then decide (o.idx = []) && decide (o.sl = []) && decide (0 < o.blocks) && decide (o.blocks ≤ 4294967296)
  else (decide (o.kind = 1) || decide (o.kind = 2)) && decide (o.blocks = 0) && rgtB 32 o.idx && (if o.kind = 2 then decide (o.sl = []) else oneE o.sl && decide (o.sl.length = o.idx.length))
def mayN (t : Tk13) : Nat :=
  if rgtO t.o then (if t.o.kind = 1 ∧ (t.o.sl.headD (0, [], [])).1 ≠ t.epoch then 2 else if rightB 0 t.epoch && decide (t.prev < t.epoch) then 0 else 1) else 2
def putS (x : Sl13) : List UInt8 := putL x.1 x.2.1 x.2.2
def bodyT (o : Ord13) : List UInt8 :=
  if o.kind = 3 then toBE 8 o.blocks else toBE 1 (o.idx.length - 1) ++ (o.idx.flatMap (toBE 4) ++ o.sl.flatMap putS)
def textT (t : Tk13) : List UInt8 := toBE 8 t.prev ++ (toBE 8 t.epoch ++ (toBE 1 t.o.kind.toNat ++ bodyT t.o))
def putT (t : Tk13) : List UInt8 := textT t ++ t.tag
section
variable {α β γ : Type}
/-- What reads just what is written. -/
def Cod (p : List UInt8 → Option (α × List UInt8)) (e : α → List UInt8) (ok : α → Prop) : Prop := ∀ bs a r, p bs = some (a, r) ↔ ok a ∧ bs = e a ++ r
theorem Cod.run {p : List UInt8 → Option (α × List UInt8)} {e : α → List UInt8} {ok : α → Prop} (h : Cod p e ok) {a : α} (ha : ok a) (r : List UInt8) : p (e a ++ r) = some (a, r) := (h _ _ _).2 ⟨ha, rfl⟩
def tkO (n : Nat) (bs : List UInt8) : Option (List UInt8 × List UInt8) := if n ≤ bs.length then some (bs.take n, bs.drop n) else none
theorem tkO_cod (n : Nat) : Cod (tkO n) id (fun l => l.length = n) := by
  intro bs a r
  unfold tkO
  constructor
  · intro h
    split at h
    · rename_i hn
      cases h
      exact ⟨by show (List.take n bs).length = n; rw [List.length_take]; omega, (List.take_append_drop n bs).symm⟩
    · cases h
  · rintro ⟨rfl, rfl⟩
    rw [if_pos (by simp)]
    simp
def nmO (s : Nat) (bs : List UInt8) : Option (Nat × List UInt8) := (tkO s bs).map fun x => (val x.1, x.2)
theorem nmO_cod (s : Nat) : Cod (nmO s) (toBE s) (fun n => n < 256 ^ s) := by
  intro bs a r
  unfold nmO
  rw [Option.map_eq_some_iff]
  constructor
  · rintro ⟨⟨l, q⟩, h1, h2⟩
    obtain ⟨h3, rfl⟩ := (tkO_cod s _ _ _).1 h1
    cases h2
    refine ⟨by rw [← h3]; exact val_lt l, ?_⟩
    rw [val_beN, toBE_beN s l h3]
    rfl
  · rintro ⟨h1, rfl⟩
    refine ⟨(toBE s a, r), (tkO_cod s _ _ _).2 ⟨toBE_length s a, rfl⟩, ?_⟩
    rw [val_beN, beN_toBE, Nat.mod_eq_of_lt h1]
def slO (bs : List UInt8) : Option (Sl13 × List UInt8) := (nmO 8 bs).bind fun a => (tkO 32 a.2).bind fun b => (tkO 16 b.2).map fun c => ((a.1, b.1, c.1), c.2)
theorem slO_cod : Cod slO putS okS := by
  rintro bs ⟨e, d, t⟩ r
  unfold slO
  simp only [Option.bind_eq_some_iff, Option.map_eq_some_iff]
  constructor
  · rintro ⟨⟨a, r1⟩, h1, ⟨b, r2⟩, h2, ⟨c, r3⟩, h3, h4⟩
    obtain ⟨g1, rfl⟩ := (nmO_cod 8 _ _ _).1 h1
    obtain ⟨g2, rfl⟩ := (tkO_cod 32 _ _ _).1 h2
    obtain ⟨g3, rfl⟩ := (tkO_cod 16 _ _ _).1 h3
    cases h4
    exact ⟨⟨g1, g2, g3⟩, by simp [putS, putL]⟩
  · rintro ⟨⟨g1, g2, g3⟩, rfl⟩
    exact ⟨(e, d ++ (t ++ r)), (nmO_cod 8 _ _ _).2 ⟨g1, by simp [putS, putL]⟩, (d, t ++ r), (tkO_cod 32 _ _ _).2 ⟨g2, rfl⟩, (t, r), (tkO_cod 16 _ _ _).2 ⟨g3, rfl⟩, rfl⟩
/-- So many, one behind the other. -/
def manyO (p : List UInt8 → Option (α × List UInt8)) : Nat → List UInt8 → Option (List α × List UInt8)
  | 0, bs => some ([], bs)
  | n + 1, bs => (manyO p n bs).bind fun x => (p x.2).map fun y => (x.1 ++ [y.1], y.2)
theorem manyO_cod {p : List UInt8 → Option (α × List UInt8)} {e : α → List UInt8} {ok : α → Prop} (h : Cod p e ok) : ∀ n, Cod (manyO p n) (fun l => l.flatMap e) (fun l => l.length = n ∧ ∀ x ∈ l, ok x)
  | 0 => by
    intro bs a r
    unfold manyO
    constructor
    · intro h1
      cases h1
      exact ⟨⟨rfl, fun _ h => absurd h (by simp)⟩, rfl⟩
    · rintro ⟨⟨h1, -⟩, rfl⟩
      rw [List.eq_nil_of_length_eq_zero h1]
      rfl
  | n + 1 => by
    intro bs a r
    unfold manyO
    simp only [Option.bind_eq_some_iff, Option.map_eq_some_iff]
    constructor
    · rintro ⟨⟨l, r1⟩, h1, ⟨y, r2⟩, h2, h3⟩
      obtain ⟨⟨g1, g2⟩, rfl⟩ := (manyO_cod h n _ _ _).1 h1
      obtain ⟨g3, rfl⟩ := (h _ _ _).1 h2
      cases h3
      refine ⟨⟨by simp [g1], fun x hx => ?_⟩, by simp⟩
      rcases List.mem_append.1 hx with hx | hx
      · exact g2 x hx
      · rw [List.mem_singleton.1 hx]
        exact g3
    · rintro ⟨⟨h1, h2⟩, rfl⟩
      rcases List.eq_nil_or_concat a with rfl | ⟨L, y, e1⟩
      · cases h1
      · rw [List.concat_eq_append] at e1
        subst e1
        refine ⟨(L, e y ++ r), (manyO_cod h n _ _ _).2 ⟨⟨by simpa using h1, fun x hx => h2 x (List.mem_append_left _ hx)⟩, by simp⟩, (y, r), h.run (h2 y (by simp)) r, rfl⟩
end
def bdO (kind : Nat) (bs : List UInt8) : Option ((List Nat × List Sl13 × Nat) × List UInt8) :=
  if kind = 3 then (nmO 8 bs).map fun x => (([], [], x.1), x.2)
  else if kind = 1 ∨ kind = 2 then
    (nmO 1 bs).bind fun n => (manyO (nmO 4) (n.1 + 1) n.2).bind fun l => if kind = 1 then (manyO slO (n.1 + 1) l.2).map fun s => ((l.1, s.1, 0), s.2) else some ((l.1, [], 0), l.2)
  else some (([], [], 0), bs)
/-- The ticket that bytes begin with, and what follows it. -/
def rdT (bs : List UInt8) : Option (Tk13 × List UInt8) :=
  (nmO 8 bs).bind fun a => (nmO 8 a.2).bind fun b => (nmO 1 b.2).bind fun k => (bdO k.1 k.2).bind fun c => (tkO 16 c.2).bind fun d =>
    if mayN ⟨a.1, b.1, ⟨(k.1 : Int), c.1.1, c.1.2.1, c.1.2.2⟩, d.1⟩ = 0 then some (⟨a.1, b.1, ⟨(k.1 : Int), c.1.1, c.1.2.1, c.1.2.2⟩, d.1⟩, d.2) else none
theorem mayN_zero {t : Tk13} : mayN t = 0 ↔ rgtO t.o = true ∧ (t.o.kind = 1 → (t.o.sl.headD (0, [], [])).1 = t.epoch) ∧ rightB 0 t.epoch = true ∧ t.prev < t.epoch := by
  unfold mayN
  cases h : rgtO t.o with
  | false => simp
  | true =>
    rw [if_pos rfl]
    by_cases h1 : t.o.kind = 1 ∧ (t.o.sl.headD (0, [], [])).1 ≠ t.epoch
    · rw [if_pos h1]
      constructor
      · intro e; cases e
      · rintro ⟨-, e, -⟩
        exact absurd (e h1.1) h1.2
    · rw [if_neg h1]
      have h2 : t.o.kind = 1 → (t.o.sl.headD (0, [], [])).1 = t.epoch := fun e => Decidable.byContradiction fun e2 => h1 ⟨e, e2⟩
      cases h3 : rightB 0 t.epoch <;> by_cases h4 : t.prev < t.epoch <;> simp [h4]
      simpa using h2
/-- What an order is. -/
theorem rgtO_cases {o : Ord13} (h : rgtO o = true) : (o.kind = 3 ∧ o.idx = [] ∧ o.sl = [] ∧ 0 < o.blocks ∧ o.blocks ≤ 4294967296) ∨
    (o.kind = 2 ∧ o.blocks = 0 ∧ rgtB 32 o.idx = true ∧ o.sl = []) ∨ (o.kind = 1 ∧ o.blocks = 0 ∧ rgtB 32 o.idx = true ∧ oneE o.sl = true ∧ o.sl.length = o.idx.length) := by
  unfold rgtO at h
  by_cases h3 : o.kind = 3
  · rw [if_pos h3] at h
    simp only [Bool.and_eq_true, decide_eq_true_eq] at h
    exact .inl ⟨h3, h.1.1.1, h.1.1.2, h.1.2, h.2⟩
  · rw [if_neg h3] at h
    simp only [Bool.and_eq_true, Bool.or_eq_true, decide_eq_true_eq] at h
    obtain ⟨⟨⟨h1, h2⟩, h4⟩, h5⟩ := h
    by_cases h6 : o.kind = 2
    · rw [if_pos h6] at h5
      exact .inr (.inl ⟨h6, h2, h4, by simpa using h5⟩)
    · rw [if_neg h6] at h5
      simp only [Bool.and_eq_true, decide_eq_true_eq] at h5
      exact .inr (.inr ⟨h1.resolve_right h6, h2, h4, h5.1, h5.2⟩)
theorem rgtB_small {l : List Nat} (h : rgtB 32 l = true) : (∀ x ∈ l, x < 256 ^ 4) ∧ 0 < l.length ∧ l.length ≤ 256 := by
  unfold rgtB at h
  simp only [Bool.and_eq_true, decide_eq_true_eq] at h
  obtain ⟨⟨⟨⟨-, h1⟩, h2⟩, h3⟩, -⟩ := h
  refine ⟨fun x hx => ?_, List.length_pos_iff.2 h1, h2⟩
  have := List.all_eq_true.1 h3 x hx
  simpa using this
/-- A ticket's bytes are read as it was, and nothing else is. -/
theorem rdT_iff (bs : List UInt8) (t : Tk13) (r : List UInt8) : rdT bs = some (t, r) ↔ okT t ∧ mayN t = 0 ∧ bs = putT t ++ r := by
  unfold rdT
  simp only [Option.bind_eq_some_iff]
  constructor
  · rintro ⟨⟨a, r1⟩, h1, ⟨b, r2⟩, h2, ⟨k, r3⟩, h3, ⟨⟨l, s, n⟩, r4⟩, h4, ⟨g, r5⟩, h5, h6⟩
    obtain ⟨g1, rfl⟩ := (nmO_cod 8 _ _ _).1 h1
    obtain ⟨g2, rfl⟩ := (nmO_cod 8 _ _ _).1 h2
    obtain ⟨g3, rfl⟩ := (nmO_cod 1 _ _ _).1 h3
    obtain ⟨g5, rfl⟩ := (tkO_cod 16 _ _ _).1 h5
    simp only at h6 h4
    split at h6
    · rename_i hm
      cases h6
      have hb : okO ⟨(k : Int), l, s, n⟩ ∧ r3 = bodyT ⟨(k : Int), l, s, n⟩ ++ (g ++ r) := by
        unfold bdO at h4
        by_cases k3 : k = 3
        · rw [if_pos k3, Option.map_eq_some_iff] at h4
          obtain ⟨⟨n', r4'⟩, e1, e2⟩ := h4
          obtain ⟨e3, rfl⟩ := (nmO_cod 8 _ _ _).1 e1
          cases e2
          subst k3
          exact ⟨⟨(fun _ h => absurd h (by simp)), (fun _ h => absurd h (by simp)), e3⟩, by simp [bodyT]⟩
        · rw [if_neg k3] at h4
          by_cases k12 : k = 1 ∨ k = 2
          · rw [if_pos k12] at h4
            simp only [Option.bind_eq_some_iff] at h4
            obtain ⟨⟨m, q1⟩, e1, ⟨l', q2⟩, e2, e3⟩ := h4
            obtain ⟨f1, rfl⟩ := (nmO_cod 1 _ _ _).1 e1
            obtain ⟨⟨f2, f3⟩, rfl⟩ := (manyO_cod (nmO_cod 4) _ _ _ _).1 e2
            have fl : ∀ x ∈ l', x < 18446744073709551616 := fun x hx => Nat.lt_trans (f3 x hx) (by decide)
            by_cases k1 : k = 1
            · rw [if_pos k1, Option.map_eq_some_iff] at e3
              obtain ⟨⟨s', q3⟩, e4, e5⟩ := e3
              obtain ⟨⟨f4, f5⟩, rfl⟩ := (manyO_cod slO_cod _ _ _ _).1 e4
              cases e5
              subst k1
              refine ⟨⟨fl, f5, by show 0 < _; decide⟩, ?_⟩
              unfold bodyT
              rw [if_neg (by simp)]
              simp [f2]
            · rw [if_neg k1] at e3
              cases e3
              refine ⟨⟨fl, (fun _ h => absurd h (by simp)), by show 0 < _; decide⟩, ?_⟩
              unfold bodyT
              rw [if_neg (by simp; omega)]
              simp [f2]
          · obtain ⟨hr, -⟩ := mayN_zero.1 hm
            rcases rgtO_cases hr with h | h | h
            · exact absurd h.1 (by simp; omega)
            · exact absurd h.1 (by simp; omega)
            · exact absurd h.1 (by simp; omega)
      refine ⟨⟨g1, g2, hb.1, g5⟩, hm, ?_⟩
      rw [hb.2]
      simp [putT, textT]
    · cases h6
  · rintro ⟨⟨g1, g2, ⟨g3, g4, g5⟩, g6⟩, hm, rfl⟩
    obtain ⟨p, e, ⟨kd, l, s, n⟩, tg⟩ := t
    simp only at g1 g2 g3 g4 g5 g6
    obtain ⟨hr, hk, hrt, hpe⟩ := mayN_zero.1 hm
    have hkd : kd = 1 ∨ kd = 2 ∨ kd = 3 := by
      rcases rgtO_cases hr with h | h | h
      · exact .inr (.inr h.1)
      · exact .inr (.inl h.1)
      · exact .inl h.1
    have hkn : ((kd.toNat : Nat) : Int) = kd := by rcases hkd with rfl | rfl | rfl <;> rfl
    have hk256 : kd.toNat < 256 ^ 1 := by rcases hkd with rfl | rfl | rfl <;> decide
    refine ⟨(p, toBE 8 e ++ (toBE 1 kd.toNat ++ (bodyT ⟨kd, l, s, n⟩ ++ (tg ++ r)))), (nmO_cod 8 _ _ _).2 ⟨g1, by simp [putT, textT]⟩, (e, _), (nmO_cod 8).run g2 _, (kd.toNat, _), (nmO_cod 1).run hk256 _, ((l, s, n), tg ++ r), ?_, (tg, r), (tkO_cod 16).run g6 r, ?_⟩
    · simp only
      unfold bdO
      rcases rgtO_cases hr with ⟨h0, h1, h2, -⟩ | ⟨h0, h1, h2, h3⟩ | ⟨h0, h1, h2, h3, h4⟩
      · simp only at h0 h1 h2
        subst h0 h1 h2
        rw [if_pos (by decide), Option.map_eq_some_iff]
        exact ⟨(n, tg ++ r), (nmO_cod 8 _ _ _).2 ⟨g5, by simp [bodyT]⟩, rfl⟩
      · simp only at h0 h1 h2 h3
        subst h0 h1 h3
        obtain ⟨b1, b2, b3⟩ := rgtB_small h2
        rw [if_neg (by decide), if_pos (by decide)]
        simp only [Option.bind_eq_some_iff]
        refine ⟨(l.length - 1, l.flatMap (toBE 4) ++ (tg ++ r)), (nmO_cod 1 _ _ _).2 ⟨by simp; omega, by simp [bodyT]⟩, (l, tg ++ r), (manyO_cod (nmO_cod 4) _ _ _ _).2 ⟨⟨by simp; omega, b1⟩, rfl⟩, ?_⟩
        rw [if_neg (by decide)]
      · simp only at h0 h1 h2 h3 h4
        subst h0 h1
        obtain ⟨b1, b2, b3⟩ := rgtB_small h2
        rw [if_neg (by decide), if_pos (by decide)]
        simp only [Option.bind_eq_some_iff]
        refine ⟨(l.length - 1, l.flatMap (toBE 4) ++ (s.flatMap putS ++ (tg ++ r))), (nmO_cod 1 _ _ _).2 ⟨by simp; omega, by simp [bodyT]⟩, (l, s.flatMap putS ++ (tg ++ r)), (manyO_cod (nmO_cod 4) _ _ _ _).2 ⟨⟨by simp; omega, b1⟩, rfl⟩, ?_⟩
        rw [if_pos (by decide), Option.map_eq_some_iff]
        exact ⟨(s, tg ++ r), (manyO_cod slO_cod _ _ _ _).2 ⟨⟨by simp [h4]; omega, g4⟩, rfl⟩, rfl⟩
    · simp only [hkn]
      rw [if_pos hm]
theorem putT_length {t : Tk13} (h : t.tag.length = 16) : (putT t).length = (textT t).length + 16 := by rw [putT, List.length_append, h]
/-- Bytes with one of them changed: where it is one of the tag's, and where it isn't. -/
theorem put_turn {t u : Tk13} (ht : t.tag.length = 16) (hu : u.tag.length = 16) {i : Nat} {y : UInt8} (h : putT u = (putT t).set i y) :
    (i < (textT t).length → u.tag = t.tag) ∧ ((textT t).length ≤ i → textT u = textT t ∧ u.tag = t.tag.set (i - (textT t).length) y) := by
  have hl := congrArg List.length h
  rw [List.length_set, putT_length ht, putT_length hu] at hl
  have hl : (textT u).length = (textT t).length := by omega
  unfold putT at h
  constructor
  · intro hi
    rw [List.set_append_left _ _ hi] at h
    exact (List.append_inj h (by rw [List.length_set]; exact hl)).2
  · intro hi
    rw [List.set_append_right _ _ hi] at h
    exact List.append_inj h hl
/-- What is read of a ticket's bytes with one of them changed is another ticket. -/
theorem rdT_turn {t u : Tk13} {i : Nat} {y : UInt8} (hi : i < (putT t).length) (hy : y ≠ (putT t)[i]) (h : rdT ((putT t).set i y) = some (u, [])) : okT u ∧ mayN u = 0 ∧ putT u = (putT t).set i y ∧ u ≠ t := by
  obtain ⟨h1, h2, h3⟩ := (rdT_iff _ _ _).1 h
  rw [List.append_nil] at h3
  refine ⟨h1, h2, h3.symm, ?_⟩
  rintro rfl
  apply hy
  have := congrArg (fun l => l[i]?) h3
  have e : ((putT u).set i y)[i]? = (putT u)[i]? := this
  rw [List.getElem?_set_self hi, List.getElem?_eq_getElem hi] at e
  exact Option.some.inj e
end Go.Proofs.YtfmbpdjcoopaeaaDoor

namespace Go.Proofs.YtfmbpdjcoopaeaaDoor
open Go.RowKit

def slV (x : Sl13) : List Value := sv x.1 x.2.1 x.2.2
def slR (l : List Sl13) : List Value := l.flatMap slV
theorem slR_nil : slR [] = [] := rfl
theorem slR_cons (x : Sl13) (l : List Sl13) : slR (x :: l) = slV x ++ slR l := rfl
theorem slR_append (l m : List Sl13) : slR (l ++ m) = slR l ++ slR m := by unfold slR; rw [List.flatMap_append]
theorem slR_one (x : Sl13) : slR [x] = slV x := by rw [slR_cons, slR_nil, List.append_nil]
theorem slV_length {x : Sl13} (h : okS x) : (slV x).length = 49 := sv_length _ _ _ h.2.1 h.2.2
theorem slR_length {l : List Sl13} (h : ∀ x ∈ l, okS x) : (slR l).length = 49 * l.length := by
  induction l with
  | nil => rfl
  | cons p L ih =>
    rw [slR_cons, List.length_append, slV_length (h p (by simp)), ih (fun q hq => h q (by simp [hq])), List.length_cons]
    omega
theorem slR_at {l : List Sl13} (k : Nat) (hk : k < l.length) : ∃ z, slR l = slR (l.take k) ++ (slV l[k] ++ z) := by
  refine ⟨slR (l.drop (k + 1)), ?_⟩
  rw [← slR_cons, ← slR_append, List.getElem_cons_drop, List.take_append_drop]
theorem slV_one (x : Sl13) : ∀ u ∈ slV x, u.oneCell' = true := fun u hu => Array.all_eq_true_iff_forall_mem.1 (sv_all x.1 x.2.1 x.2.2) u (by simpa [slV] using hu)
attribute [irreducible] slR
/-- What a slice of sealed blocks reads as. -/
def Ss (W : World) (B : Nat) (A : Option Addr) (l : List Sl13) : Prop := Rd W B A (slR l)
section
variable {W W' : World} {B B' : Nat} {A : Option Addr} {l : List Sl13}
theorem Ss.below (h : Ss W B A l) (hb : Below B W W') : Ss W' B A l := Rd.below h hb
theorem Ss.mono (h : Ss W B A l) (hB : B ≤ B') : Ss W B' A l := Rd.mono h hB
theorem Ss.new (h : Ss W W.heap.size A l) (hb : Below W.heap.size W W') : Ss W' W'.heap.size A l := (h.below hb).mono hb.size
theorem Ss.later {w V : World} (h : Ss w w.heap.size A l) (hb : Below w.heap.size w V) : Ss V V.heap.size A l := (h.below hb).mono hb.size
theorem Ss.nil (W : World) (B : Nat) (A : Option Addr) : Ss W B A [] := by
  unfold Ss
  rw [slR_nil]
  exact Rd.nil _ _ _
/-- The sealed block of a number: where it stands. -/
theorem Ss.at (h : Ss W B A l) (ho : ∀ x ∈ l, okS x) {k : Nat} (hk : k < l.length) : ∃ g o, A = some ⟨g, o, none⟩ ∧ g < B ∧ W.rangeAt g (o + 49 * k) (slV l[k]) := by
  obtain ⟨z, hz⟩ := slR_at k hk
  have hne : slR l ≠ [] := by
    intro e
    rw [e] at hz
    have := congrArg List.length hz
    rw [List.length_append, List.length_append, slV_length (ho _ (List.getElem_mem hk))] at this
    simp at this
    omega
  obtain ⟨g, o, rfl, hg, hc⟩ := h hne
  refine ⟨g, o, rfl, hg, fun j u hu => ?_⟩
  have hl : (slR (l.take k)).length = 49 * k := by rw [slR_length (fun x hx => ho x (List.mem_of_mem_take hx)), List.length_take]; congr 1; omega
  have := hc (49 * k + j) u (by
    rw [hz, List.getElem?_append_right (by omega), hl, Nat.add_sub_cancel_left, List.getElem?_append_left (by
      have := (List.getElem?_eq_some_iff.1 hu).1
      exact this)]
    exact hu)
  rw [Nat.add_assoc]
  exact this
end
theorem sl_epoch {W : World} {g o : Nat} {x : Sl13} (h : W.rangeAt g o (slV x)) : W.cell? ⟨g, o, none⟩ = some (.int .u64 (x.1 : Int)) := h 0 _ rfl
theorem infoSv13 : (Tryd.prog.info? 44).map (fun i => (i.zero, i.size, i.bytes)) = some (some (.agg (sv 0 n32 n16).toArray), 49, 56) := by kernel_rfl
theorem infoSv13_parts : ∃ i, Tryd.prog.info? 44 = some i ∧ i.zero = some (.agg (sv 0 n32 n16).toArray) ∧ i.size = 49 ∧ i.bytes = 56 := by
  have := infoSv13
  cases h : Tryd.prog.info? 44 with
  | none => rw [h] at this; cases this
  | some ie =>
    rw [h] at this
    simp only [Option.map_some, Option.some.injEq, Prod.mk.injEq] at this
    exact ⟨ie, rfl, this.1, this.2.1, this.2.2⟩
theorem fillSv13 (x : List Value) (hl : x.length = 49) : Instr.fill (fun i => some (i * 49, 49)) ((Array.range (1 * 49)).map ((Value.agg (sv 0 n32 n16).toArray).cells[· % (Value.agg (sv 0 n32 n16).toArray).cells.size]!)) [(0, .agg x.toArray)] = some x.toArray := by
  have h0 : (Array.range (1 * 49)).map ((Value.agg (sv 0 n32 n16).toArray).cells[· % (Value.agg (sv 0 n32 n16).toArray).cells.size]!) = (sv 0 n32 n16).toArray := by kernel_rfl
  rw [h0, fill_step _ 0 0 49 (sv 0 n32 n16) x _ _ rfl (by simp) hl (by rw [sv_length 0 n32 n16 n32_length n16_length]; omega)]
  have := spv_at [] (sv 0 n32 n16) [] x (by rw [hl, sv_length 0 n32 n16 n32_length n16_length])
  rw [List.append_nil, List.append_nil, List.nil_append, List.nil_append] at this
  rw [show spv (sv 0 n32 n16) 0 x = x from this]
  rfl
theorem run_buildSv13 {o : Oper} {a : Go.Act} {W : World} (x : Operand) (ho : o.op = .buildSlice 95 1 #[(0, x)]) (p : List Value) (hl : p.length = 49) (hx : a.eval x = .agg p.toArray) :
    (execOp a.eval o).run Tryd.prog W = .ok (.value (.slice (some ⟨W.heap.size, 0, none⟩) 1 1)) (W.alloc (.cells p.toArray 44)) := by
  obtain ⟨ie, hie, hz, hs, -⟩ := infoSv13_parts
  unfold execOp
  simp only [ho, Sem.run_bind]
  rw [run_buildSlice W _ _ 1 _ p.toArray ie _ Tryd.underlying95 hie hz (by rw [hs]; decide) (by rw [hs]; decide) (by rw [hs]; simpa [hx] using fillSv13 p hl)]
  rfl
/-- A slice of sealed blocks of the call's own. -/
def As (W : World) (base : Nat) (v : Value) (l : List Sl13) : Prop := W.ownsRow base 44 49 v l.length (slR l)
theorem As.nil (W : World) (base : Nat) : As W base (.slice none 0 0) [] := by
  unfold As
  rw [slR_nil]
  exact World.ownsRow_nil _ _ _ _
theorem As.form {W : World} {base : Nat} {v : Value} {l : List Sl13} (h : As W base v l) : ∃ A c, v = .slice A l.length c := by
  rcases h.2 with ⟨h1, h2⟩ | ⟨g, cap, cur, e, -⟩
  · rw [h1, h2]
    exact ⟨_, _, rfl⟩
  · exact ⟨_, _, e⟩
theorem As.ss {W : World} {base c : Nat} {A : Option Addr} {l : List Sl13} (h : As W base (.slice A l.length c) l) : Ss W W.heap.size A l := fun hne => by
  rcases h.2 with ⟨h1, h2⟩ | ⟨g, cap, cur, e, hb, hh, -⟩
  · refine absurd ?_ hne
    obtain rfl : l = [] := List.eq_nil_of_length_eq_zero h2
    exact slR_nil
  · obtain rfl : A = some ⟨g, 0, none⟩ := by cases e; rfl
    refine ⟨g, 0, rfl, lt_of_block hh, fun j u hu => ?_⟩
    have := World.ownsRow.cells h (g := g) rfl j u hu
    rwa [add_plain] at this
theorem As.kept {W W' : World} {base : Nat} {v : Value} {l : List Sl13} (h : As W base v l) (hb : Below W.heap.size W W') : As W' base v l := by
  refine ⟨h.1, ?_⟩
  rcases h.2 with h2 | ⟨g, cap, cur, rfl, hb1, hh, r⟩
  · exact .inl h2
  · exact .inr ⟨g, cap, cur, rfl, hb1, (hb.block g (lt_of_block hh)).trans hh, r⟩
theorem As.lt {W : World} {base : Nat} {v : Value} {l : List Sl13} (h : As W base v l) : ∀ k, v.ownBlock = some k → base ≤ k ∧ k < W.heap.size := World.ownsRow.lt h
theorem As.room {W : World} {base c : Nat} {A : Option Addr} {l : List Sl13} (h : As W base (.slice A l.length c) l) : l.length ≤ c := by
  rcases h.2 with ⟨h1, h2⟩ | ⟨g, cap, cur, e, hb, hh, hc, -⟩
  · omega
  · cases e
    omega
end Go.Proofs.YtfmbpdjcoopaeaaDoor

namespace Go.Proofs.YtfmbpdjcoopaeaaDoor
open Go.RowKit

/-- An order's cells; a ticket's. -/
def ordV (o : Ord13) (AI AS : Option Addr) (cI cS : Nat) : List Value := [.int .i64 o.kind, .slice AI o.idx.length cI, .slice AS o.sl.length cS, .int .u64 (o.blocks : Int)]
def tkV (t : Tk13) (AI AS : Option Addr) (cI cS : Nat) : List Value := .int .u64 (t.prev : Int) :: .int .u64 (t.epoch : Int) :: (ordV t.o AI AS cI cS ++ ubs t.tag)
theorem ordV_length (o : Ord13) (AI AS : Option Addr) (cI cS : Nat) : (ordV o AI AS cI cS).length = 4 := rfl
theorem tkV_length {t : Tk13} (h : t.tag.length = 16) (AI AS : Option Addr) (cI cS : Nat) : (tkV t AI AS cI cS).length = 22 := by simp [tkV, ordV, ubs_length, h]
theorem ordV_all (o : Ord13) (AI AS : Option Addr) (cI cS : Nat) : (ordV o AI AS cI cS).toArray.all (·.oneCell') = true := by simp [ordV, Value.oneCell']
theorem tkV_all (t : Tk13) (AI AS : Option Addr) (cI cS : Nat) : (tkV t AI AS cI cS).toArray.all (·.oneCell') = true :=
  Array.all_eq_true_iff_forall_mem.2 (fun v hv => by
    simp only [tkV, ordV, List.mem_toArray, List.mem_cons, List.mem_append, List.not_mem_nil, or_false] at hv
    rcases hv with rfl | rfl | (rfl | rfl | rfl | rfl) | hv
    · rfl
    · rfl
    · rfl
    · rfl
    · rfl
    · rfl
    · exact ubs_one t.tag v hv)
/-- What an order's lists read as. -/
structure OrI (W : World) (B : Nat) (o : Ord13) (AI AS : Option Addr) (cI cS : Nat) : Prop where
  i : Nu W B AI o.idx
  s : Ss W B AS o.sl
  ci : o.idx.length ≤ cI
  cs : o.sl.length ≤ cS
section
variable {W W' : World} {B B' : Nat} {o : Ord13} {t : Tk13} {AI AS : Option Addr} {cI cS : Nat} {g : Nat} {T : TypeId}
theorem OrI.below (h : OrI W B o AI AS cI cS) (hb : Below B W W') : OrI W' B o AI AS cI cS := ⟨h.i.below hb, h.s.below hb, h.ci, h.cs⟩
theorem OrI.mono (h : OrI W B o AI AS cI cS) (hB : B ≤ B') : OrI W B' o AI AS cI cS := ⟨Rd.mono h.i hB, h.s.mono hB, h.ci, h.cs⟩
theorem OrI.later {w V : World} (h : OrI w w.heap.size o AI AS cI cS) (hb : Below w.heap.size w V) : OrI V V.heap.size o AI AS cI cS := (h.below hb).mono hb.size
theorem ordV_cells (h : At W g (ordV o AI AS cI cS).toArray T) : W.cell? ⟨g, 0, none⟩ = some (.int .i64 o.kind) ∧ W.cell? ⟨g, 1, none⟩ = some (.slice AI o.idx.length cI) ∧ W.cell? ⟨g, 2, none⟩ = some (.slice AS o.sl.length cS) ∧ W.cell? ⟨g, 3, none⟩ = some (.int .u64 (o.blocks : Int)) := by
  rw [h.cell, h.cell, h.cell, h.cell]
  exact ⟨rfl, rfl, rfl, rfl⟩
theorem tkV_cells (h : At W g (tkV t AI AS cI cS).toArray T) : (W.cell? ⟨g, 0, none⟩ = some (.int .u64 (t.prev : Int)) ∧ W.cell? ⟨g, 1, none⟩ = some (.int .u64 (t.epoch : Int))) ∧ W.cell? ⟨g, 2, none⟩ = some (.int .i64 t.o.kind) ∧ W.cell? ⟨g, 3, none⟩ = some (.slice AI t.o.idx.length cI) ∧ W.cell? ⟨g, 4, none⟩ = some (.slice AS t.o.sl.length cS) ∧ W.cell? ⟨g, 5, none⟩ = some (.int .u64 (t.o.blocks : Int)) := by
  rw [h.cell, h.cell, h.cell, h.cell, h.cell, h.cell]
  exact ⟨⟨rfl, rfl⟩, rfl, rfl, rfl, rfl⟩
theorem tkV_ord (h : At W g (tkV t AI AS cI cS).toArray T) : W.rangeAt g 2 (ordV t.o AI AS cI cS) :=
  range_vals (a := [.int .u64 (t.prev : Int), .int .u64 (t.epoch : Int)]) (m := ordV t.o AI AS cI cS) (z := ubs t.tag) h rfl
theorem tkV_tag (h : At W g (tkV t AI AS cI cS).toArray T) : W.rangeAt g 6 (ubs t.tag) := by
  have := range_vals (a := .int .u64 (t.prev : Int) :: .int .u64 (t.epoch : Int) :: ordV t.o AI AS cI cS) (m := ubs t.tag) (z := []) h (by simp [tkV])
  exact this
end
theorem sizeO13 : (Tryd.prog.info? 97).map (·.size) = some 4 := by kernel_rfl
theorem sizeT13 : (Tryd.prog.info? 107).map (·.size) = some 22 := by kernel_rfl
theorem sizeT13_of {l : List Value} (h : l.length = 22) : (Tryd.prog.info? 107).map (·.size) = some l.toArray.size := by rw [sizeT13]; simp [h]
theorem zeroO13 : (Tryd.prog.info? 97).bind (·.zero) = some (.agg (ordV ord0 none none 0 0).toArray) := by kernel_rfl
theorem zeroT13 : (Tryd.prog.info? 107).bind (·.zero) = some (.agg (tkV tk0 none none 0 0).toArray) := by kernel_rfl
theorem run_loadO13 {o : Oper} {a : Go.Act} {W : World} (x : Operand) (ho : o.op = .load 97 x) (b off : Nat) (hx : a.eval x = .pointer (some ⟨b, off, none⟩)) (l : List Value) (hc : W.rangeAt b off l) (hl : l.length = 4) : (execOp a.eval o).run Tryd.prog W = .ok (.value (.agg l.toArray)) W :=
  run_load_part _ x ho b off hx l _ hc Tryd.underlying97 rfl (by rw [sizeO13, hl])
end Go.Proofs.YtfmbpdjcoopaeaaDoor

namespace Go.Proofs.YtfmbpdjcoopaeaaDoor
open Go.RowKit

/-- A reader: its error's number, what is left. -/
abbrev Rs := Nat × List UInt8
def tkS (n : Nat) (s : Rs) : List UInt8 × Rs := if s.1 = 0 then (if n ≤ s.2.length then (s.2.take n, (0, s.2.drop n)) else ([], (2, s.2))) else ([], s)
def nmS (n : Nat) (s : Rs) : Nat × Rs := (val (tkS n s).1, (tkS n s).2)
theorem tkS_done {n : Nat} {s : Rs} (h : s.1 ≠ 0) : tkS n s = ([], s) := by unfold tkS; rw [if_neg h]
theorem tkS_ok {n : Nat} {bs : List UInt8} (h : n ≤ bs.length) : tkS n (0, bs) = (bs.take n, (0, bs.drop n)) := by unfold tkS; rw [if_pos rfl, if_pos h]
theorem tkS_bad {n : Nat} {bs : List UInt8} (h : ¬ n ≤ bs.length) : tkS n (0, bs) = ([], (2, bs)) := by unfold tkS; rw [if_pos rfl, if_neg h]
theorem tkS_of {n : Nat} {bs l r : List UInt8} (h : tkO n bs = some (l, r)) : tkS n (0, bs) = (l, (0, r)) := by
  unfold tkO at h
  split at h
  · rename_i hn
    rw [tkS_ok hn]
    cases h
    rfl
  · cases h
theorem tkS_no {n : Nat} {bs : List UInt8} (h : tkO n bs = none) : tkS n (0, bs) = ([], (2, bs)) := by
  unfold tkO at h
  split at h
  · cases h
  · rename_i hn
    exact tkS_bad hn
theorem nmS_of {n v : Nat} {bs r : List UInt8} (h : nmO n bs = some (v, r)) : nmS n (0, bs) = (v, (0, r)) := by
  unfold nmO at h
  rw [Option.map_eq_some_iff] at h
  obtain ⟨⟨l, q⟩, h1, h2⟩ := h
  cases h2
  unfold nmS
  rw [tkS_of h1]
theorem nmS_no {n : Nat} {bs : List UInt8} (h : nmO n bs = none) : nmS n (0, bs) = (0, (2, bs)) := by
  unfold nmO at h
  rw [Option.map_eq_none_iff] at h
  unfold nmS
  rw [tkS_no h]
  rfl
theorem nmS_done {n : Nat} {s : Rs} (h : s.1 ≠ 0) : nmS n s = (0, s) := by
  unfold nmS
  rw [tkS_done h]
  rfl
theorem tkS_len {n : Nat} {s : Rs} (h : (tkS n s).2.1 = 0) : (tkS n s).1.length = n := by
  unfold tkS at h ⊢
  split at h
  · rename_i h0
    rw [if_pos h0]
    split at h
    · rename_i h1
      rw [if_pos h1, List.length_take]
      omega
    · cases h
  · rename_i h0
    exact absurd h h0
theorem tkS_zero {n : Nat} {s : Rs} (h : (tkS n s).2.1 = 0) : s.1 = 0 ∧ tkO n s.2 = some ((tkS n s).1, (tkS n s).2.2) := by
  obtain ⟨k, bs⟩ := s
  by_cases hk : k = 0
  · subst hk
    cases e : tkO n bs with
    | none =>
      rw [tkS_no e] at h
      cases h
    | some x =>
      obtain ⟨l, r⟩ := x
      rw [tkS_of e]
      exact ⟨rfl, rfl⟩
  · rw [tkS_done hk] at h
    exact absurd h hk
theorem nmS_zero {n : Nat} {s : Rs} (h : (nmS n s).2.1 = 0) : s.1 = 0 ∧ nmO n s.2 = some ((nmS n s).1, (nmS n s).2.2) := by
  obtain ⟨h1, h2⟩ := tkS_zero h
  refine ⟨h1, ?_⟩
  unfold nmO
  rw [h2]
  rfl
theorem nmS_err {n : Nat} {s : Rs} (h : (nmS n s).2.1 ≠ 0) : (nmS n s).1 = 0 ∧ (s.1 = 0 → (nmS n s).2.1 = 2 ∧ nmO n s.2 = none) ∧ (s.1 ≠ 0 → (nmS n s).2 = s) := by
  obtain ⟨k, bs⟩ := s
  by_cases hk : k = 0
  · subst hk
    cases e : nmO n bs with
    | none =>
      rw [nmS_no e]
      exact ⟨rfl, fun _ => ⟨rfl, rfl⟩, fun h => absurd rfl h⟩
    | some x =>
      obtain ⟨v, r⟩ := x
      rw [nmS_of e] at h
      exact absurd rfl h
  · rw [nmS_done hk]
    exact ⟨rfl, fun e => absurd e hk, fun _ => rfl⟩
theorem tkS_err {n : Nat} {s : Rs} (h : (tkS n s).2.1 ≠ 0) : (tkS n s).1 = [] ∧ (s.1 = 0 → (tkS n s).2.1 = 2 ∧ tkO n s.2 = none) ∧ (s.1 ≠ 0 → (tkS n s).2 = s) := by
  obtain ⟨k, bs⟩ := s
  by_cases hk : k = 0
  · subst hk
    cases e : tkO n bs with
    | none =>
      rw [tkS_no e]
      exact ⟨rfl, fun _ => ⟨rfl, rfl⟩, fun h => absurd rfl h⟩
    | some x =>
      obtain ⟨v, r⟩ := x
      rw [tkS_of e] at h
      exact absurd rfl h
  · rw [tkS_done hk]
    exact ⟨rfl, fun e => absurd e hk, fun _ => rfl⟩
/-- A sealed block, by the reader. -/
def slS (s : Rs) : Sl13 × Rs := (((nmS 8 s).1, ((tkS 32 (nmS 8 s).2).1 ++ List.replicate (32 - (tkS 32 (nmS 8 s).2).1.length) 0, (tkS 16 (tkS 32 (nmS 8 s).2).2).1 ++ List.replicate (16 - (tkS 16 (tkS 32 (nmS 8 s).2).2).1.length) 0)), (tkS 16 (tkS 32 (nmS 8 s).2).2).2)
theorem slS_zero {s : Rs} (h : (slS s).2.1 = 0) : s.1 = 0 ∧ slO s.2 = some ((slS s).1, (slS s).2.2) := by
  have h' : (tkS 16 (tkS 32 (nmS 8 s).2).2).2.1 = 0 := h
  obtain ⟨h1, h2⟩ := tkS_zero h'
  obtain ⟨h3, h4⟩ := tkS_zero h1
  obtain ⟨h5, h6⟩ := nmS_zero h3
  refine ⟨h5, ?_⟩
  have l1 := tkS_len h1
  have l2 := tkS_len h'
  unfold slO slS
  rw [h6]
  simp only [Option.bind_some]
  rw [h4]
  simp only [Option.bind_some]
  rw [h2, l1, l2]
  simp
theorem slS_err {s : Rs} (h0 : s.1 = 0) (h : (slS s).2.1 ≠ 0) : (slS s).2.1 = 2 ∧ slO s.2 = none := by
  have h' : (tkS 16 (tkS 32 (nmS 8 s).2).2).2.1 ≠ 0 := h
  by_cases e1 : (nmS 8 s).2.1 = 0
  · obtain ⟨-, h6⟩ := nmS_zero e1
    by_cases e2 : (tkS 32 (nmS 8 s).2).2.1 = 0
    · obtain ⟨-, h4⟩ := tkS_zero e2
      obtain ⟨-, h7, -⟩ := tkS_err h'
      obtain ⟨h8, h9⟩ := h7 e2
      refine ⟨h8, ?_⟩
      unfold slO
      rw [h6]
      simp only [Option.bind_some]
      rw [h4]
      simp only [Option.bind_some]
      rw [h9]
      rfl
    · obtain ⟨-, h7, -⟩ := tkS_err e2
      obtain ⟨h8, h9⟩ := h7 e1
      obtain ⟨-, -, h10⟩ := tkS_err h'
      refine ⟨?_, ?_⟩
      · show (tkS 16 (tkS 32 (nmS 8 s).2).2).2.1 = 2
        rw [h10 e2]
        exact h8
      · unfold slO
        rw [h6]
        simp only [Option.bind_some]
        rw [h9]
        rfl
  · obtain ⟨-, h7, -⟩ := nmS_err e1
    obtain ⟨h8, h9⟩ := h7 h0
    have e2 : (tkS 32 (nmS 8 s).2).2.1 ≠ 0 := by rw [tkS_done e1]; exact e1
    obtain ⟨-, -, h10⟩ := tkS_err h'
    refine ⟨?_, ?_⟩
    · show (tkS 16 (tkS 32 (nmS 8 s).2).2).2.1 = 2
      rw [h10 e2, tkS_done e1]
      exact h8
    · unfold slO
      rw [h9]
      rfl
section
variable {α : Type} {p : List UInt8 → Option (α × List UInt8)}
theorem manyO_next {i : Nat} {bs r r' : List UInt8} {l : List α} {x : α} (h : manyO p i bs = some (l, r)) (hx : p r = some (x, r')) : manyO p (i + 1) bs = some (l ++ [x], r') := by
  show (manyO p i bs).bind _ = _
  rw [h]
  simp only [Option.bind_some]
  rw [hx]
  rfl
theorem manyO_stop {i : Nat} {bs r : List UInt8} {l : List α} (h : manyO p i bs = some (l, r)) (hx : p r = none) : manyO p (i + 1) bs = none := by
  show (manyO p i bs).bind _ = _
  rw [h]
  simp only [Option.bind_some]
  rw [hx]
  rfl
theorem manyO_none {i : Nat} {bs : List UInt8} (h : manyO p i bs = none) : ∀ d, manyO p (i + d) bs = none
  | 0 => h
  | d + 1 => by
    show (manyO p (i + d) bs).bind _ = _
    rw [manyO_none h d]
    rfl
/-- What a loop that reads has, behind i rounds. -/
def LpR (p : List UInt8 → Option (α × List UInt8)) (bs : List UInt8) (i : Nat) (l : List α) (s : Rs) : Prop := (s.1 = 0 ∧ manyO p i bs = some (l, s.2)) ∨ (s.1 = 2 ∧ ∀ d, manyO p (i + d) bs = none)
theorem LpR.start (bs : List UInt8) : LpR p bs 0 [] (0, bs) := .inl ⟨rfl, rfl⟩
theorem LpR.next {bs : List UInt8} {i : Nat} {l : List α} {s s' : Rs} {x : α} (h : LpR p bs i l s) (h0 : s.1 = 0) (hz : s'.1 = 0 → p s.2 = some (x, s'.2)) (he : s'.1 ≠ 0 → s'.1 = 2 ∧ p s.2 = none) : LpR p bs (i + 1) (l ++ [x]) s' := by
  rcases h with ⟨-, h⟩ | ⟨h, -⟩
  · by_cases e : s'.1 = 0
    · exact .inl ⟨e, manyO_next h (hz e)⟩
    · obtain ⟨h1, h2⟩ := he e
      exact .inr ⟨h1, manyO_none (manyO_stop h h2)⟩
  · rw [h0] at h
    cases h
theorem LpR.num {bs : List UInt8} {i n : Nat} {l : List Nat} {s : Rs} (h : LpR (nmO n) bs i l s) (h0 : s.1 = 0) : LpR (nmO n) bs (i + 1) (l ++ [(nmS n s).1]) (nmS n s).2 :=
  h.next h0 (fun e => (nmS_zero e).2) (fun e => (nmS_err e).2.1 h0)
end
end Go.Proofs.YtfmbpdjcoopaeaaDoor
