/-
  Scripts of leaves that are set and dropped, in memory; what leaves are there behind them; the document's tree and the program's side by side.
  Scripts of leaves that are set and dropped, as they came in.
  Lists of indices, lists of hashes, two and four of these, as they came in.
  Orders and tickets, as they came in.
  A pair of numbers of 64 bits that came in.
-/
import Derived.Test.YtfmbpdjcoopaeaaDoorM8
import Derived.Test.YtfmbpdjcoopaeaaDoorMH
import Derived.Test.YtfmbpdjcoopaeaaDoorY5
import Derived.Deep.Slices
import Derived.Test.YtfmbpdjcoopaeaaDoorM4
import Derived.Test.YtfmbpdjcoopaeaaDoorM5
namespace Go.Proofs.YtfmbpdjcoopaeaaDoor
open Go.RowKit

abbrev Act9 := Nat × List UInt8 × Bool
def actV (a : Act9) : List Value := .int .u64 (a.1 : Int) :: (ubs a.2.1 ++ [.bool a.2.2])
def arow : List Act9 → List Value
  | [] => []
  | a :: l => actV a ++ arow l
def okA (l : List Act9) : Prop := ∀ a ∈ l, a.1 < 18446744073709551616 ∧ a.2.1.length = 32
theorem okA.take {l : List Act9} (h : okA l) (k : Nat) : okA (l.take k) := fun a ha => h a (List.mem_of_mem_take ha)
/-- A script where it lies. -/
def Av (W : World) (B : Nat) (A : Option Addr) (l : List Act9) : Prop := Rd W B A (arow l)
section
variable {W W' : World} {B : Nat} {A : Option Addr} {l : List Act9}
theorem Av.below (h : Av W B A l) (hb : Below B W W') : Av W' B A l := Rd.below h hb
end
attribute [irreducible] arow actV
section
variable {Pt : PtT} {w0 w W W' : World} {S S' : Nat → Prop} {b h M c1 c2 cE : Nat} {Lt Lm Lt' Lm' : List (Nat × List UInt8)} {F : List (Nat × Array Value × TypeId)} {A1 A2 E : Option Addr}
end
end Go.Proofs.YtfmbpdjcoopaeaaDoor

namespace Go.Proofs.YtfmbpdjcoopaeaaDoor
open Go.ChangeShapes Go.WideShapes Go.ChangeAt Go.RowKit Go.Deep

section
variable {H : Type} {enc : TypeId × Value → H} {W : World} {sp : Nat → Bool} {fuel : Nat} {x : DataW H × List MemPlace}
end
end Go.Proofs.YtfmbpdjcoopaeaaDoor

namespace Go.Proofs.YtfmbpdjcoopaeaaDoor
open Go.ChangeShapes Go.WideShapes Go.ChangeAt Go.RowKit Go.Deep

section
variable {H : Type} {enc : TypeId × Value → H} {W : World} {sp : Nat → Bool} {fuel : Nat} {x : DataW H × List MemPlace}
theorem cellsU10 : Tryd.prog.cellsOf 32 = 1 := by kernel_rfl
/-- Indices that came in. -/
theorem open_nums {cs : List Value} (h : DataW.trod enc Tryd.prog W 0 sp true fuel 74 cs = some x) :
    ∃ S c l, cs = [.slice S (l : List Nat).length c] ∧ Nu W W.heap.size S l ∧ okN l ∧ l.length ≤ c := by
  rcases open_slice1 Tryd.underlying74 cellsU10 h with ⟨rfl, rfl⟩ | ⟨a, len, cap, m, n, V, D, Pl, rfl, _, hl, hm, hmm, hx, hi⟩
  · exact ⟨none, 0, [], rfl, Rd.nil _ _ _, (fun _ h => nomatch h), by simp⟩
  · have hlm : len ≤ m := by rw [hmm]; split <;> omega
    have each : ∀ i, i < len → ∃ u : Nat, W.cell? (a.add i) = some (.int .u64 (u : Int)) ∧ u < 18446744073709551616 := by
      intro i hil
      obtain ⟨hc, ht⟩ := hi i (by omega)
      obtain ⟨u, e, b⟩ := open_u64 ht
      have e' : V i = .int .u64 (u : Int) := by simpa using e
      exact ⟨u, by rw [hc, e'], b⟩
    obtain ⟨f, hf⟩ : ∃ f : Nat → Nat, ∀ i, i < len → W.cell? (a.add i) = some (.int .u64 (f i : Int)) ∧ f i < 18446744073709551616 :=
      ⟨fun i => if h : i < len then (each i h).choose else 0, fun i h => by simp only [h, dif_pos]; exact (each i h).choose_spec⟩
    have hfl : ((List.range len).map f).length = len := by simp
    refine ⟨some a, cap, (List.range len).map f, by rw [hfl], ?_, ?_, by rw [hfl]; exact hl⟩
    · intro hne
      have hp : 0 < len := by
        rcases Nat.eq_zero_or_pos len with h0 | h0
        · subst h0
          exact absurd rfl hne
        · exact h0
      have h00 := (hf 0 hp).1
      obtain ⟨b, o, s⟩ := a
      have hs : s = none := by simpa [Addr.add] using World.cell?_spot h00
      subst hs
      refine ⟨b, o, rfl, ?_, fun j u hu => ?_⟩
      · have := block_lt_of_cell h00
        simpa [add_block] using this
      · have hj : j < len := by
          have := (List.getElem?_eq_some_iff.1 hu).1
          rw [nus, List.length_map, hfl] at this
          exact this
        have h2 := (hf j hj).1
        rw [add_plain] at h2
        rw [h2, ← hu, nus, List.getElem?_map, List.getElem?_map, List.getElem?_range hj]
        rfl
    · intro y hy
      obtain ⟨i, hi', rfl⟩ := List.mem_map.1 hy
      exact (hf i (List.mem_range.1 hi')).2
end
end Go.Proofs.YtfmbpdjcoopaeaaDoor

namespace Go.Proofs.YtfmbpdjcoopaeaaDoor
open Go.ChangeShapes Go.WideShapes Go.ChangeAt Go.RowKit Go.Deep

theorem slR_cell {l : List Sl13} (ho : ∀ x ∈ l, okS x) {i j : Nat} (hi : i < l.length) (hj : j < 49) : (slR l)[i * 49 + j]? = (slV l[i])[j]? := by
  obtain ⟨z, hz⟩ := slR_at i hi
  have h1 : (slR (l.take i)).length = i * 49 := by rw [slR_length (fun x hx => ho x (List.mem_of_mem_take hx)), List.length_take]; omega
  rw [hz, List.getElem?_append_right (by omega), h1, show i * 49 + j - i * 49 = j by omega, List.getElem?_append_left (by rw [slV_length (ho _ (List.getElem_mem hi))]; exact hj)]
section
variable {H : Type} {enc : TypeId × Value → H} {W : World} {sp : Nat → Bool} {fuel : Nat} {x : DataW H × List MemPlace}
theorem cellsSe13 : Tryd.prog.cellsOf 37 = 49 := by kernel_rfl
theorem cellsSs13 : Tryd.prog.cellsOf 91 = 1 := by kernel_rfl
theorem cellsSu13 : Tryd.prog.cellsOf 74 = 1 := by kernel_rfl
theorem cellsIn13 : Tryd.prog.cellsOf 3 = 1 := by kernel_rfl
theorem cellsOr13 : Tryd.prog.cellsOf 93 = 4 := by kernel_rfl
theorem cellsTk13 : Tryd.prog.cellsOf 105 = 22 := by kernel_rfl
/-- Sealed blocks that came in. -/
theorem open_sealeds {cs : List Value} (h : DataW.trod enc Tryd.prog W 0 sp true fuel 91 cs = some x) :
    ∃ S c l, cs = [.slice S (l : List Sl13).length c] ∧ Ss W W.heap.size S l ∧ (∀ y ∈ l, okS y) ∧ l.length ≤ c := by
  rcases open_slice Tryd.underlying91 h with ⟨rfl, rfl⟩ | ⟨a, len, cap, m, n, D, Pl, rfl, _, hl, hm, hmm, hx, hi⟩
  · exact ⟨none, 0, [], rfl, Ss.nil _ _ _, (fun _ h => nomatch h), by simp⟩
  · have hlm : len ≤ m := by rw [hmm]; split <;> omega
    have each : ∀ i, i < len → ∃ y : Sl13, (∀ j, j < 49 → W.cell? ((a.add (i * 49)).add j) = (slV y)[j]?) ∧ okS y := by
      intro i hil
      obtain ⟨cs', hc, ht⟩ := hi i (by omega)
      rw [cellsSe13] at hc
      obtain ⟨_, hcl, hat⟩ := World.cells?_some hc
      obtain ⟨e, d, t, rfl, b0, b1, b2⟩ := open_sealed ht hcl
      exact ⟨(e, d, t), hat, b0, b1, b2⟩
    obtain ⟨f, hf⟩ : ∃ f : Nat → Sl13, ∀ i, i < len → (∀ j, j < 49 → W.cell? ((a.add (i * 49)).add j) = (slV (f i))[j]?) ∧ okS (f i) :=
      ⟨fun i => if h : i < len then (each i h).choose else (0, [], []), fun i h => by simp only [h, dif_pos]; exact (each i h).choose_spec⟩
    have hfl : ((List.range len).map f).length = len := by simp
    have ho : ∀ y ∈ (List.range len).map f, okS y := by
      intro y hy
      obtain ⟨i, hi', rfl⟩ := List.mem_map.1 hy
      exact (hf i (List.mem_range.1 hi')).2
    refine ⟨some a, cap, (List.range len).map f, by rw [hfl], ?_, ho, by rw [hfl]; exact hl⟩
    intro hne
    have hp : 0 < len := by
      rcases Nat.eq_zero_or_pos len with h0 | h0
      · subst h0
        exact absurd (by simp [slR]) hne
      · exact h0
    have hall : ∀ k u, (slR ((List.range len).map f))[k]? = some u → W.cell? (a.add k) = some u := by
      intro k u hu
      have hk : k < 49 * len := by
        have := (List.getElem?_eq_some_iff.1 hu).1
        rw [slR_length ho, hfl] at this
        exact this
      have hdiv : k = (k / 49) * 49 + k % 49 := by omega
      have h1 := slR_cell ho (i := k / 49) (j := k % 49) (by rw [hfl]; omega) (by omega)
      rw [← hdiv, hu] at h1
      have h2 := (hf (k / 49) (by omega)).1 (k % 49) (by omega)
      rw [add_add', ← hdiv] at h2
      rw [h2, h1]
      simp
    have h00 := hall 0 (.int .u64 ((f 0).1 : Int)) (by
      have := slR_cell ho (i := 0) (j := 0) (by rw [hfl]; exact hp) (by omega)
      simp only [Nat.zero_mul, Nat.add_zero] at this
      rw [this]
      simp [slV, sv])
    obtain ⟨b, o, s⟩ := a
    have hs : s = none := by simpa [Addr.add] using World.cell?_spot h00
    subst hs
    refine ⟨b, o, rfl, ?_, fun j u hu => ?_⟩
    · have := block_lt_of_cell h00
      simpa [add_block] using this
    · have := hall j u hu
      rwa [add_plain] at this
/-- An order that came in. -/
theorem open_order13 {cs : List Value} (h : DataW.trod enc Tryd.prog W 0 sp true fuel 93 cs = some x) :
    ∃ (o : Ord13) (AI AS : Option Addr) (cI cS : Nat), cs = ordV o AI AS cI cS ∧ okO o ∧ OrI W W.heap.size o AI AS cI cS ∧ -9223372036854775808 ≤ o.kind ∧ o.kind < 9223372036854775808 := by
  obtain ⟨xs, m, rfl, -, hc, hl, hf⟩ := DataW.trod_struct Tryd.underlying93 h
  have h0 : DataW.trod enc Tryd.prog W 0 sp true m 3 ((cs.drop 0).take (Tryd.prog.cellsOf 3)) = xs[0]? := hf 0 _ rfl
  have h1 : DataW.trod enc Tryd.prog W 0 sp true m 74 ((cs.drop 1).take (Tryd.prog.cellsOf 74)) = xs[1]? := hf 1 _ rfl
  have h2 : DataW.trod enc Tryd.prog W 0 sp true m 91 ((cs.drop 2).take (Tryd.prog.cellsOf 91)) = xs[2]? := hf 2 _ rfl
  have h3 : DataW.trod enc Tryd.prog W 0 sp true m 32 ((cs.drop 3).take (Tryd.prog.cellsOf 32)) = xs[3]? := hf 3 _ rfl
  rw [List.getElem?_eq_getElem (by rw [hl]; decide)] at h0 h1 h2 h3
  rw [cellsIn13] at h0
  rw [cellsSu13] at h1
  rw [cellsSs13] at h2
  rw [cellsU10] at h3
  rw [cellsOr13] at hc
  rcases cs with _ | ⟨v0, _ | ⟨v1, _ | ⟨v2, _ | ⟨v3, _ | ⟨v4, cs⟩⟩⟩⟩⟩
  · simp at hc
  · simp at hc
  · simp at hc
  · simp at hc
  · obtain ⟨k, e0, k1, k2⟩ := open_i64 h0
    obtain ⟨AI, cI, l, e1, i1, i2, i3⟩ := open_nums h1
    obtain ⟨AS, cS, s, e2, s1, s2, s3⟩ := open_sealeds h2
    obtain ⟨b, e3, b1⟩ := open_u64 h3
    refine ⟨⟨k, l, s, b⟩, AI, AS, cI, cS, ?_, ⟨i2, s2, b1⟩, ⟨i1, s1, i3, s3⟩, k1, k2⟩
    simp at e0 e1 e2 e3
    rw [e0, e1, e2, e3]
    rfl
  · simp at hc
set_option maxRecDepth 100000 in
/-- A ticket that came in. -/
theorem open_ticket13 {cs : List Value} (h : DataW.trod enc Tryd.prog W 0 sp true fuel 105 cs = some x) :
    ∃ (t : Tk13) (AI AS : Option Addr) (cI cS : Nat), cs = tkV t AI AS cI cS ∧ okT t ∧ OrI W W.heap.size t.o AI AS cI cS ∧ -9223372036854775808 ≤ t.o.kind ∧ t.o.kind < 9223372036854775808 := by
  obtain ⟨xs, m, rfl, -, hc, hl, hf⟩ := DataW.trod_struct Tryd.underlying105 h
  have h0 : DataW.trod enc Tryd.prog W 0 sp true m 32 ((cs.drop 0).take (Tryd.prog.cellsOf 32)) = xs[0]? := hf 0 _ rfl
  have h1 : DataW.trod enc Tryd.prog W 0 sp true m 32 ((cs.drop 1).take (Tryd.prog.cellsOf 32)) = xs[1]? := hf 1 _ rfl
  have h2 : DataW.trod enc Tryd.prog W 0 sp true m 93 ((cs.drop 2).take (Tryd.prog.cellsOf 93)) = xs[2]? := hf 2 _ rfl
  have h3 : DataW.trod enc Tryd.prog W 0 sp true m 30 ((cs.drop 6).take (Tryd.prog.cellsOf 30)) = xs[3]? := hf 3 _ rfl
  rw [List.getElem?_eq_getElem (by rw [hl]; decide)] at h0 h1 h2 h3
  rw [cellsU10] at h0 h1
  rw [cellsOr13] at h2
  rw [cellsA16p] at h3
  rw [cellsTk13] at hc
  obtain ⟨p, e0, p1⟩ := open_u64 h0
  obtain ⟨e, e1, p2⟩ := open_u64 h1
  obtain ⟨o, AI, AS, cI, cS, e2, o1, o2, o3⟩ := open_order13 h2
  obtain ⟨tg, e3, t1⟩ := open_block Tryd.underlying30 (by simp; omega) h3
  refine ⟨⟨p, e, o, tg⟩, AI, AS, cI, cS, ?_, ⟨p1, p2, o1, t1⟩, o2, o3⟩
  have f2 : cs.drop 2 = ordV o AI AS cI cS ++ ubs tg := take_two (cs := cs.drop 2) (n := 4) (m := 16) e2 (by rw [List.drop_drop]; exact e3) (by simp; omega)
  have f1 : cs.take 2 = [.int .u64 (p : Int), .int .u64 (e : Int)] := by
    have := take_two (cs := cs.take 2) (n := 1) (m := 1) (a := [.int .u64 (p : Int)]) (b := [.int .u64 (e : Int)]) (by rw [List.take_take]; simpa using e0) (by rw [List.drop_take, List.take_take]; simpa using e1) (by simp; omega)
    rw [this]
    rfl
  rw [← List.take_append_drop 2 cs, f1, f2]
  rfl
end
end Go.Proofs.YtfmbpdjcoopaeaaDoor

namespace Go.Proofs.YtfmbpdjcoopaeaaDoor
open Go.ChangeShapes Go.WideShapes Go.ChangeAt Go.RowKit Go.Deep

section
variable {H : Type} {enc : TypeId × Value → H} {W : World} {sp : Nat → Bool} {fuel : Nat} {x : DataW H × List MemPlace}
end
end Go.Proofs.YtfmbpdjcoopaeaaDoor
