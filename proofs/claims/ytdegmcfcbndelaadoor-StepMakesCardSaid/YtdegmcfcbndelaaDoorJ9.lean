/-
  Scripts of leaves that are set and dropped, as they came in.
  Lists of indices, lists of hashes, two and four of these, as they came in.
  A pair of numbers of 64 bits that came in.
-/
import Derived.Test.YtdegmcfcbndelaaDoorY5
import Derived.Test.YtdegmcfcbndelaaDoorL3
import Derived.Deep.Slices
import Derived.Test.YtdegmcfcbndelaaDoorK1
import Derived.Test.YtdegmcfcbndelaaDoorL2
namespace Go.Proofs.YtdegmcfcbndelaaDoor
open Go.ChangeShapes Go.WideShapes Go.ChangeAt Go.RowKit Go.Deep

theorem arow_cell {l : List Act9} (ho : okA l) {i j : Nat} (hi : i < l.length) (hj : j < 34) : (arow l)[i * 34 + j]? = (actV l[i])[j]? := by
  obtain ⟨z, hz⟩ := arow_at i hi
  have h1 : (arow (l.take i)).length = i * 34 := by rw [arow_length (ho.take i), List.length_take]; omega
  rw [hz, List.getElem?_append_right (by omega), h1, show i * 34 + j - i * 34 = j by omega, List.getElem?_append_left (by rw [actV_length (ho.get hi).2]; exact hj)]

section
variable {H : Type} {enc : TypeId × Value → H} {W : World} {sp : Nat → Bool} {fuel : Nat} {x : DataW H × List MemPlace}
theorem cellsAc9 : Tryd.prog.cellsOf 27 = 34 := by kernel_rfl
theorem cellsHs9 : Tryd.prog.cellsOf 25 = 32 := by kernel_rfl
theorem cellsBo9 : Tryd.prog.cellsOf 4 = 1 := by kernel_rfl
/-- A leaf that is set, or dropped. -/
theorem open_act9 {cs : List Value} (h : DataW.trod enc Tryd.prog W 0 sp true fuel 27 cs = some x) :
    ∃ a : Act9, cs = actV a ∧ a.1 < 18446744073709551616 ∧ a.2.1.length = 32 := by
  obtain ⟨xs, n, rfl, -, hc, hl, hf⟩ := DataW.trod_struct Tryd.underlying27 h
  have h0 : DataW.trod enc Tryd.prog W 0 sp true n 23 ((cs.drop 0).take (Tryd.prog.cellsOf 23)) = xs[0]? := hf 0 _ rfl
  have h1 : DataW.trod enc Tryd.prog W 0 sp true n 25 ((cs.drop 1).take (Tryd.prog.cellsOf 25)) = xs[1]? := hf 1 _ rfl
  have h2 : DataW.trod enc Tryd.prog W 0 sp true n 4 ((cs.drop 33).take (Tryd.prog.cellsOf 4)) = xs[2]? := hf 2 _ rfl
  rw [List.getElem?_eq_getElem (by rw [hl]; decide)] at h0 h1 h2
  rw [cellsU64p] at h0
  rw [cellsHs9] at h1
  rw [cellsBo9] at h2
  rw [cellsAc9] at hc
  obtain ⟨e, e0, b0⟩ := open_u64 h0
  obtain ⟨d, e1, b1⟩ := open_block Tryd.underlying25 (by simp; omega) h1
  obtain ⟨t, e2, -⟩ := DataW.trod_bool Tryd.underlying4 h2
  refine ⟨(e, d, t), ?_, b0, b1⟩
  have f1 : cs.drop 1 = ubs d ++ [.bool t] := take_two (cs := cs.drop 1) (n := 32) (m := 1) e1 (by rw [List.drop_drop]; exact e2) (by simp; omega)
  have f0 : cs.take 1 = [.int .u64 (e : Int)] := e0
  rw [← List.take_append_drop 1 cs, f0, f1, actV]
  rfl
/-- A script that came in. -/
theorem open_acts9 {cs : List Value} (h : DataW.trod enc Tryd.prog W 0 sp true fuel 22 cs = some x) :
    ∃ S c acts, cs = [.slice S (acts : List Act9).length c] ∧ Av W W.heap.size S acts ∧ okA acts ∧ acts.length ≤ c := by
  rcases open_slice Tryd.underlying22 h with ⟨rfl, rfl⟩ | ⟨a, len, cap, m, n, D, Pl, rfl, _, hl, hm, hmm, hx, hi⟩
  · exact ⟨none, 0, [], rfl, (by unfold Av arow; exact Rd.nil _ _ _), (fun a ha => by cases ha), by simp⟩
  · have hlm : len ≤ m := by rw [hmm]; split <;> omega
    have each : ∀ i, i < len → ∃ act : Act9, (∀ j, j < 34 → W.cell? ((a.add (i * 34)).add j) = (actV act)[j]?) ∧ act.1 < 18446744073709551616 ∧ act.2.1.length = 32 := by
      intro i hil
      obtain ⟨cs', hc, ht⟩ := hi i (by omega)
      rw [cellsAc9] at hc
      obtain ⟨_, _, hat⟩ := World.cells?_some hc
      obtain ⟨act, rfl, rest⟩ := open_act9 ht
      exact ⟨act, hat, rest⟩
    obtain ⟨f, hf⟩ : ∃ f : Nat → Act9, ∀ i, i < len → (∀ j, j < 34 → W.cell? ((a.add (i * 34)).add j) = (actV (f i))[j]?) ∧ (f i).1 < 18446744073709551616 ∧ (f i).2.1.length = 32 :=
      ⟨fun i => if h : i < len then (each i h).choose else (0, [], false), fun i h => by simp only [h, dif_pos]; exact (each i h).choose_spec⟩
    have hfl : ((List.range len).map f).length = len := by simp
    have ho : okA ((List.range len).map f) := by
      intro act hact
      obtain ⟨i, hi', rfl⟩ := List.mem_map.1 hact
      exact (hf i (List.mem_range.1 hi')).2
    refine ⟨some a, cap, (List.range len).map f, by rw [hfl], ?_, ho, by rw [hfl]; exact hl⟩
    intro hne
    have hp : 0 < len := by
      rcases Nat.eq_zero_or_pos len with h0 | h0
      · subst h0
        exact absurd (by simp [arow]) hne
      · exact h0
    have hall : ∀ k u, (arow ((List.range len).map f))[k]? = some u → W.cell? (a.add k) = some u := by
      intro k u hu
      have hk : k < 34 * len := by
        have := (List.getElem?_eq_some_iff.1 hu).1
        rw [arow_length ho, hfl] at this
        exact this
      have hdiv : k = (k / 34) * 34 + k % 34 := by omega
      have h1 := arow_cell ho (i := k / 34) (j := k % 34) (by rw [hfl]; omega) (by omega)
      rw [← hdiv, hu] at h1
      have h2 := (hf (k / 34) (by omega)).1 (k % 34) (by omega)
      rw [add_add', ← hdiv] at h2
      rw [h2, h1]
      simp
    have h00 := hall 0 (.int .u64 ((f 0).1 : Int)) (by
      have := arow_cell ho (i := 0) (j := 0) (by rw [hfl]; exact hp) (by omega)
      simp only [Nat.zero_mul, Nat.add_zero] at this
      rw [this]
      simp [actV])
    obtain ⟨b, o, s⟩ := a
    have hs : s = none := by simpa [Addr.add] using World.cell?_spot h00
    subst hs
    refine ⟨b, o, rfl, ?_, fun j u hu => ?_⟩
    · have := block_lt_of_cell h00
      simpa [add_block] using this
    · have := hall j u hu
      rwa [add_plain] at this
end
end Go.Proofs.YtdegmcfcbndelaaDoor

namespace Go.Proofs.YtdegmcfcbndelaaDoor
open Go.ChangeShapes Go.WideShapes Go.ChangeAt Go.RowKit Go.Deep

section
variable {H : Type} {enc : TypeId × Value → H} {W : World} {sp : Nat → Bool} {fuel : Nat} {x : DataW H × List MemPlace}
theorem cellsU10 : Tryd.prog.cellsOf 23 = 1 := by kernel_rfl
/-- Indices that came in. -/
theorem open_nums {cs : List Value} (h : DataW.trod enc Tryd.prog W 0 sp true fuel 58 cs = some x) :
    ∃ S c l, cs = [.slice S (l : List Nat).length c] ∧ Nu W W.heap.size S l ∧ okN l ∧ l.length ≤ c := by
  rcases open_slice1 Tryd.underlying58 cellsU10 h with ⟨rfl, rfl⟩ | ⟨a, len, cap, m, n, V, D, Pl, rfl, _, hl, hm, hmm, hx, hi⟩
  · exact ⟨none, 0, [], rfl, Rd.nil _ _ _, (fun _ h => nomatch h), by simp⟩
  · have hlm : len ≤ m := by rw [hmm]; split <;> omega
    have each : ∀ i, i < len → ∃ u : Nat, W.cell? (a.add i) = some (.int .u64 (u : Int)) ∧ u < 18446744073709551616 := by
      intro i hil
      obtain ⟨hc, ht⟩ := hi i (by omega)
      obtain ⟨u, e, b⟩ := open_u64 ht
      have e' : V i = .int .u64 (u : Int) := by simpa using e
      exact ⟨u, by rw [hc, e'], b⟩
    obtain ⟨f, hf⟩ : ∃ f : Nat → Nat, ∀ i, i < len → W.cell? (a.add i) = some (.int .u64 (f i : Int)) ∧ f i < 18446744073709551616 :=
      ⟨fun i => if h : i < len then (each i h).choose else 0, fun i h => by simp only [h, dif_pos]; exact (each i h).choose_spec⟩
    have hfl : ((List.range len).map f).length = len := by simp
    refine ⟨some a, cap, (List.range len).map f, by rw [hfl], ?_, ?_, by rw [hfl]; exact hl⟩
    · intro hne
      have hp : 0 < len := by
        rcases Nat.eq_zero_or_pos len with h0 | h0
        · subst h0
          exact absurd rfl hne
        · exact h0
      have h00 := (hf 0 hp).1
      obtain ⟨b, o, s⟩ := a
      have hs : s = none := by simpa [Addr.add] using World.cell?_spot h00
      subst hs
      refine ⟨b, o, rfl, ?_, fun j u hu => ?_⟩
      · have := block_lt_of_cell h00
        simpa [add_block] using this
      · have hj : j < len := by
          have := (List.getElem?_eq_some_iff.1 hu).1
          rw [nus, List.length_map, hfl] at this
          exact this
        have h2 := (hf j hj).1
        rw [add_plain] at h2
        rw [h2, ← hu, nus, List.getElem?_map, List.getElem?_map, List.getElem?_range hj]
        rfl
    · intro y hy
      obtain ⟨i, hi', rfl⟩ := List.mem_map.1 hy
      exact (hf i (List.mem_range.1 hi')).2
end
end Go.Proofs.YtdegmcfcbndelaaDoor

namespace Go.Proofs.YtdegmcfcbndelaaDoor
open Go.ChangeShapes Go.WideShapes Go.ChangeAt Go.RowKit Go.Deep

section
variable {H : Type} {enc : TypeId × Value → H} {W : World} {sp : Nat → Bool} {fuel : Nat} {x : DataW H × List MemPlace}
end
end Go.Proofs.YtdegmcfcbndelaaDoor
