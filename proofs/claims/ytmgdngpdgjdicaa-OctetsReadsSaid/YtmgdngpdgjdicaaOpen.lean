/-
  Arguments opened: bytes, and a script of acts, as they came in.
-/
import Derived.Test.YtmgdngpdgjdicaaSc
import Derived.Test.YtmgdngpdgjdicaaLaw
import Derived.SizedLaws
import Derived.Deep.Slices
import Derived.DataReads
namespace Go.Proofs.Ytmgdngpdgjdicaa
open Go.ChangeShapes Go.WideShapes Go.ChangeAt Go.RowKit Go.Deep

section
variable {H : Type} {enc : TypeId × Value → H} {W : World} {sp : Nat → Bool} {fuel : Nat} {x : DataW H × List MemPlace}
theorem bytesU8 : Try.prog.bytesOf 5 = 1 := by kernel_rfl
/-- A byte slice that came in. -/
theorem open_bytes {cs : List Value} (h : DataW.trod enc Try.prog W 0 sp true fuel 30 cs = some x) (hw : ∀ n ∈ x.1.weights Try.prog 30, n ≤ reachBytes) :
    ∃ A c bs, cs = [.slice A bs.length c] ∧ Rb W W.heap.size A bs ∧ bs.length ≤ 140737488351232 ∧ bs.length ≤ c := by
  rcases open_ints Try.underlying30 Try.underlying5 cellsB h with ⟨rfl, rfl⟩ | ⟨a, len, cap, zs, rfl, _, hl, hm, hz, rfl, hc, hwf⟩
  · exact ⟨none, 0, [], rfl, Rd.nil _ _ _, by simp, by simp⟩
  · have hlen : len ≤ zs.length := by rw [hz]; split <;> omega
    have hbl : ((zs.take len).map fun z => UInt8.ofNat z.toNat).length = len := by simp; omega
    have hcell : ∀ i (hi : i < zs.length), zs[i] = ((UInt8.ofNat zs[i].toNat).toNat : Int) := by
      intro i hi
      have := hwf zs[i] (List.getElem_mem hi)
      simp [Lit.wf, IntKind.min, IntKind.max, IntKind.signed, IntKind.bits] at this
      simp
      omega
    refine ⟨some a, cap, (zs.take len).map fun z => UInt8.ofNat z.toNat, by rw [hbl], ?_, ?_, by rw [hbl]; exact hl⟩
    · intro hne
      have hp : 0 < zs.length := by
        rcases Nat.eq_zero_or_pos zs.length with h0 | h0
        · have : zs = [] := List.eq_nil_of_length_eq_zero h0
          subst this
          simp [ubs] at hne
        · exact h0
      obtain ⟨b, o, rfl, hc'⟩ := ints_at hc hp
      refine ⟨b, o, rfl, block_lt_of_cell (hc' 0 hp), fun j u hu => ?_⟩
      have hj : j < len := by
        have := (List.getElem?_eq_some_iff.1 hu).1
        rw [ubs_length, hbl] at this
        exact this
      rw [hc' j (by omega)]
      have : (ubs ((zs.take len).map fun z => UInt8.ofNat z.toNat))[j]? = some (.int .u8 (zs.getD j 0)) := by
        rw [ubs_get, List.getElem?_map, List.getElem?_take, if_pos hj, List.getElem?_eq_getElem (by omega)]
        have := hcell j (by omega)
        simp only [Option.map_some, ub]
        rw [← this]
        simp [List.getD, show j < zs.length by omega]
      rw [this] at hu
      exact hu
    · rw [hbl]
      have h1 := hw ((lits .u8 (zs.take len)).length + (lits .u8 (zs.drop len)).length) (by
        simp only [DataW.weights, Try.underlying30, bytesU8, Nat.mul_one]
        exact List.mem_cons_self)
      simp [lits, reachBytes] at h1
      omega
theorem cellsAct : Try.prog.cellsOf 37 = 4 := by kernel_rfl
theorem mem_weightsAll {P : Program} {e : TypeId} : ∀ {l : List (DataW H)} {d : DataW H} {n : Nat}, d ∈ l → n ∈ d.weights P e → n ∈ DataW.weightsAll P e l
  | a :: r, d, n, hd, hn => by
    rw [DataW.weightsAll, List.mem_append]
    rcases List.mem_cons.1 hd with rfl | hd
    · exact .inl hn
    · exact .inr (mem_weightsAll hd hn)
/-- One act, out of its reading. -/
theorem open_act {cs : List Value} (h : DataW.trod enc Try.prog W 0 sp true fuel 37 cs = some x) (hw : ∀ n ∈ x.1.weights Try.prog 37, n ≤ reachBytes) :
    ∃ a : Act, cs = a.cells ∧ Rb W W.heap.size a.A a.bs ∧ (-9223372036854775808 ≤ a.kind ∧ a.kind ≤ 9223372036854775807) ∧ (-9223372036854775808 ≤ a.size ∧ a.size ≤ 9223372036854775807) ∧ a.n < 18446744073709551616 ∧ a.bs.length ≤ 140737488351232 := by
  obtain ⟨ys, n, _, rfl, hlen, hys, hf⟩ := DataW.trod_struct Try.underlying37 h
  rw [cellsAct] at hlen
  obtain ⟨c0, c1, c2, c3, rfl⟩ : ∃ c0 c1 c2 c3, cs = [c0, c1, c2, c3] := by
    match cs, hlen with
    | [c0, c1, c2, c3], _ => exact ⟨_, _, _, _, rfl⟩
  obtain ⟨y0, y1, y2, y3, rfl⟩ : ∃ y0 y1 y2 y3, ys = [y0, y1, y2, y3] := by
    match ys, hys with
    | [y0, y1, y2, y3], _ => exact ⟨_, _, _, _, rfl⟩
  have h0 := hf 0 _ rfl
  have h1 := hf 1 _ rfl
  have h2 := hf 2 _ rfl
  have h3 := hf 3 _ rfl
  simp only [List.getElem?_cons_zero, List.getElem?_cons_succ] at h0 h1 h2 h3
  obtain ⟨z0, e0, rfl, w0⟩ := DataW.trod_int Try.underlying3 h0
  obtain ⟨z1, e1, rfl, w1⟩ := DataW.trod_int Try.underlying3 h1
  obtain ⟨z2, e2, rfl, w2⟩ := DataW.trod_int Try.underlying35 h2
  have hw3 : ∀ n ∈ y3.1.weights Try.prog 30, n ≤ reachBytes := by
    intro n hn
    refine hw n ?_
    simp only [List.map_cons, List.map_nil, DataW.weights, Try.underlying37, DataW.weightsEach, List.mem_append]
    simp [hn]
  obtain ⟨A, c, bs, e3, hr, hb, _⟩ := open_bytes h3 hw3
  cases e0
  cases e1
  cases e2
  cases e3
  simp [Lit.wf, IntKind.min, IntKind.max, IntKind.signed, IntKind.bits] at w0 w1 w2
  refine ⟨⟨z0, z1, z2.toNat, A, c, bs⟩, ?_, hr, by simp only; omega, by simp only; omega, by simp only; omega, hb⟩
  simp only [Act.cells]
  rw [Int.toNat_of_nonneg (by omega)]
/-- A script that came in. -/
theorem open_script {cs : List Value} (h : DataW.trod enc Try.prog W 0 sp true fuel 22 cs = some x) (hw : ∀ n ∈ x.1.weights Try.prog 22, n ≤ reachBytes) :
    ∃ S c acts, cs = [.slice S (acts : List Act).length c] ∧ Script W W.heap.size S acts ∧ acts.length ≤ 9223372036854775807 := by
  rcases open_slice Try.underlying22 h with ⟨rfl, rfl⟩ | ⟨a, len, cap, m, n, D, Pl, rfl, _, hl, hm, hmm, hx, hi⟩
  · exact ⟨none, 0, [], rfl, ⟨Rd.nil _ _ _, fun a ha => by cases ha⟩, by simp⟩
  · have hlm : len ≤ m := by rw [hmm]; split <;> omega
    subst hx
    have each : ∀ i, i < len → ∃ act : Act, (∀ j, j < 4 → W.cell? ((a.add (i * 4)).add j) = act.cells[j]?) ∧ Rb W W.heap.size act.A act.bs ∧ (-9223372036854775808 ≤ act.kind ∧ act.kind ≤ 9223372036854775807) ∧ (-9223372036854775808 ≤ act.size ∧ act.size ≤ 9223372036854775807) ∧ act.n < 18446744073709551616 ∧ act.bs.length ≤ 140737488351232 := by
      intro i hil
      obtain ⟨cs', hc, ht⟩ := hi i (by omega)
      rw [cellsAct] at hc
      obtain ⟨_, _, hat⟩ := World.cells?_some hc
      obtain ⟨act, rfl, rest⟩ := open_act ht (fun n hn => hw n (by
        simp only [DataW.weights, Try.underlying22]
        refine List.mem_cons_of_mem _ (List.mem_append_left _ (mem_weightsAll (d := D i) ?_ hn))
        exact List.mem_map_of_mem (List.mem_range.2 hil)))
      exact ⟨act, hat, rest⟩
    obtain ⟨f, hf⟩ : ∃ f : Nat → Act, ∀ i, i < len → (∀ j, j < 4 → W.cell? ((a.add (i * 4)).add j) = (f i).cells[j]?) ∧ Rb W W.heap.size (f i).A (f i).bs ∧ (-9223372036854775808 ≤ (f i).kind ∧ (f i).kind ≤ 9223372036854775807) ∧ (-9223372036854775808 ≤ (f i).size ∧ (f i).size ≤ 9223372036854775807) ∧ (f i).n < 18446744073709551616 ∧ (f i).bs.length ≤ 140737488351232 :=
      ⟨fun i => if h : i < len then (each i h).choose else ⟨0, 0, 0, none, 0, []⟩, fun i h => by simp only [h, dif_pos]; exact (each i h).choose_spec⟩
    have hfl : ((List.range len).map f).length = len := by simp
    refine ⟨some a, cap, (List.range len).map f, by rw [hfl], ⟨?_, ?_⟩, by rw [hfl]; simp only [maxLen] at hm; omega⟩
    · intro hne
      have hp : 0 < len := by
        rcases Nat.eq_zero_or_pos len with h0 | h0
        · subst h0
          simp at hne
        · exact h0
      have hall : ∀ k u, (((List.range len).map f).flatMap Act.cells)[k]? = some u → W.cell? (a.add k) = some u := by
        intro k u hu
        have hk : k < 4 * len := by
          have := (List.getElem?_eq_some_iff.1 hu).1
          have hs : ∀ l : List Act, (l.flatMap Act.cells).length = 4 * l.length := by
            intro l
            induction l with
            | nil => rfl
            | cons y r ih => rw [List.flatMap_cons, List.length_append, ih, List.length_cons]; simp [Act.cells]; omega
          rw [hs, hfl] at this
          exact this
        have hdiv : k = (k / 4) * 4 + k % 4 := by omega
        have h1 := flat_cells ((List.range len).map f) (k / 4) (k % 4) (by rw [hfl]; omega) (by omega)
        rw [← hdiv, hu] at h1
        have h2 := (hf (k / 4) (by omega)).1 (k % 4) (by omega)
        rw [add_add', ← hdiv] at h2
        rw [h2, h1]
        simp
      have h00 := hall 0 (.int .i64 (f 0).kind) (by
        have := flat_cells ((List.range len).map f) 0 0 (by rw [hfl]; exact hp) (by omega)
        simp only [Nat.zero_mul, Nat.add_zero] at this
        rw [this]
        simp [Act.cells])
      obtain ⟨b, o, s⟩ := a
      have hs : s = none := by simpa [Addr.add] using World.cell?_spot h00
      subst hs
      refine ⟨b, o, rfl, ?_, fun j u hu => ?_⟩
      · have := block_lt_of_cell h00
        simpa [add_block] using this
      · have := hall j u hu
        rwa [add_plain] at this
    · intro act hact
      obtain ⟨i, hi', rfl⟩ := List.mem_map.1 hact
      exact (hf i (List.mem_range.1 hi')).2
end
end Go.Proofs.Ytmgdngpdgjdicaa
