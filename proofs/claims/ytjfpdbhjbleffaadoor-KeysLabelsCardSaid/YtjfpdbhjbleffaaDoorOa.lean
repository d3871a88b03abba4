/-
  Arguments opened: arrays of words and of bytes, slices of bytes, as they came in.
-/
import Derived.Test.YtjfpdbhjbleffaaDoorTl
import Derived.Test.YtjfpdbhjbleffaaDoorLaw
import Derived.SizedLaws
import Derived.Deep.Slices
import Derived.DataReads
namespace Go.Proofs.YtjfpdbhjbleffaaDoor
open Go.ChangeShapes Go.WideShapes Go.ChangeAt Go.RowKit Go.Deep

section
variable {H : Type} {enc : TypeId × Value → H} {W : World} {sp : Nat → Bool} {fuel : Nat} {x : DataW H × List MemPlace}
theorem okWide_array {P : Program} {w : World} {r : Reach} {base n : Nat} {t e : TypeId} {v : Value} (ht : P.underlying t = some (.array n e)) (h : Value.okWide P w r base t v) : ∃ cs, v = .agg cs ∧ cs.size = P.cellsOf t := by
  simp only [Value.okWide, ht] at h
  obtain ⟨cs, h1, h2, _⟩ := h
  exact ⟨cs, h1, h2⟩
/-- An array of integers of one kind that came in. -/
theorem open_array {k : IntKind} {n : Nat} {T e : TypeId} {cs : List Value} (hT : Tryd.prog.underlying T = some (.array n e)) (he : Tryd.prog.underlying e = some (.int k)) (hc : Tryd.prog.cellsOf e = 1) (hl : cs.length = n)
    (h : DataW.trod enc Tryd.prog W 0 sp true fuel T cs = some x) : ∃ zs : List Int, cs = zs.map (.int k) ∧ zs.length = n ∧ ∀ z ∈ zs, (Lit.int k z).wf = true := by
  obtain ⟨ys, m, _, _, _, hys, hel⟩ := DataW.trod_array hT h
  have each : ∀ i, i < n → ∃ z : Int, cs[i]? = some (.int k z) ∧ (Lit.int k z).wf = true := by
    intro i hi
    have h1 := hel i hi
    rw [hc, Nat.mul_one, List.getElem?_eq_getElem (by omega)] at h1
    obtain ⟨z, e1, _, wz⟩ := DataW.trod_int he h1
    refine ⟨z, ?_, wz⟩
    have : ((cs.drop i).take 1)[0]? = some (.int k z) := by rw [e1]; rfl
    have h4 : (cs.drop i)[0]? = some (.int k z) := by simpa using this
    rwa [List.getElem?_drop, Nat.add_zero] at h4
  obtain ⟨f, hf⟩ : ∃ f : Nat → Int, ∀ i, i < n → cs[i]? = some (.int k (f i)) ∧ (Lit.int k (f i)).wf = true :=
    ⟨fun i => if h : i < n then (each i h).choose else 0, fun i h => by simp only [h, dif_pos]; exact (each i h).choose_spec⟩
  refine ⟨(List.range n).map f, ?_, by simp, ?_⟩
  · apply List.ext_getElem?
    intro i
    rcases Nat.lt_or_ge i n with hi | hi
    · rw [(hf i hi).1, List.getElem?_map, List.getElem?_map, List.getElem?_range hi]
      rfl
    · rw [List.getElem?_eq_none (by omega), List.getElem?_eq_none (by simp; omega)]
  · intro z hz
    obtain ⟨i, hi, rfl⟩ := List.mem_map.1 hz
    exact (hf i (List.mem_range.1 hi)).2
theorem cellsW8 : Tryd.prog.cellsOf 72 = 8 := by kernel_rfl
theorem cellsB64 : Tryd.prog.cellsOf 67 = 64 := by kernel_rfl
theorem cellsU8 : Tryd.prog.cellsOf 5 = 1 := by kernel_rfl
theorem words_of {zs : List Int} (h : ∀ z ∈ zs, (Lit.int .u32 z).wf = true) : zs.map (.int .u32) = us (zs.map fun z => BitVec.ofInt 32 z) := by
  rw [us, List.map_map]
  refine List.map_congr_left fun z hz => ?_
  have := h z hz
  simp [Lit.wf, IntKind.min, IntKind.max, IntKind.signed, IntKind.bits] at this
  simp only [Function.comp, uw]
  congr 1
  rw [BitVec.toNat_ofInt]
  omega
theorem bytes_of {zs : List Int} (h : ∀ z ∈ zs, (Lit.int .u8 z).wf = true) : zs.map (.int .u8) = ubs (zs.map fun z => UInt8.ofNat z.toNat) := by
  rw [ubs, List.map_map]
  refine List.map_congr_left fun z hz => ?_
  have := h z hz
  simp [Lit.wf, IntKind.min, IntKind.max, IntKind.signed, IntKind.bits] at this
  simp only [Function.comp, ub]
  congr 1
  simp
  omega
theorem state_of (l : List (BitVec 32)) (h : l.length = 8) : ∃ s : S8, l = s.l := by
  match l, h with
  | [a, b, c, d, e, f, g, i], _ => exact ⟨⟨a, b, c, d, e, f, g, i⟩, rfl⟩
theorem bytesU8 : Tryd.prog.bytesOf 5 = 1 := by kernel_rfl
/-- A byte slice that came in. -/
theorem open_bytes {cs : List Value} (h : DataW.trod enc Tryd.prog W 0 sp true fuel 41 cs = some x) (hw : ∀ n ∈ x.1.weights Tryd.prog 41, n ≤ reachBytes) :
    ∃ A c bs, cs = [.slice A bs.length c] ∧ Rb W W.heap.size A bs ∧ bs.length ≤ 140737488351232 ∧ bs.length ≤ c := by
  rcases open_ints Tryd.underlying41 Tryd.underlying5 cellsU8 h with ⟨rfl, rfl⟩ | ⟨a, len, cap, zs, rfl, _, hl, hm, hz, rfl, hc, hwf⟩
  · exact ⟨none, 0, [], rfl, Rd.nil _ _ _, by simp, by simp⟩
  · have hlen : len ≤ zs.length := by rw [hz]; split <;> omega
    have hbl : ((zs.take len).map fun z => UInt8.ofNat z.toNat).length = len := by simp; omega
    have hcell : ∀ i (hi : i < zs.length), zs[i] = ((UInt8.ofNat zs[i].toNat).toNat : Int) := by
      intro i hi
      have := hwf zs[i] (List.getElem_mem hi)
      simp [Lit.wf, IntKind.min, IntKind.max, IntKind.signed, IntKind.bits] at this
      simp
      omega
    refine ⟨some a, cap, (zs.take len).map fun z => UInt8.ofNat z.toNat, by rw [hbl], ?_, ?_, by rw [hbl]; exact hl⟩
    · intro hne
      have hp : 0 < zs.length := by
        rcases Nat.eq_zero_or_pos zs.length with h0 | h0
        · have : zs = [] := List.eq_nil_of_length_eq_zero h0
          subst this
          simp [ubs] at hne
        · exact h0
      obtain ⟨b, o, rfl, hc'⟩ := ints_at hc hp
      refine ⟨b, o, rfl, block_lt_of_cell (hc' 0 hp), fun j u hu => ?_⟩
      have hj : j < len := by
        have := (List.getElem?_eq_some_iff.1 hu).1
        rw [ubs_length, hbl] at this
        exact this
      rw [hc' j (by omega)]
      have : (ubs ((zs.take len).map fun z => UInt8.ofNat z.toNat))[j]? = some (.int .u8 (zs.getD j 0)) := by
        rw [ubs_get, List.getElem?_map, List.getElem?_take, if_pos hj, List.getElem?_eq_getElem (by omega)]
        have := hcell j (by omega)
        simp only [Option.map_some, ub]
        rw [← this]
        simp [List.getD, show j < zs.length by omega]
      rw [this] at hu
      exact hu
    · rw [hbl]
      have h1 := hw ((lits .u8 (zs.take len)).length + (lits .u8 (zs.drop len)).length) (by
        simp only [DataW.weights, Tryd.underlying41, bytesU8, Nat.mul_one]
        exact List.mem_cons_self)
      simp [lits, reachBytes] at h1
      omega
end
end Go.Proofs.YtjfpdbhjbleffaaDoor
