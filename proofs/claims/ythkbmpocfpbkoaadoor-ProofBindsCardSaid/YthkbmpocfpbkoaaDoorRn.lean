/-
  Layer 10: where other leaves, or another proof, come to the same root, two unlike texts have one hash. Nothing here walks.
-/
import Derived.Test.YthkbmpocfpbkoaaDoorJ1
namespace Go.Proofs.YthkbmpocfpbkoaaDoor

/-- Two unlike texts with one hash. -/
def Twin (ts : List (List UInt8)) : Prop := ∃ a ∈ ts, ∃ b ∈ ts, a ≠ b ∧ hashL a = hashL b
theorem Twin.mono {ts us : List (List UInt8)} (h : Twin ts) (hs : ∀ t ∈ ts, t ∈ us) : Twin us := by
  obtain ⟨a, ha, b, hb, r⟩ := h
  exact ⟨a, hs a ha, b, hs b hb, r⟩
theorem joinT_cut {k : Nat} {x y x' y' : List UInt8} (hx : x.length = 32) (hx' : x'.length = 32) (h : joinT k x y = joinT k x' y') : x = x' ∧ y = y' := by
  have h2 : ([2, UInt8.ofNat k] ++ x) ++ y = ([2, UInt8.ofNat k] ++ x') ++ y' := h
  have h3 := List.append_inj h2 (by simp [hx, hx'])
  exact ⟨List.append_cancel_left h3.1, h3.2⟩
theorem climb_binds {l : List Nat} (hs : l.Pairwise (· < ·)) {S : List (Nat × Nat)} (hB : ∀ q ∈ S, belowB l q.1 q.2 = false) {lv bes lv' bes' : List UInt8} (hlv : lv.length = 32 * l.length) (hbes : bes.length = 32 * S.length) (hlv' : lv'.length = 32 * l.length) (hbes' : bes'.length = 32 * S.length) :
    ∀ k p, (p + 1) * 2 ^ k ≤ 4294967296 → (∀ q ∈ spotsS l k p, q ∈ S) → (climbS l lv S bes k p).2 = (climbS l lv' S bes' k p).2 →
      Twin ((climbS l lv S bes k p).1 ++ (climbS l lv' S bes' k p).1) ∨ ((∀ q ∈ spotsS l k p, hpart bes (S.idxOf q) = hpart bes' (S.idxOf q)) ∧ ∀ x ∈ subI l k p, hpart lv (l.idxOf x) = hpart lv' (l.idxOf x))
  | 0, p, _, hin, he => by
    refine .inr ?_
    by_cases h : (0, p) ∈ S
    · have hb := hB _ h
      rw [climbS_spot h, climbS_spot h] at he
      rw [spotsS_out hb, subI_nil.2 hb]
      refine ⟨fun q hq => ?_, fun _ h => nomatch h⟩
      obtain rfl : q = (0, p) := by simpa using hq
      exact he
    · rw [climbS_leaf h, climbS_leaf h] at he
      rw [spotsS_leaf (below_of_not hin h)]
      refine ⟨fun _ h => (nomatch h), fun x hx => ?_⟩
      have hx2 := (List.mem_filter.1 hx).2
      obtain rfl : x = p := by simpa using hx2
      exact he
  | k + 1, p, hp, hin, he => by
    by_cases h : (k + 1, p) ∈ S
    · have hb := hB _ h
      rw [climbS_spot h, climbS_spot h] at he
      rw [spotsS_out hb, subI_nil.2 hb]
      refine .inr ⟨fun q hq => ?_, fun _ h => nomatch h⟩
      obtain rfl : q = (k + 1, p) := by simpa using hq
      exact he
    · have hr := half_room hp
      have hbl := below_of_not hin h
      have hlr := spots_left hin h
      rw [climbS_step h, climbS_step h] at he ⊢
      rw [mod64 (by omega), mod64 (by omega)] at hlr he ⊢
      rw [spotsS_half hp hbl, subI_split hs]
      have L1 := climbS_root hlv hbes k (2 * p) hlr.1
      have L1' := climbS_root hlv' hbes' k (2 * p) hlr.1
      have I1 := climb_binds hs hB hlv hbes hlv' hbes' k (2 * p) hr.1 hlr.1
      have I2 := climb_binds hs hB hlv hbes hlv' hbes' k (2 * p + 1) hr.2.1 hlr.2
      generalize (climbS l lv S bes k (2 * p)).2 = x at he L1 I1 ⊢
      generalize (climbS l lv' S bes' k (2 * p)).2 = x' at he L1' I1 ⊢
      generalize (climbS l lv S bes k (2 * p + 1)).2 = y at he I2 ⊢
      generalize (climbS l lv' S bes' k (2 * p + 1)).2 = y' at he I2 ⊢
      generalize (climbS l lv S bes k (2 * p)).1 = a1 at I1 ⊢
      generalize (climbS l lv' S bes' k (2 * p)).1 = a1' at I1 ⊢
      generalize (climbS l lv S bes k (2 * p + 1)).1 = a2 at I2 ⊢
      generalize (climbS l lv' S bes' k (2 * p + 1)).1 = a2' at I2 ⊢
      dsimp only at he ⊢
      by_cases hj : joinT (k + 1) x y = joinT (k + 1) x' y'
      · obtain ⟨rfl, rfl⟩ := joinT_cut L1 L1' hj
        rcases I1 rfl with t | ⟨s1, u1⟩
        · exact .inl (t.mono (fun t ht => by
            rcases List.mem_append.1 ht with ht | ht
            · simp [ht]
            · simp [ht]))
        · rcases I2 rfl with t | ⟨s2, u2⟩
          · exact .inl (t.mono (fun t ht => by
              rcases List.mem_append.1 ht with ht | ht
              · simp [ht]
              · simp [ht]))
          · refine .inr ⟨fun q hq => ?_, fun x hx => ?_⟩
            · rcases List.mem_append.1 hq with hq | hq
              · exact s1 q hq
              · exact s2 q hq
            · rcases List.mem_append.1 hx with hx | hx
              · exact u1 x hx
              · exact u2 x hx
      · exact .inl ⟨joinT (k + 1) x y, by simp, joinT (k + 1) x' y', by simp, hj, he⟩
theorem idx_self {α : Type} [BEq α] [LawfulBEq α] {S : List α} (hn : S.Nodup) {i : Nat} (hi : i < S.length) : S.idxOf S[i] = i := by
  have e : S = S.take i ++ S[i] :: S.drop (i + 1) := by
    rw [← List.drop_eq_getElem_cons hi, List.take_append_drop]
  have h1 : S[i] ∉ S.take i := by
    rw [e] at hn
    exact not_before hn
  have := idxOf_mid (R := S.drop (i + 1)) h1
  rw [← e, List.length_take, Nat.min_eq_left (Nat.le_of_lt hi)] at this
  exact this
theorem parts_same {a b : List UInt8} {n : Nat} (ha : a.length = 32 * n) (hb : b.length = 32 * n) (h : ∀ i, i < n → hpart a i = hpart b i) : a = b := by
  refine List.ext_getElem (by omega) fun j h1 h2 => ?_
  have hi : j / 32 < n := by omega
  have := congrArg (fun l => l[j % 32]?) (h (j / 32) hi)
  simp only [hpart] at this
  rw [List.getElem?_take, List.getElem?_take, if_pos (by omega), if_pos (by omega), List.getElem?_drop, List.getElem?_drop, show 32 * (j / 32) + j % 32 = j by omega, List.getElem?_eq_getElem h1, List.getElem?_eq_getElem h2] at this
  exact Option.some.inj this
/-- The whole. -/
theorem roots_bind {h : Int} {l : List Nat} {nl nb nl' nb' : Nat} {lv bes lv' bes' : List UInt8} (e1 : ccB h l nl nb = 0) (e2 : ccB h l nl' nb' = 0) (hlv : lv.length = 32 * nl) (hbes : bes.length = 32 * nb) (hlv' : lv'.length = 32 * nl') (hbes' : bes'.length = 32 * nb') (he : rootS h l nl nb lv bes = rootS h l nl' nb' lv' bes') (hne : lv ≠ lv' ∨ bes ≠ bes') :
    Twin (textsS h l nl nb lv bes ++ textsS h l nl' nb' lv' bes') := by
  obtain ⟨hg, rfl, rfl⟩ := ccB_zero e1
  obtain ⟨-, f1, f2⟩ := ccB_zero e2
  obtain ⟨k, rfl⟩ := rgtB_nat hg
  rw [Int.toNat_natCast] at hbes f2
  obtain ⟨hh, -, -, hs, hfit⟩ := rgtB_parts hg
  have hp : (0 + 1) * 2 ^ k ≤ 4294967296 := by
    have : (2 : Nat) ^ k ≤ 2 ^ 32 := Nat.pow_le_pow_right (by omega) hh
    omega
  rw [rootS, rootS, if_pos e1, if_pos e2, Int.toNat_natCast] at he
  rw [textsS, textsS, if_pos e1, if_pos e2, Int.toNat_natCast]
  rw [f1] at hlv'
  rw [f2] at hbes'
  rcases climb_binds hs (spotsS_below l k 0) hlv hbes hlv' hbes' k 0 hp (fun q hq => hq) he with t | ⟨h1, h2⟩
  · exact t
  · exfalso
    have hsub : subI l k 0 = l := subI_all hfit
    have hn : l.Nodup := hs.imp (fun h => Nat.ne_of_lt h)
    have a1 : lv = lv' := parts_same hlv hlv' fun i hi => by
      have := h2 l[i] (by rw [hsub]; exact List.getElem_mem _)
      rwa [idx_self hn hi] at this
    have a2 : bes = bes' := parts_same hbes hbes' fun i hi => by
      have := h1 (spotsS l k 0)[i] (List.getElem_mem _)
      rwa [idx_self (spotsS_nodup l k 0 hp) hi] at this
    rcases hne with h | h
    · exact h a1
    · exact h a2
theorem texts_len {h : Int} {l : List Nat} {nl nb : Nat} {lv bes : List UInt8} (hlv : lv.length = 32 * nl) (hbes : bes.length = 32 * nb) : ∀ t ∈ textsS h l nl nb lv bes, t.length = 66 := by
  unfold textsS
  split
  · rename_i e
    obtain ⟨hg, rfl, rfl⟩ := ccB_zero e
    have key : ∀ k p, (∀ q ∈ spotsS l k p, q ∈ spotsS l h.toNat 0) → ∀ t ∈ (climbS l lv (spotsS l h.toNat 0) bes k p).1, t.length = 66 := by
      intro k
      induction k with
      | zero =>
        intro p hin t ht
        by_cases hm : (0, p) ∈ spotsS l h.toNat 0
        · rw [climbS_spot hm] at ht; cases ht
        · rw [climbS_leaf hm] at ht; cases ht
      | succ k ih =>
        intro p hin t ht
        by_cases hm : (k + 1, p) ∈ spotsS l h.toNat 0
        · rw [climbS_spot hm] at ht; cases ht
        · have hlr := spots_left hin hm
          rw [climbS_step hm] at ht
          rcases List.mem_append.1 ht with ht | ht
          · rcases List.mem_append.1 ht with ht | ht
            · exact ih _ hlr.1 t ht
            · exact ih _ hlr.2 t ht
          · obtain rfl := List.mem_singleton.1 ht
            exact joinT_length _ _ _ (climbS_root hlv hbes _ _ hlr.1) (climbS_root hlv hbes _ _ hlr.2)
    exact key h.toNat 0 (fun q hq => hq)
  · intro t ht
    cases ht
end Go.Proofs.YthkbmpocfpbkoaaDoor
