/-
  Layer 10, the document's side: whether indices are such for a height.
  Layer 10, the document's side: Right.
-/
import Derived.Test.YtfmbpdjcoopaeaaDoorM4
namespace Go.Proofs.YtfmbpdjcoopaeaaDoor
open Go.RowKit

theorem riseB_all {l : List Nat} (h : ∀ i, i < l.length → i ≠ 0 → l.getD (i - 1) 0 < l.getD i 0) : riseB l = true := by
  unfold riseB
  rw [List.all_eq_true]
  intro i hi
  rw [List.mem_range] at hi
  by_cases e : i = 0
  · simp [e]
  · rw [decide_eq_true (h i hi e), Bool.or_true]
theorem riseB_no {l : List Nat} {i : Nat} (hi : i < l.length) (h0 : i ≠ 0) (h : ¬ l.getD (i - 1) 0 < l.getD i 0) : riseB l = false := by
  unfold riseB
  rw [List.all_eq_false]
  refine ⟨i, List.mem_range.2 hi, ?_⟩
  simp only [h0, decide_false, Bool.false_or, decide_eq_true_eq]
  exact h
theorem fitB_all {h : Nat} {l : List Nat} (hx : ∀ i, i < l.length → l.getD i 0 < 2 ^ h) : fitB h l = true := by
  unfold fitB
  rw [List.all_eq_true]
  intro x hxm
  obtain ⟨i, hi, rfl⟩ := List.getElem_of_mem hxm
  have := hx i hi
  rw [List.getD_eq_getElem?_getD, List.getElem?_eq_getElem hi] at this
  simpa using this
theorem fitB_no {h : Nat} {l : List Nat} {i : Nat} (hi : i < l.length) (hx : ¬ l.getD i 0 < 2 ^ h) : fitB h l = false := by
  unfold fitB
  rw [List.all_eq_false]
  rw [List.getD_eq_getElem?_getD, List.getElem?_eq_getElem hi] at hx
  exact ⟨l[i], List.getElem_mem hi, by simpa using hx⟩
end Go.Proofs.YtfmbpdjcoopaeaaDoor

namespace Go.Proofs.YtfmbpdjcoopaeaaDoor
open Go.RowKit

theorem rgtB_no {h : Int} {l : List Nat} (hb : h < 0 ∨ 32 < h ∨ l.length = 0 ∨ 256 < l.length) : rgtB h l = false := by
  unfold rgtB
  rcases hb with hb | hb | hb | hb
  · rw [decide_eq_false (show ¬ 0 ≤ h by omega)]
    simp
  · rw [decide_eq_false (show ¬ h ≤ 32 by omega)]
    simp
  · rw [List.eq_nil_of_length_eq_zero hb]
    simp
  · rw [decide_eq_false (show ¬ l.length ≤ 256 by omega)]
    simp
theorem rgtB_yes {h : Nat} {l : List Nat} (hh : h ≤ 32) (h0 : l.length ≠ 0) (hl : l.length ≤ 256) : rgtB (h : Int) l = (fitB h l && riseB l) := by
  unfold rgtB
  rw [decide_eq_true (show (0 : Int) ≤ h by omega), decide_eq_true (show (h : Int) ≤ 32 by omega), decide_eq_true hl, decide_eq_true (show l ≠ [] from fun e => h0 (by rw [e]; rfl)), Int.toNat_natCast]
  simp
set_option maxRecDepth 100000 in
set_option maxHeartbeats 400000 in
theorem rightR_no (h : Int) (n : Nat) (A : Option Addr) (c : Nat) (W : World) (hb : h < 0 ∨ 32 < h ∨ n = 0 ∨ 256 < n) :
    Calls Tryd.prog 43 #[.int .i64 h, .slice A n c] W fun r W' => r = .returned (.bool false) ∧ W' = W := by
  by_cases h1 : h < 0
  · have f1 : decide (h < 0) = true := by simpa using h1
    clear hb
    go_enter Tryd.func43, Tryd.ntmps43
    go_wp2
    go_ret
    exact ⟨rfl, rfl⟩
  · have f1 : decide (h < 0) = false := by simpa using h1
    by_cases h2 : 32 < h
    · have f2 : decide (32 < h) = true := by simpa using h2
      clear hb
      go_enter Tryd.func43, Tryd.ntmps43
      go_wp2
      go_ret
      exact ⟨rfl, rfl⟩
    · have f2 : decide (32 < h) = false := by simpa using h2
      by_cases h3 : n = 0
      · have f3 : decide ((n : Int) = 0) = true := by simp; omega
        have f3b : ((n : Int) == 0) = true := by simp; omega
        have f3n : decide (n = 0) = true := by simp; omega
        clear hb
        go_enter Tryd.func43, Tryd.ntmps43
        go_wp2
        go_ret
        exact ⟨rfl, rfl⟩
      · have f3 : decide ((n : Int) = 0) = false := by simp; omega
        have f3b : ((n : Int) == 0) = false := by simp; omega
        have f3n : decide (n = 0) = false := by simp; omega
        have h4 : 256 < n := by omega
        have f4 : decide (256 < (n : Int)) = true := by simp; omega
        have f4n : decide (256 < n) = true := by simp; omega
        clear hb
        go_enter Tryd.func43, Tryd.ntmps43
        go_wp2
        go_ret
        exact ⟨rfl, rfl⟩
set_option maxRecDepth 100000 in
set_option maxHeartbeats 1000000 in
theorem rightR_yes (h : Nat) (l : List Nat) (A : Option Addr) (c : Nat) (W : World) (hr : Nu W W.heap.size A l) (hh : h ≤ 32) (h0 : l.length ≠ 0) (hl : l.length ≤ 256) :
    Calls Tryd.prog 43 #[.int .i64 (h : Int), .slice A l.length c] W fun r W' => r = .returned (.bool (fitB h l && riseB l)) ∧ Below W.heap.size W W' := by
  obtain ⟨n, hn⟩ : ∃ n, n = l.length := ⟨_, rfl⟩
  have HR := hid (fun (W' : World) (b : Below W.heap.size W W') => (hr.new b : Nu W' W'.heap.size A l))
  have HN := hid hn
  have HL := hid (show n ≤ 256 by omega)
  have HH := hid hh
  rw [← hn] at h0 hl ⊢
  have f1 : decide ((h : Int) < 0) = false := by simp
  have f2 : decide (32 < (h : Int)) = false := by simp; omega
  have f2n : decide (32 < h) = false := by simp; omega
  have f3 : decide ((n : Int) = 0) = false := by simp; omega
  have f3b : ((n : Int) == 0) = false := by simp; omega
  have f3n : decide (n = 0) = false := by simp; omega
  have f4 : decide (256 < (n : Int)) = false := by simp; omega
  have f4n : decide (256 < n) = false := by simp; omega
  clear hr hh h0 hl hn
  go_enter Tryd.func43, Tryd.ntmps43
  go_wp2
  clear f1 f2 f2n f3 f3b f3n f4 f4n
  go_loopw [5, 6] (fun v5 v6 wr => ∃ i : Nat, i ≤ h ∧ v6 = .int .i64 (i : Int) ∧ v5 = .int .u64 ((2 ^ i : Nat) : Int) ∧ wr = W) (fun _ v6 _ => h - (intOf v6).toNat)
  case atStart => exact ⟨0, by omega, rfl, rfl, rfl⟩
  case round =>
    obtain ⟨i, hi, rfl, rfl, ew0⟩ := hrel
    obtain rfl := ew0.symm
    by_cases hlt : i < h
    · have d1 : decide ((i : Int) < (h : Int)) = true := by simp; omega
      have d1n : decide (i < h) = true := by simp; omega
      obtain ⟨i1, hi1⟩ : ∃ m, m = i + 1 := ⟨_, rfl⟩
      have e2 : (i : Int) + 1 = (i1 : Int) := by omega
      have ew : IntKind.i64.wrap (i1 : Int) = (i1 : Int) := by rw [IntKind.wrap_i64] <;> have := HH.out <;> omega
      have hb := Nat.pow_le_pow_right (n := 2) (by omega) (show i1 ≤ 32 by have := HH.out; omega)
      have hp : 2 ^ i1 = 2 ^ i * 2 := by rw [hi1, Nat.pow_succ]
      obtain ⟨q, hq⟩ : ∃ q, q = 2 ^ i := ⟨_, rfl⟩
      obtain ⟨q1, hq1⟩ : ∃ q, q = 2 ^ i1 := ⟨_, rfl⟩
      rw [← hq, ← hq1] at hp
      rw [← hq1] at hb
      rw [← hq]
      have em : (q : Int) * 2 = (q1 : Int) := by omega
      have ewm : IntKind.u64.wrap (q1 : Int) = (q1 : Int) := by simp [IntKind.wrap, IntKind.signed, IntKind.bits]; omega
      have HX := hid (show i1 ≤ h ∧ q1 = 2 ^ i1 ∧ h - i1 < h - i by omega)
      clear hb hp hq hq1 hlt hi hi1
      go_wp2
      exact ⟨⟨i1, HX.out.1, rfl, by rw [← HX.out.2.1], trivial⟩, by
        show h - ((i1 : Int)).toNat < h - ((i : Int)).toNat
        rw [Int.toNat_natCast, Int.toNat_natCast]
        exact HX.out.2.2⟩
    · obtain rfl : i = h := by omega
      have d1 : decide ((i : Int) < (i : Int)) = false := by simp
      obtain ⟨q, hq⟩ : ∃ q, q = 2 ^ i := ⟨_, rfl⟩
      rw [← hq]
      have HQ := hid hq
      clear hlt hi hq
      go_wp2
      clear d1
      go_loopw [7] (fun v7 w2 => ∃ j : Nat, j ≤ n ∧ v7 = .int .i64 (j : Int) ∧ Hid (∀ x, x < j → l.getD x 0 < 2 ^ i ∧ (x ≠ 0 → l.getD (x - 1) 0 < l.getD x 0)) ∧ Hid (Below W.heap.size W w2)) (fun v7 _ => n - (intOf v7).toNat)
      case atStart => exact ⟨0, by omega, rfl, hid (fun x hx => absurd hx (Nat.not_lt_zero x)), hid (Below.refl _ _)⟩
      case round =>
        obtain ⟨j, hj, rfl, hx, hb⟩ := hrel
        by_cases hlt : j < n
        · have d1 : decide ((j : Int) < (n : Int)) = true := by simp; omega
          have d1n : decide (j < n) = true := by simp; omega
          have ik : (j : Int) < (n : Int) := by omega
          have hjl : j < l.length := by rw [← HN.out]; exact hlt
          obtain ⟨g, o, rfl, -, c0⟩ := (HR.out wr hb.out).at hjl
          have hg : l.getD j 0 = l[j] := by rw [List.getD_eq_getElem?_getD, List.getElem?_eq_getElem hjl]; rfl
          rw [← hg] at c0
          obtain ⟨x, hxx⟩ : ∃ x, x = l.getD j 0 := ⟨_, rfl⟩
          rw [← hxx] at c0
          obtain ⟨p, hp⟩ : ∃ p, p = o + j := ⟨_, rfl⟩
          rw [← hp] at c0
          have eq := hp.symm
          have HXX := hid hxx
          by_cases hc : q ≤ x
          · have f0 : decide ((q : Int) ≤ (x : Int)) = true := by simp; omega
            have f0n : decide (q ≤ x) = true := by simpa using hc
            have HO := hid (fitB_no (h := i) (i := j) hjl (by rw [← hxx, ← HQ.out]; omega))
            clear hg hxx hp hc hlt hjl hj hx
            go_wp2
            go_quiet (fail)
            have HB := hid (below_drewN hb.out nq)
            clear c0 hb
            generalize wr.drewN nq = W1 at HB ⊢
            go_wp2
            go_ret
            exact ⟨by rw [HO.out, Bool.false_and]; rfl, HB.out⟩
          · have f0 : decide ((q : Int) ≤ (x : Int)) = false := by simp; omega
            have f0n : decide (q ≤ x) = false := by simp; omega
            obtain ⟨j1, hj1⟩ : ∃ m, m = j + 1 := ⟨_, rfl⟩
            have e2 : (j : Int) + 1 = (j1 : Int) := by omega
            have ew : IntKind.i64.wrap (j1 : Int) = (j1 : Int) := by rw [IntKind.wrap_i64] <;> have := HL.out <;> omega
            have HM := hid (show j1 ≤ n ∧ n - j1 < n - j by omega)
            have HFX := hid (show l.getD j 0 < 2 ^ i by rw [← hxx, ← HQ.out]; omega)
            have HJ1 := hid hj1
            by_cases hz : j = 0
            · have g0 : decide (0 < (j : Int)) = false := by simp; omega
              have g0n : decide (0 < j) = false := by simp; omega
              have HX := hid (show ∀ y, y < j1 → l.getD y 0 < 2 ^ i ∧ (y ≠ 0 → l.getD (y - 1) 0 < l.getD y 0) by
                intro y hy
                obtain rfl : y = j := by omega
                exact ⟨HFX.out, fun h => absurd hz h⟩)
              clear hg hxx hp hc hlt hjl hj hx hj1 hz
              go_wp2
              go_quiet (fail)
              have HB := hid (below_drewN hb.out nq)
              clear c0 hb
              generalize wr.drewN nq = W1 at HB ⊢
              go_wp2
              exact ⟨⟨j1, HM.out.1, rfl, HX.out, HB.out⟩, by
                show n - ((j1 : Int)).toNat < n - ((j : Int)).toNat
                rw [Int.toNat_natCast, Int.toNat_natCast]
                exact HM.out.2⟩
            · have g0 : decide (0 < (j : Int)) = true := by simp; omega
              have g0n : decide (0 < j) = true := by simp; omega
              obtain ⟨jm, hjm⟩ : ∃ m, m = j - 1 := ⟨_, rfl⟩
              have e3 : (j : Int) - 1 = (jm : Int) := by omega
              have e3w : IntKind.i64.wrap (jm : Int) = (jm : Int) := by rw [IntKind.wrap_i64] <;> have := HL.out <;> omega
              have hjml : jm < l.length := by omega
              have ikm : (jm : Int) < (n : Int) := by omega
              obtain ⟨g2, o2, ho, -, c1⟩ := (HR.out wr hb.out).at hjml
              obtain ⟨rfl, rfl⟩ : g2 = g ∧ o2 = o := by cases ho; exact ⟨rfl, rfl⟩
              have hg2 : l.getD jm 0 = l[jm] := by rw [List.getD_eq_getElem?_getD, List.getElem?_eq_getElem hjml]; rfl
              rw [← hg2] at c1
              obtain ⟨y, hyy⟩ : ∃ y, y = l.getD jm 0 := ⟨_, rfl⟩
              rw [← hyy] at c1
              obtain ⟨p2, hp2⟩ : ∃ p, p = o2 + jm := ⟨_, rfl⟩
              rw [← hp2] at c1
              have eq2 := hp2.symm
              by_cases hc2 : x ≤ y
              · have k0 : decide ((x : Int) ≤ (y : Int)) = true := by simp; omega
                have k0n : decide (x ≤ y) = true := by simpa using hc2
                have HO := hid (riseB_no (l := l) (i := j) hjl hz (by rw [← hxx, ← hjm, ← hyy]; omega))
                clear hg hxx hp hc hlt hjl hj hx hj1 hz hjm hjml hg2 hyy hp2 hc2 ho
                go_wp2
                go_quiet (fail)
                have HB := hid (below_drewN hb.out nq)
                clear c0 c1 hb
                generalize wr.drewN nq = W1 at HB ⊢
                go_wp2
                go_ret
                exact ⟨by rw [HO.out, Bool.and_false]; rfl, HB.out⟩
              · have k0 : decide ((x : Int) ≤ (y : Int)) = false := by simp; omega
                have k0n : decide (x ≤ y) = false := by simp; omega
                have HX := hid (show ∀ y, y < j1 → l.getD y 0 < 2 ^ i ∧ (y ≠ 0 → l.getD (y - 1) 0 < l.getD y 0) by
                  intro y' hy'
                  by_cases e : y' = j
                  · subst e
                    exact ⟨HFX.out, fun _ => by rw [← hjm, ← hyy, ← hxx]; omega⟩
                  · exact hx.out y' (by omega))
                clear hg hxx hp hc hlt hjl hj hx hj1 hz hjm hjml hg2 hyy hp2 hc2 ho
                go_wp2
                go_quiet (fail)
                have HB := hid (below_drewN hb.out nq)
                clear c0 c1 hb
                generalize wr.drewN nq = W1 at HB ⊢
                go_wp2
                exact ⟨⟨j1, HM.out.1, rfl, HX.out, HB.out⟩, by
                  show n - ((j1 : Int)).toNat < n - ((j : Int)).toNat
                  rw [Int.toNat_natCast, Int.toNat_natCast]
                  exact HM.out.2⟩
        · obtain rfl : j = n := by omega
          have d1 : decide ((j : Int) < (j : Int)) = false := by simp
          have HO := hid (fitB_all (h := i) (l := l) (fun x h => (hx.out x (by rw [HN.out]; exact h)).1))
          have HO2 := hid (riseB_all (l := l) (fun x h => (hx.out x (by rw [HN.out]; exact h)).2))
          clear hlt hj hx
          go_wp2
          go_ret
          exact ⟨by rw [HO.out, HO2.out]; rfl, hb.out⟩
/-- Right, whatever it is handed. -/
theorem right10R_any (h : Int) (l : List Nat) (A : Option Addr) (c : Nat) (W : World) (hr : Nu W W.heap.size A l) :
    Calls Tryd.prog 43 #[.int .i64 h, .slice A l.length c] W fun r W' => r = .returned (.bool (rgtB h l)) ∧ Below W.heap.size W W' := by
  by_cases hb : h < 0 ∨ 32 < h ∨ l.length = 0 ∨ 256 < l.length
  · refine (rightR_no h l.length A c W hb).mono ?_
    rintro r W' ⟨rfl, rfl⟩
    exact ⟨by rw [rgtB_no hb], Below.refl _ _⟩
  · obtain ⟨k, rfl⟩ : ∃ k : Nat, h = (k : Int) := ⟨h.toNat, by omega⟩
    rw [rgtB_yes (by omega) (by omega) (by omega)]
    exact rightR_yes k l A c W hr (by omega) (by omega) (by omega)
end Go.Proofs.YtfmbpdjcoopaeaaDoor
