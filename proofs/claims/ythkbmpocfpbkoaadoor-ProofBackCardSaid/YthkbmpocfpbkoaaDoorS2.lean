/-
  Layer 10, the program's side: a row sorted by insertion.
  Layer 10, the program's side: a part of a row reversed.
  Layer 10, the program's side: a row sorted as a heap.
-/
import Derived.Test.YthkbmpocfpbkoaaDoorS1
import Derived.Test.YthkbmpocfpbkoaaDoorK1
import Derived.BigQuiet
import Derived.BigRegion
namespace Go.Proofs.YthkbmpocfpbkoaaDoor
open Go.RowKit Go.Sort

/-- Less, as the rounds of the sort want it. -/
theorem sless_any (x y : Nat) (W : World) : Calls Tryd.prog 111 #[.int .u64 (x : Int), .int .u64 (y : Int)] W fun r W' => r = .returned (.bool (ltN x y)) ∧ W' = W :=
  pless_any x y W
theorem ins_go (a j : Nat) (d : Array Nat) (hj : a < j) (hl : ltN d[j]! d[j - 1]! = true) : insInner ltN a j d = insInner ltN a (j - 1) (swp d j (j - 1)) := by
  obtain ⟨k, rfl⟩ : ∃ k, j = k + 1 := ⟨j - 1, by omega⟩
  rw [Nat.add_sub_cancel] at hl ⊢
  rw [insInner, hl, if_pos (by simpa using hj)]
theorem ins_stop (a j : Nat) (d : Array Nat) (h : j ≤ a ∨ ltN d[j]! d[j - 1]! = false) : insInner ltN a j d = d := by
  cases j with
  | zero => rw [insInner]
  | succ k =>
    rw [Nat.add_sub_cancel] at h
    rw [insInner, if_neg]
    rcases h with h | h
    · simp; omega
    · simp [h]
theorem ins_next (a z i : Nat) (d : Array Nat) (h : i < z) : insOuter ltN a z i d = insOuter ltN a z (i + 1) (insInner ltN a i d) := by rw [insOuter, if_pos h]
theorem ins_end (a z i : Nat) (d : Array Nat) (h : ¬ i < z) : insOuter ltN a z i d = d := by rw [insOuter, if_neg h]
theorem swp_size' (d : Array Nat) (i j : Nat) : (swp d i j).size = d.size := by simp [swp]
set_option maxRecDepth 100000 in
set_option maxHeartbeats 1000000 in
theorem insertion_any (b c a z n : Nat) (d : Array Nat) (sp : Array Value) (W : World) (h : At W b (cel d sp) 33) (hn : d.size = n) (haz : a ≤ z) (hz : z ≤ n) (hs : n ≤ 1000000) :
    Calls Tryd.prog 125 #[.slice (some ⟨b, 0, none⟩) n c, .int .i64 (a : Int), .int .i64 (z : Int)] W fun e w' => e = .returned (.tuple #[]) ∧ Sw W b sp (insertionSort ltN d a z) w' := by
  obtain ⟨o, ho⟩ : ∃ o, o = 0 := ⟨_, rfl⟩
  rw [← ho]
  have HO := hid ho
  have HST := hid (Sw.start h)
  have HLS := hid (fun (x y : Nat) (V : World) => sless_any x y V)
  have HN := hid hn
  have HB := hid (show a ≤ z ∧ z ≤ n ∧ n ≤ 1000000 from ⟨haz, hz, hs⟩)
  clear h hn ho haz hz hs
  obtain ⟨a1, ha1⟩ : ∃ m, m = a + 1 := ⟨_, rfl⟩
  have e1 : (a : Int) + 1 = (a1 : Int) := by omega
  have ew1 : IntKind.i64.wrap (a1 : Int) = (a1 : Int) := by rw [IntKind.wrap_i64] <;> have := HB.out <;> omega
  have HA1 := hid ha1
  clear ha1
  go_enter Tryd.func125, Tryd.ntmps125
  go_wp2
  go_loopw [6] (fun vi wr => ∃ (i : Nat) (dk : Array Nat), vi = .int .i64 (i : Int) ∧ a < i ∧ i ≤ z + 1 ∧ Hid (dk.size = n ∧ Sw W b sp dk wr ∧ insOuter ltN a z i dk = insertionSort ltN d a z)) (fun vi _ => z + 1 - (intOf vi).toNat)
  case atStart => exact ⟨a1, d, rfl, by have := HA1.out; omega, by have := HA1.out; have := HB.out; omega, hid ⟨HN.out, HST.out, by rw [HA1.out]; rfl⟩⟩
  case round =>
    obtain ⟨i, dk, rfl, hai, hiz, HK⟩ := hrel
    by_cases hlt : i < z
    · have d1 : decide ((i : Int) < (z : Int)) = true := by simp; omega
      have d1n : decide (i < z) = true := by simpa using hlt
      obtain ⟨i1, hi1⟩ : ∃ m, m = i + 1 := ⟨_, rfl⟩
      have e2 : (i : Int) + 1 = (i1 : Int) := by omega
      have ew2 : IntKind.i64.wrap (i1 : Int) = (i1 : Int) := by rw [IntKind.wrap_i64] <;> have := HB.out <;> omega
      have HI := hid (show i < z ∧ a < i1 ∧ i1 ≤ z + 1 ∧ z + 1 - i1 < z + 1 - i ∧ i1 = i + 1 ∧ a < i by omega)
      clear hlt hi1 hai hiz
      go_wp2
      go_loopw [7] (fun vj wr2 => ∃ (j : Nat) (dj : Array Nat), vj = .int .i64 (j : Int) ∧ a ≤ j ∧ j ≤ i ∧ Hid (dj.size = n ∧ Sw W b sp dj wr2 ∧ insInner ltN a j dj = insInner ltN a i dk)) (fun vj _ => (intOf vj).toNat)
      case atStart => exact ⟨i, dk, rfl, by have := HI.out; omega, Nat.le_refl _, hid ⟨HK.out.1, HK.out.2.1, rfl⟩⟩
      case round =>
        obtain ⟨j, dj, rfl, haj, hji, HJ⟩ := hrel
        have HOUT := hid (fun (V : World) (hst : j ≤ a ∨ ltN dj[j]! dj[j - 1]! = false) (hV : Sw W b sp dj V) => show dj.size = n ∧ Sw W b sp dj V ∧ insOuter ltN a z i1 dj = insertionSort ltN d a z from
          ⟨HJ.out.1, hV, by rw [← HK.out.2.2, ins_next a z i dk HI.out.1, ← HJ.out.2.2, ins_stop a j dj hst, HI.out.2.2.2.2.1]⟩)
        by_cases hja : a < j
        · have d2 : decide ((a : Int) < (j : Int)) = true := by simp; omega
          have d2n : decide (a < j) = true := by simpa using hja
          obtain ⟨j1, hj1⟩ : ∃ m, m = j - 1 := ⟨_, rfl⟩
          have e3 : (j : Int) - 1 = (j1 : Int) := by omega
          have ew3 : IntKind.i64.wrap (j1 : Int) = (j1 : Int) := by rw [IntKind.wrap_i64] <;> have := HB.out <;> have := HI.out <;> omega
          have hjn : j < dj.size := by have := HB.out; have := HI.out; have := HJ.out.1; omega
          have hjn1 : j1 < dj.size := by omega
          have ik0 : (j : Int) < (n : Int) := by have := HJ.out.1; omega
          have ik1 : (j1 : Int) < (n : Int) := by have := HJ.out.1; omega
          have HPK := hid (fun (V : World) (hV : Sw W b sp dj V) => Sw.pack HO.out hjn hjn1 V hV)
          obtain ⟨x, hx⟩ : ∃ x, x = dj[j]! := ⟨_, rfl⟩
          obtain ⟨y, hy⟩ : ∃ x, x = dj[j1]! := ⟨_, rfl⟩
          obtain ⟨p0, hp0⟩ : ∃ x, x = o + j := ⟨_, rfl⟩
          obtain ⟨p1, hp1⟩ : ∃ x, x = o + j1 := ⟨_, rfl⟩
          rw [← hx, ← hy, ← hp0, ← hp1] at HPK
          have ep0 := hp0.symm
          have ep1 := hp1.symm
          obtain ⟨c0, c1, f0, f1, -⟩ := HPK.out wr HJ.out.2.1
          have HV := hid HJ.out.2.1
          have HQ := hid (fun (V : World) => sless_any x y V)
          cases hl : ltN x y with
          | true =>
            rw [hl] at HQ
            have HNX := hid (show (swp dj j j1).size = n ∧ insInner ltN a j1 (swp dj j j1) = insInner ltN a i dk from ⟨by rw [swp_size']; exact HJ.out.1, by
              rw [← HJ.out.2.2, ins_go a j dj hja (by rw [← hj1, ← hx, ← hy]; exact hl), ← hj1]⟩)
            have HM := hid (show a ≤ j1 ∧ j1 ≤ i ∧ j1 < j by omega)
            clear hx hy hp0 hp1 hl hjn hjn1 hj1 hja haj hji HOUT HJ
            go_wp2
            go_quiet (first | (go_at_call 111; refine Calls.quiet_of_same (HQ.out _)))
            have V1 := hid (HV.out.drewN nq)
            clear c0 c1 f0 f1 HV
            generalize wr.drewN nq = V at V1 ⊢
            obtain ⟨c0, c1, f0, f1, hsw⟩ := HPK.out V V1.out
            have HSW := hid hsw
            clear hsw
            go_wp2
            go_region
            clear c0 c1 f0 f1
            go_wp2
            exact ⟨⟨j1, swp dj j j1, rfl, HM.out.1, HM.out.2.1, hid ⟨HNX.out.1, HSW.out, HNX.out.2⟩⟩, by
              show ((j1 : Int)).toNat < ((j : Int)).toNat
              rw [Int.toNat_natCast, Int.toNat_natCast]
              exact HM.out.2.2⟩
          | false =>
            rw [hl] at HQ
            have HW := hid (fun (q : Nat) => HOUT.out (wr.drewN q) (.inr (by rw [← hj1, ← hx, ← hy]; exact hl)) (HJ.out.2.1.drewN q))
            clear hx hy hp0 hp1 hl hjn hjn1 hj1 hja haj hji HOUT HJ HPK
            go_wp2
            go_quiet (first | (go_at_call 111; refine Calls.quiet_of_same (HQ.out _)))
            have V1 := hid (HW.out nq)
            clear c0 c1 f0 f1 HV HW
            generalize wr.drewN nq = V at V1 ⊢
            go_wp2
            exact ⟨⟨i1, dj, rfl, HI.out.2.1, HI.out.2.2.1, V1⟩, by
              show z + 1 - ((i1 : Int)).toNat < z + 1 - ((i : Int)).toNat
              rw [Int.toNat_natCast, Int.toNat_natCast]
              exact HI.out.2.2.2.1⟩
        · have d2 : decide ((a : Int) < (j : Int)) = false := by simp; omega
          have d2n : decide (a < j) = false := by simpa using hja
          have HW := hid (fun (q : Nat) => HOUT.out (wr.drewN q) (.inl (by omega)) (HJ.out.2.1.drewN q))
          clear hja haj hji HOUT HJ
          go_wp2
          go_quiet (fail)
          have V1 := hid (HW.out nq)
          clear HW
          generalize wr.drewN nq = V at V1 ⊢
          go_wp2
          exact ⟨⟨i1, dj, rfl, HI.out.2.1, HI.out.2.2.1, V1⟩, by
            show z + 1 - ((i1 : Int)).toNat < z + 1 - ((i : Int)).toNat
            rw [Int.toNat_natCast, Int.toNat_natCast]
            exact HI.out.2.2.2.1⟩
    · have d1 : decide ((i : Int) < (z : Int)) = false := by simp; omega
      have d1n : decide (i < z) = false := by simpa using hlt
      have HE := hid (show insertionSort ltN d a z = dk by rw [← HK.out.2.2, ins_end a z i dk hlt])
      clear hlt hai hiz
      go_wp2
      go_end0
      exact ⟨rfl, by rw [HE.out]; exact HK.out.2.1⟩
end Go.Proofs.YthkbmpocfpbkoaaDoor

namespace Go.Proofs.YthkbmpocfpbkoaaDoor
open Go.RowKit Go.Sort

set_option maxRecDepth 100000 in
set_option maxHeartbeats 1000000 in
theorem reverse_any (b c a z n : Nat) (d : Array Nat) (sp : Array Value) (W : World) (h : At W b (cel d sp) 33) (hn : d.size = n) (haz : a < z) (hz : z ≤ n) (hs : n ≤ 1000000) :
    Calls Tryd.prog 129 #[.slice (some ⟨b, 0, none⟩) n c, .int .i64 (a : Int), .int .i64 (z : Int)] W fun e w' => e = .returned (.tuple #[]) ∧ ∃ d', Sw W b sp d' w' ∧ PermIn a z d d' := by
  obtain ⟨o, ho⟩ : ∃ o, o = 0 := ⟨_, rfl⟩
  rw [← ho]
  have HO := hid ho
  have HST := hid (Sw.start h)
  have HN := hid hn
  have HB := hid (show a < z ∧ z ≤ n ∧ n ≤ 1000000 from ⟨haz, hz, hs⟩)
  obtain ⟨z1, hz1⟩ : ∃ m, m = z - 1 := ⟨_, rfl⟩
  have e1 : (z : Int) - 1 = (z1 : Int) := by omega
  have ew1 : IntKind.i64.wrap (z1 : Int) = (z1 : Int) := by rw [IntKind.wrap_i64] <;> have := HB.out <;> omega
  have HZ1 := hid hz1
  clear h hn ho haz hz hs hz1
  go_enter Tryd.func129, Tryd.ntmps129
  go_wp2
  go_loopw [6, 7] (fun vi vj wr => ∃ (i j : Nat) (dk : Array Nat), vi = .int .i64 (i : Int) ∧ vj = .int .i64 (j : Int) ∧ a ≤ i ∧ i ≤ j + 1 ∧ j < z ∧ Hid (dk.size = n ∧ Sw W b sp dk wr ∧ PermIn a z d dk)) (fun _ vj _ => (intOf vj).toNat)
  case atStart => exact ⟨a, z1, d, rfl, rfl, Nat.le_refl _, by have := HZ1.out; have := HB.out; omega, by have := HZ1.out; have := HB.out; omega, hid ⟨HN.out, HST.out, permIn_refl _ _ _⟩⟩
  case round =>
    obtain ⟨i, j, dk, rfl, rfl, hai, hij, hjz, HK⟩ := hrel
    by_cases hlt : i < j
    · have d1 : decide ((i : Int) < (j : Int)) = true := by simp; omega
      have d1n : decide (i < j) = true := by simpa using hlt
      obtain ⟨i1, hi1⟩ : ∃ m, m = i + 1 := ⟨_, rfl⟩
      have e2 : (i : Int) + 1 = (i1 : Int) := by omega
      have ew2 : IntKind.i64.wrap (i1 : Int) = (i1 : Int) := by rw [IntKind.wrap_i64] <;> have := HB.out <;> omega
      obtain ⟨j1, hj1⟩ : ∃ m, m = j - 1 := ⟨_, rfl⟩
      have e3 : (j : Int) - 1 = (j1 : Int) := by omega
      have ew3 : IntKind.i64.wrap (j1 : Int) = (j1 : Int) := by rw [IntKind.wrap_i64] <;> have := HB.out <;> omega
      have hin : i < dk.size := by have := HB.out; have := HK.out.1; omega
      have hjn : j < dk.size := by have := HB.out; have := HK.out.1; omega
      have ik0 : (i : Int) < (n : Int) := by have := HB.out; omega
      have ik1 : (j : Int) < (n : Int) := by have := HB.out; omega
      have hpk := Sw.pack HO.out hin hjn wr HK.out.2.1
      obtain ⟨x, hx⟩ : ∃ x, x = dk[i]! := ⟨_, rfl⟩
      obtain ⟨y, hy⟩ : ∃ x, x = dk[j]! := ⟨_, rfl⟩
      obtain ⟨p0, hp0⟩ : ∃ x, x = o + i := ⟨_, rfl⟩
      obtain ⟨p1, hp1⟩ : ∃ x, x = o + j := ⟨_, rfl⟩
      rw [← hx, ← hy, ← hp0, ← hp1] at hpk
      have ep0 := hp0.symm
      have ep1 := hp1.symm
      obtain ⟨c0, c1, f0, f1, hsw⟩ := hpk
      have hne : ¬ p0 = p1 := by omega
      have hne' : ¬ p1 = p0 := by omega
      have HSW := hid hsw
      have HNX := hid (show (swp dk i j).size = n ∧ PermIn a z d (swp dk i j) from ⟨by rw [swp_size']; exact HK.out.1, permIn_trans _ _ _ _ _ HK.out.2.2 (swp_permIn dk a z i j hai (by omega) (by omega) hjz (by have := HB.out; have := HK.out.1; omega))⟩)
      have HM := hid (show a ≤ i1 ∧ i1 ≤ j1 + 1 ∧ j1 < z ∧ j1 < j by omega)
      clear hsw hx hy hp0 hp1 hin hjn hi1 hj1 hlt hai hij hjz HK
      go_wp2
      go_region
      clear c0 c1 f0 f1 hne hne'
      go_wp2
      exact ⟨⟨i1, j1, swp dk i j, rfl, rfl, HM.out.1, HM.out.2.1, HM.out.2.2.1, hid ⟨HNX.out.1, HSW.out, HNX.out.2⟩⟩, by
        show ((j1 : Int)).toNat < ((j : Int)).toNat
        rw [Int.toNat_natCast, Int.toNat_natCast]
        exact HM.out.2.2.2⟩
    · have d1 : decide ((i : Int) < (j : Int)) = false := by simp; omega
      have d1n : decide (i < j) = false := by simpa using hlt
      clear hlt hai hij hjz
      go_wp2
      go_end0
      exact ⟨rfl, dk, HK.out.2.1, HK.out.2.2⟩
end Go.Proofs.YthkbmpocfpbkoaaDoor

namespace Go.Proofs.YthkbmpocfpbkoaaDoor
open Go.RowKit Go.Sort

theorem sd_end {hi F r : Nat} (d : Array Nat) (h : ¬ 2 * r + 1 < hi) : siftDown ltN hi F r d = d := by rw [siftDown, dif_pos (by omega)]
theorem sd_right {hi F r : Nat} (d : Array Nat) (h2 : 2 * r + 2 < hi) (hc : ltN d[F + (2 * r + 1)]! d[F + (2 * r + 2)]! = true) :
    siftDown ltN hi F r d = if ltN d[F + r]! d[F + (2 * r + 2)]! then siftDown ltN hi F (2 * r + 2) (swp d (F + r) (F + (2 * r + 2))) else d := by
  rw [siftDown, dif_neg (by omega), show F + (2 * r + 1) + 1 = F + (2 * r + 2) by omega, hc]
  have h3 : 2 * r + 1 + 1 < hi := by omega
  cases ltN d[F + r]! d[F + (2 * r + 2)]! <;> simp [h3]
theorem sd_left {hi F r : Nat} (d : Array Nat) (h1 : 2 * r + 1 < hi) (hc : 2 * r + 2 < hi → ltN d[F + (2 * r + 1)]! d[F + (2 * r + 2)]! = false) :
    siftDown ltN hi F r d = if ltN d[F + r]! d[F + (2 * r + 1)]! then siftDown ltN hi F (2 * r + 1) (swp d (F + r) (F + (2 * r + 1))) else d := by
  rw [siftDown, dif_neg (by omega), show F + (2 * r + 1) + 1 = F + (2 * r + 2) by omega]
  by_cases h3 : 2 * r + 2 < hi
  · rw [hc h3]
    cases ltN d[F + r]! d[F + (2 * r + 1)]! <;> simp
  · have h4 : ¬ 2 * r + 1 + 1 < hi := by omega
    cases ltN d[F + r]! d[F + (2 * r + 1)]! <;> simp [h4]
set_option maxRecDepth 100000 in
set_option maxHeartbeats 4000000 in
theorem sift_any (b c lo hi F n : Nat) (d : Array Nat) (sp : Array Value) (W : World) (h : At W b (cel d sp) 33) (hn : d.size = n) (hlo : lo ≤ hi) (hz : F + hi ≤ n) (hs : n ≤ 1000000) :
    Calls Tryd.prog 135 #[.slice (some ⟨b, 0, none⟩) n c, .int .i64 (lo : Int), .int .i64 (hi : Int), .int .i64 (F : Int)] W fun e w' => e = .returned (.tuple #[]) ∧ Sw W b sp (siftDown ltN hi F lo d) w' := by
  obtain ⟨o, ho⟩ : ∃ o, o = 0 := ⟨_, rfl⟩
  rw [← ho]
  have HO := hid ho
  have HST := hid (Sw.start h)
  have HN := hid hn
  have HB := hid (show lo ≤ hi ∧ F + hi ≤ n ∧ n ≤ 1000000 from ⟨hlo, hz, hs⟩)
  clear h hn ho hlo hz hs
  go_enter Tryd.func135, Tryd.ntmps135
  go_wp2
  go_loopw [8] (fun v wr => ∃ (r : Nat) (dk : Array Nat), v = .int .i64 (r : Int) ∧ r ≤ hi ∧ Hid (dk.size = n ∧ Sw W b sp dk wr ∧ siftDown ltN hi F r dk = siftDown ltN hi F lo d)) (fun v _ => hi - (intOf v).toNat)
  case atStart => exact ⟨lo, d, rfl, HB.out.1, hid ⟨HN.out, HST.out, rfl⟩⟩
  case round =>
    obtain ⟨r, dk, rfl, hr, HK⟩ := hrel
    obtain ⟨k1, hk1⟩ : ∃ m, m = 2 * r := ⟨_, rfl⟩
    have e1 : (2 : Int) * (r : Int) = (k1 : Int) := by omega
    have ew1 : IntKind.i64.wrap (k1 : Int) = (k1 : Int) := by rw [IntKind.wrap_i64] <;> have := HB.out <;> omega
    obtain ⟨c1, hc1⟩ : ∃ m, m = 2 * r + 1 := ⟨_, rfl⟩
    have e2 : (k1 : Int) + 1 = (c1 : Int) := by omega
    have ew2 : IntKind.i64.wrap (c1 : Int) = (c1 : Int) := by rw [IntKind.wrap_i64] <;> have := HB.out <;> omega
    by_cases hlt : c1 < hi
    · have d1 : decide ((hi : Int) ≤ (c1 : Int)) = false := by simp; omega
      have d1n : decide (hi ≤ c1) = false := by simp; omega
      obtain ⟨c2, hc2⟩ : ∃ m, m = 2 * r + 2 := ⟨_, rfl⟩
      have e3 : (c1 : Int) + 1 = (c2 : Int) := by omega
      have ew3 : IntKind.i64.wrap (c2 : Int) = (c2 : Int) := by rw [IntKind.wrap_i64] <;> have := HB.out <;> omega
      obtain ⟨q0, hq0⟩ : ∃ m, m = F + r := ⟨_, rfl⟩
      have e4 : (F : Int) + (r : Int) = (q0 : Int) := by omega
      have ew4 : IntKind.i64.wrap (q0 : Int) = (q0 : Int) := by rw [IntKind.wrap_i64] <;> have := HB.out <;> omega
      obtain ⟨q1, hq1⟩ : ∃ m, m = F + c1 := ⟨_, rfl⟩
      have e5 : (F : Int) + (c1 : Int) = (q1 : Int) := by omega
      have ew5 : IntKind.i64.wrap (q1 : Int) = (q1 : Int) := by rw [IntKind.wrap_i64] <;> have := HB.out <;> omega
      obtain ⟨q2, hq2⟩ : ∃ m, m = F + c2 := ⟨_, rfl⟩
      have e6 : (q1 : Int) + 1 = (q2 : Int) := by omega
      have e7 : (F : Int) + (c2 : Int) = (q2 : Int) := by omega
      have ew6 : IntKind.i64.wrap (q2 : Int) = (q2 : Int) := by rw [IntKind.wrap_i64] <;> have := HB.out <;> omega
      have h0 : q0 < dk.size := by have := HB.out; have := HK.out.1; omega
      have h1 : q1 < dk.size := by have := HB.out; have := HK.out.1; omega
      have ik0 : (q0 : Int) < (n : Int) := by have := HB.out; omega
      have ik1 : (q1 : Int) < (n : Int) := by have := HB.out; omega
      by_cases hlt2 : c2 < hi
      · have d2 : decide ((c2 : Int) < (hi : Int)) = true := by simp; omega
        have d2n : decide (c2 < hi) = true := by simpa using hlt2
        have h2 : q2 < dk.size := by have := HB.out; have := HK.out.1; omega
        have ik2 : (q2 : Int) < (n : Int) := by have := HB.out; omega
        cases hl : ltN dk[q1]! dk[q2]! with
        | true =>
          have HSD := hid (show siftDown ltN hi F lo d = if ltN dk[q0]! dk[q2]! then siftDown ltN hi F c2 (swp dk q0 q2) else dk by
            rw [← HK.out.2.2, hq0, hq2, hc2]
            exact sd_right dk (by omega) (by rw [← hc1, ← hc2, ← hq1, ← hq2]; exact hl))
          have HM := hid (show c2 ≤ hi ∧ hi - c2 < hi - r by omega)
          have HPK := hid (fun (V : World) (hV : Sw W b sp dk V) => Sw.pack HO.out h0 h2 V hV)
          have HP2 := hid (fun (V : World) (hV : Sw W b sp dk V) => Sw.pack HO.out h1 h2 V hV)
          have HSZ := hid (show (swp dk q0 q2).size = n by rw [swp_size']; exact HK.out.1)
          obtain ⟨p0, hp0⟩ : ∃ x, x = o + q0 := ⟨_, rfl⟩
          obtain ⟨p1, hp1⟩ : ∃ x, x = o + q1 := ⟨_, rfl⟩
          obtain ⟨p2, hp2⟩ : ∃ x, x = o + q2 := ⟨_, rfl⟩
          have ep0 := hp0.symm
          have ep1 := hp1.symm
          have ep2 := hp2.symm
          rw [← hp0, ← hp2] at HPK
          have hne : ¬ p0 = p2 := by omega
          have hne' : ¬ p2 = p0 := by omega
          obtain ⟨x0, hx0⟩ : ∃ x, x = dk[q0]! := ⟨_, rfl⟩
          obtain ⟨x1, hx1⟩ : ∃ x, x = dk[q1]! := ⟨_, rfl⟩
          obtain ⟨x2, hx2⟩ : ∃ x, x = dk[q2]! := ⟨_, rfl⟩
          rw [← hx0, ← hx2] at HPK HSD
          rw [← hp1, ← hp2, ← hx1, ← hx2] at HP2
          rw [← hx1, ← hx2] at hl
          have HQ := hid (fun (V : World) => sless_any x1 x2 V)
          rw [hl] at HQ
          obtain ⟨g0, g1, -, -, -⟩ := HP2.out wr HK.out.2.1
          have HV := hid HK.out.2.1
          have HR := hid (fun (V : World) => sless_any x0 x2 V)
          cases hm : ltN x0 x2 with
          | true =>
            rw [hm] at HR HSD
            rw [if_pos rfl] at HSD
            clear hk1 hc1 hc2 hq0 hq1 hq2 hp0 hp1 hp2 hx0 hx1 hx2 hlt hr h0 h1 hm h2 hl hlt2
            go_wp2
            go_quiet (first | (go_at_call 111; refine Calls.quiet_of_same (HQ.out _)))
            have V1 := hid (HV.out.drewN nq)
            clear g0 g1 HV HK HP2 HQ
            generalize wr.drewN nq = W1 at V1 ⊢
            obtain ⟨a0, a1, -, -, -⟩ := HPK.out W1 V1.out
            go_wp2
            revert nq
            intro nq1
            go_quiet (first | (go_at_call 111; refine Calls.quiet_of_same (HR.out _)))
            have V2 := hid (V1.out.drewN nq)
            clear a0 a1 V1 HR
            generalize W1.drewN nq = W2 at V2 ⊢
            obtain ⟨a0, a1, f0, f1, hsw⟩ := HPK.out W2 V2.out
            have HSW := hid hsw
            clear hsw
            go_wp2
            go_region
            clear a0 a1 f0 f1 hne hne'
            go_wp2
            exact ⟨⟨c2, swp dk q0 q2, rfl, HM.out.1, hid ⟨HSZ.out, HSW.out, HSD.out.symm⟩⟩, by
              show hi - ((c2 : Int)).toNat < hi - ((r : Int)).toNat
              rw [Int.toNat_natCast, Int.toNat_natCast]
              exact HM.out.2⟩
          | false =>
            rw [hm] at HR HSD
            rw [if_neg (by decide)] at HSD
            clear hk1 hc1 hc2 hq0 hq1 hq2 hp0 hp1 hp2 hx0 hx1 hx2 hlt hr h0 h1 hm h2 hl hlt2
            go_wp2
            go_quiet (first | (go_at_call 111; refine Calls.quiet_of_same (HQ.out _)))
            have V1 := hid (HV.out.drewN nq)
            clear g0 g1 HV HK HP2 HQ
            generalize wr.drewN nq = W1 at V1 ⊢
            obtain ⟨a0, a1, -, -, -⟩ := HPK.out W1 V1.out
            go_wp2
            revert nq
            intro nq1
            go_quiet (first | (go_at_call 111; refine Calls.quiet_of_same (HR.out _)))
            have V2 := hid (V1.out.drewN nq)
            clear a0 a1 V1 HR
            generalize W1.drewN nq = W2 at V2 ⊢
            go_wp2
            (try simp only [Exit.inBlock, Exit.then]); refine bodyPost_ret (results_none rfl _ _ _) rfl ?_
            exact ⟨rfl, by rw [HSD.out]; exact V2.out⟩
        | false =>
          have HSD := hid (show siftDown ltN hi F lo d = if ltN dk[q0]! dk[q1]! then siftDown ltN hi F c1 (swp dk q0 q1) else dk by
            rw [← HK.out.2.2, hq0, hq1, hc1]
            exact sd_left dk (by omega) (fun _ => by rw [← hc1, ← hc2, ← hq1, ← hq2]; exact hl))
          have HM := hid (show c1 ≤ hi ∧ hi - c1 < hi - r by omega)
          have HPK := hid (fun (V : World) (hV : Sw W b sp dk V) => Sw.pack HO.out h0 h1 V hV)
          have HP2 := hid (fun (V : World) (hV : Sw W b sp dk V) => Sw.pack HO.out h1 h2 V hV)
          have HSZ := hid (show (swp dk q0 q1).size = n by rw [swp_size']; exact HK.out.1)
          obtain ⟨p0, hp0⟩ : ∃ x, x = o + q0 := ⟨_, rfl⟩
          obtain ⟨p1, hp1⟩ : ∃ x, x = o + q1 := ⟨_, rfl⟩
          obtain ⟨p2, hp2⟩ : ∃ x, x = o + q2 := ⟨_, rfl⟩
          have ep0 := hp0.symm
          have ep1 := hp1.symm
          have ep2 := hp2.symm
          rw [← hp0, ← hp1] at HPK
          have hne : ¬ p0 = p1 := by omega
          have hne' : ¬ p1 = p0 := by omega
          obtain ⟨x0, hx0⟩ : ∃ x, x = dk[q0]! := ⟨_, rfl⟩
          obtain ⟨x1, hx1⟩ : ∃ x, x = dk[q1]! := ⟨_, rfl⟩
          obtain ⟨x2, hx2⟩ : ∃ x, x = dk[q2]! := ⟨_, rfl⟩
          rw [← hx0, ← hx1] at HPK HSD
          rw [← hp1, ← hp2, ← hx1, ← hx2] at HP2
          rw [← hx1, ← hx2] at hl
          have HQ := hid (fun (V : World) => sless_any x1 x2 V)
          rw [hl] at HQ
          obtain ⟨g0, g1, -, -, -⟩ := HP2.out wr HK.out.2.1
          have HV := hid HK.out.2.1
          have HR := hid (fun (V : World) => sless_any x0 x1 V)
          cases hm : ltN x0 x1 with
          | true =>
            rw [hm] at HR HSD
            rw [if_pos rfl] at HSD
            clear hk1 hc1 hc2 hq0 hq1 hq2 hp0 hp1 hp2 hx0 hx1 hx2 hlt hr h0 h1 hm h2 hl hlt2
            go_wp2
            go_quiet (first | (go_at_call 111; refine Calls.quiet_of_same (HQ.out _)))
            have V1 := hid (HV.out.drewN nq)
            clear g0 g1 HV HK HP2 HQ
            generalize wr.drewN nq = W1 at V1 ⊢
            obtain ⟨a0, a1, -, -, -⟩ := HPK.out W1 V1.out
            go_wp2
            revert nq
            intro nq1
            go_quiet (first | (go_at_call 111; refine Calls.quiet_of_same (HR.out _)))
            have V2 := hid (V1.out.drewN nq)
            clear a0 a1 V1 HR
            generalize W1.drewN nq = W2 at V2 ⊢
            obtain ⟨a0, a1, f0, f1, hsw⟩ := HPK.out W2 V2.out
            have HSW := hid hsw
            clear hsw
            go_wp2
            go_region
            clear a0 a1 f0 f1 hne hne'
            go_wp2
            exact ⟨⟨c1, swp dk q0 q1, rfl, HM.out.1, hid ⟨HSZ.out, HSW.out, HSD.out.symm⟩⟩, by
              show hi - ((c1 : Int)).toNat < hi - ((r : Int)).toNat
              rw [Int.toNat_natCast, Int.toNat_natCast]
              exact HM.out.2⟩
          | false =>
            rw [hm] at HR HSD
            rw [if_neg (by decide)] at HSD
            clear hk1 hc1 hc2 hq0 hq1 hq2 hp0 hp1 hp2 hx0 hx1 hx2 hlt hr h0 h1 hm h2 hl hlt2
            go_wp2
            go_quiet (first | (go_at_call 111; refine Calls.quiet_of_same (HQ.out _)))
            have V1 := hid (HV.out.drewN nq)
            clear g0 g1 HV HK HP2 HQ
            generalize wr.drewN nq = W1 at V1 ⊢
            obtain ⟨a0, a1, -, -, -⟩ := HPK.out W1 V1.out
            go_wp2
            revert nq
            intro nq1
            go_quiet (first | (go_at_call 111; refine Calls.quiet_of_same (HR.out _)))
            have V2 := hid (V1.out.drewN nq)
            clear a0 a1 V1 HR
            generalize W1.drewN nq = W2 at V2 ⊢
            go_wp2
            (try simp only [Exit.inBlock, Exit.then]); refine bodyPost_ret (results_none rfl _ _ _) rfl ?_
            exact ⟨rfl, by rw [HSD.out]; exact V2.out⟩
      · have d2 : decide ((c2 : Int) < (hi : Int)) = false := by simp; omega
        have d2n : decide (c2 < hi) = false := by simpa using hlt2
        have HSD := hid (show siftDown ltN hi F lo d = if ltN dk[q0]! dk[q1]! then siftDown ltN hi F c1 (swp dk q0 q1) else dk by
          rw [← HK.out.2.2, hq0, hq1, hc1]
          exact sd_left dk (by omega) (fun hh => by omega))
        have HM := hid (show c1 ≤ hi ∧ hi - c1 < hi - r by omega)
        have HPK := hid (fun (V : World) (hV : Sw W b sp dk V) => Sw.pack HO.out h0 h1 V hV)
        have HSZ := hid (show (swp dk q0 q1).size = n by rw [swp_size']; exact HK.out.1)
        obtain ⟨p0, hp0⟩ : ∃ x, x = o + q0 := ⟨_, rfl⟩
        obtain ⟨p1, hp1⟩ : ∃ x, x = o + q1 := ⟨_, rfl⟩
        obtain ⟨p2, hp2⟩ : ∃ x, x = o + q2 := ⟨_, rfl⟩
        have ep0 := hp0.symm
        have ep1 := hp1.symm
        have ep2 := hp2.symm
        rw [← hp0, ← hp1] at HPK
        have hne : ¬ p0 = p1 := by omega
        have hne' : ¬ p1 = p0 := by omega
        obtain ⟨x0, hx0⟩ : ∃ x, x = dk[q0]! := ⟨_, rfl⟩
        obtain ⟨x1, hx1⟩ : ∃ x, x = dk[q1]! := ⟨_, rfl⟩
        obtain ⟨x2, hx2⟩ : ∃ x, x = dk[q2]! := ⟨_, rfl⟩
        rw [← hx0, ← hx1] at HPK HSD
        have HV := hid HK.out.2.1
        have HR := hid (fun (V : World) => sless_any x0 x1 V)
        cases hm : ltN x0 x1 with
        | true =>
          rw [hm] at HR HSD
          rw [if_pos rfl] at HSD
          clear hk1 hc1 hc2 hq0 hq1 hq2 hp0 hp1 hp2 hx0 hx1 hx2 hlt hr h0 h1 hm hlt2
          go_wp2
          go_quiet (fail)
          have V1 := hid (HV.out.drewN nq)
          clear HV HK
          generalize wr.drewN nq = W1 at V1 ⊢
          obtain ⟨a0, a1, -, -, -⟩ := HPK.out W1 V1.out
          go_wp2
          revert nq
          intro nq1
          go_quiet (first | (go_at_call 111; refine Calls.quiet_of_same (HR.out _)))
          have V2 := hid (V1.out.drewN nq)
          clear a0 a1 V1 HR
          generalize W1.drewN nq = W2 at V2 ⊢
          obtain ⟨a0, a1, f0, f1, hsw⟩ := HPK.out W2 V2.out
          have HSW := hid hsw
          clear hsw
          go_wp2
          go_region
          clear a0 a1 f0 f1 hne hne'
          go_wp2
          exact ⟨⟨c1, swp dk q0 q1, rfl, HM.out.1, hid ⟨HSZ.out, HSW.out, HSD.out.symm⟩⟩, by
            show hi - ((c1 : Int)).toNat < hi - ((r : Int)).toNat
            rw [Int.toNat_natCast, Int.toNat_natCast]
            exact HM.out.2⟩
        | false =>
          rw [hm] at HR HSD
          rw [if_neg (by decide)] at HSD
          clear hk1 hc1 hc2 hq0 hq1 hq2 hp0 hp1 hp2 hx0 hx1 hx2 hlt hr h0 h1 hm hlt2
          go_wp2
          go_quiet (fail)
          have V1 := hid (HV.out.drewN nq)
          clear HV HK
          generalize wr.drewN nq = W1 at V1 ⊢
          obtain ⟨a0, a1, -, -, -⟩ := HPK.out W1 V1.out
          go_wp2
          revert nq
          intro nq1
          go_quiet (first | (go_at_call 111; refine Calls.quiet_of_same (HR.out _)))
          have V2 := hid (V1.out.drewN nq)
          clear a0 a1 V1 HR
          generalize W1.drewN nq = W2 at V2 ⊢
          go_wp2
          (try simp only [Exit.inBlock, Exit.then]); refine bodyPost_ret (results_none rfl _ _ _) rfl ?_
          exact ⟨rfl, by rw [HSD.out]; exact V2.out⟩
    · have d1 : decide ((hi : Int) ≤ (c1 : Int)) = true := by simp; omega
      have d1n : decide (hi ≤ c1) = true := by simp; omega
      have HE := hid (show siftDown ltN hi F lo d = dk by rw [← HK.out.2.2]; exact sd_end dk (by omega))
      clear hlt hr hk1 hc1
      go_wp2
      go_end0
      exact ⟨rfl, by rw [HE.out]; exact HK.out.2.1⟩
theorem hb_next (hi F k : Nat) (d : Array Nat) : heapBuild ltN hi F (k + 1) d = heapBuild ltN hi F k (siftDown ltN hi F k d) := by rw [heapBuild]
theorem hb_end (hi F : Nat) (d : Array Nat) : heapBuild ltN hi F 0 d = d := by rw [heapBuild]
theorem hp_next (F k : Nat) (d : Array Nat) : heapPop ltN F (k + 1) d = heapPop ltN F k (siftDown ltN k F 0 (swp d F (F + k))) := by rw [heapPop]
theorem hp_end (F : Nat) (d : Array Nat) : heapPop ltN F 0 d = d := by rw [heapPop]
theorem sift_size (hi F : Nat) : ∀ (m r : Nat) (d : Array Nat), hi - r ≤ m → (siftDown ltN hi F r d).size = d.size := by
  intro m
  induction m with
  | zero => intro r d h; rw [sd_end d (by omega)]
  | succ m ih =>
    intro r d h
    by_cases h1 : 2 * r + 1 < hi
    · by_cases h2 : 2 * r + 2 < hi ∧ ltN d[F + (2 * r + 1)]! d[F + (2 * r + 2)]! = true
      · rw [sd_right d h2.1 h2.2]
        split
        · rw [ih _ _ (by omega), swp_size']
        · rfl
      · rw [sd_left d h1 (fun h3 => by
          cases hl : ltN d[F + (2 * r + 1)]! d[F + (2 * r + 2)]! with
          | true => exact absurd ⟨h3, hl⟩ h2
          | false => rfl)]
        split
        · rw [ih _ _ (by omega), swp_size']
        · rfl
    · rw [sd_end d h1]
set_option maxRecDepth 100000 in
set_option maxHeartbeats 2000000 in
theorem heap_any (b c a z n : Nat) (d : Array Nat) (sp : Array Value) (W : World) (h : At W b (cel d sp) 33) (hn : d.size = n) (haz : a < z) (hz : z ≤ n) (hs : n ≤ 1000000) :
    Calls Tryd.prog 126 #[.slice (some ⟨b, 0, none⟩) n c, .int .i64 (a : Int), .int .i64 (z : Int)] W fun e w' => e = .returned (.tuple #[]) ∧ Sw W b sp (heapSort ltN d a z) w' := by
  obtain ⟨o, ho⟩ : ∃ o, o = 0 := ⟨_, rfl⟩
  have HO := hid ho
  have HST := hid (Sw.start h)
  have HN := hid hn
  obtain ⟨m, hm⟩ : ∃ m, m = z - a := ⟨_, rfl⟩
  have e1 : (z : Int) - (a : Int) = (m : Int) := by omega
  have ew1 : IntKind.i64.wrap (m : Int) = (m : Int) := by rw [IntKind.wrap_i64] <;> omega
  obtain ⟨m1, hm1⟩ : ∃ k, k = m - 1 := ⟨_, rfl⟩
  have e2 : (m : Int) - 1 = (m1 : Int) := by omega
  have ew2 : IntKind.i64.wrap (m1 : Int) = (m1 : Int) := by rw [IntKind.wrap_i64] <;> omega
  obtain ⟨hf, hhf⟩ : ∃ k, k = m1 / 2 := ⟨_, rfl⟩
  have e3 : (m1 : Int).tdiv 2 = (hf : Int) := by rw [hhf]; exact (Int.ofNat_tdiv m1 2).symm
  have ew3 : IntKind.i64.wrap (hf : Int) = (hf : Int) := by rw [IntKind.wrap_i64] <;> omega
  have HB := hid (show 0 < m ∧ a + m = z ∧ z ≤ n ∧ n ≤ 1000000 ∧ hf < m ∧ m1 + 1 = m by omega)
  have HSP := hid (show heapSort ltN d a z = heapPop ltN a m (heapBuild ltN m a (hf + 1) d) by rw [heapSort, ← hm, ← hm1, ← hhf])
  have HSF := hid (fun (V : World) (dk : Array Nat) (k hi : Nat) (hd : dk.size = n) (hx : Sw W b sp dk V) (hk : k ≤ hi) (hh : a + hi ≤ n) => sift_any b c k hi a n dk sp V hx.at_ hd hk hh hs)
  rw [← ho] at HSF ⊢
  clear h hn haz hz hs hm hm1 hhf ho
  go_enter Tryd.func126, Tryd.ntmps126
  go_wp2
  go_loopw [9] (fun v wr => ∃ (k : Nat) (dk : Array Nat), v = .int .i64 ((k : Int) - 1) ∧ k ≤ hf + 1 ∧ Hid (dk.size = n ∧ Sw W b sp dk wr ∧ heapBuild ltN m a k dk = heapBuild ltN m a (hf + 1) d)) (fun v _ => (intOf v + 1).toNat)
  case atStart => exact ⟨hf + 1, d, by congr 1; omega, Nat.le_refl _, hid ⟨HN.out, HST.out, rfl⟩⟩
  case round =>
    obtain ⟨k, dk, rfl, hk, HK⟩ := hrel
    by_cases hp : 0 < k
    · obtain ⟨i, hi⟩ : ∃ i, k = i + 1 := ⟨k - 1, by omega⟩
      subst hi
      have e4 : ((i + 1 : Nat) : Int) - 1 = (i : Int) := by omega
      rw [e4]
      have d1 : decide ((0 : Int) ≤ (i : Int)) = true := by simp
      obtain ⟨j, hj⟩ : ∃ j : Int, j = (i : Int) - 1 := ⟨_, rfl⟩
      have e5 : (i : Int) - 1 = j := hj.symm
      have ew5 : IntKind.i64.wrap j = j := by rw [IntKind.wrap_i64] <;> have := HB.out <;> omega
      have HC := hid (HSF.out wr dk i m HK.out.1 HK.out.2.1 (by have := HB.out; omega) (by have := HB.out; omega))
      have HNX := hid (show (siftDown ltN m a i dk).size = n ∧ heapBuild ltN m a i (siftDown ltN m a i dk) = heapBuild ltN m a (hf + 1) d from ⟨by rw [sift_size m a m i dk (by omega)]; exact HK.out.1, by rw [← HK.out.2.2, hb_next]⟩)
      have HM := hid (show i ≤ hf + 1 ∧ (j + 1).toNat < ((i : Int) + 1).toNat by omega)
      have HJ := hid hj
      clear hp hk hj
      go_wp2_with (first
        | (go_at_call 135; refine HC.out.mono ?_; rintro r1 w1 ⟨rfl, hw1⟩; have S1 := hid (HK.out.2.1.next hw1); clear hw1))
      exact ⟨⟨i, siftDown ltN m a i dk, by rw [HJ.out], HM.out.1, hid ⟨HNX.out.1, S1.out, HNX.out.2⟩⟩, HM.out.2⟩
    · obtain rfl : k = 0 := by omega
      have d1 : decide ((0 : Int) ≤ ((0 : Nat) : Int) - 1) = false := by decide
      have HD := hid (show heapSort ltN d a z = heapPop ltN a m dk by rw [HSP.out, ← HK.out.2.2, hb_end])
      clear hp hk
      have e4 : ((0 : Nat) : Int) - 1 = -1 := by decide
      rw [e4]
      go_wp2
      go_loopw [10] (fun v wr2 => ∃ (k : Nat) (dj : Array Nat), v = .int .i64 ((k : Int) - 1) ∧ k ≤ m ∧ Hid (dj.size = n ∧ Sw W b sp dj wr2 ∧ heapPop ltN a k dj = heapSort ltN d a z)) (fun v _ => (intOf v + 1).toNat)
      case atStart => exact ⟨m, dk, by congr 1; have := HB.out; omega, Nat.le_refl _, hid ⟨HK.out.1, HK.out.2.1, HD.out.symm⟩⟩
      case round =>
        obtain ⟨k, dj, rfl, hk, HJ⟩ := hrel
        by_cases hp : 0 < k
        · obtain ⟨i, hi⟩ : ∃ i, k = i + 1 := ⟨k - 1, by omega⟩
          subst hi
          have e5 : ((i + 1 : Nat) : Int) - 1 = (i : Int) := by omega
          rw [e5]
          have d1 : decide ((0 : Int) ≤ (i : Int)) = true := by simp
          obtain ⟨j, hj⟩ : ∃ j : Int, j = (i : Int) - 1 := ⟨_, rfl⟩
          have e6 : (i : Int) - 1 = j := hj.symm
          have ew6 : IntKind.i64.wrap j = j := by rw [IntKind.wrap_i64] <;> have := HB.out <;> omega
          obtain ⟨q1, hq1⟩ : ∃ q, q = a + i := ⟨_, rfl⟩
          have e7 : (a : Int) + (i : Int) = (q1 : Int) := by omega
          have ew7 : IntKind.i64.wrap (q1 : Int) = (q1 : Int) := by rw [IntKind.wrap_i64] <;> have := HB.out <;> omega
          have h0 : a < dj.size := by have := HB.out; have := HJ.out.1; omega
          have h1 : q1 < dj.size := by have := HB.out; have := HJ.out.1; omega
          have ik0 : (a : Int) < (n : Int) := by have := HB.out; omega
          have ik1 : (q1 : Int) < (n : Int) := by have := HB.out; omega
          have hpk := Sw.pack HO.out h0 h1 wr HJ.out.2.1
          have HNX := hid (show heapPop ltN a i (siftDown ltN i a 0 (swp dj a q1)) = heapSort ltN d a z ∧ (siftDown ltN i a 0 (swp dj a q1)).size = n from ⟨by rw [← HJ.out.2.2, hp_next, hq1], by rw [sift_size i a i 0 _ (by omega), swp_size']; exact HJ.out.1⟩)
          have HSZ := hid (show (swp dj a q1).size = n by rw [swp_size']; exact HJ.out.1)
          obtain ⟨x0, hx0⟩ : ∃ x, x = dj[a]! := ⟨_, rfl⟩
          obtain ⟨x1, hx1⟩ : ∃ x, x = dj[q1]! := ⟨_, rfl⟩
          obtain ⟨p0, hp0⟩ : ∃ x, x = o + a := ⟨_, rfl⟩
          obtain ⟨p1, hp1⟩ : ∃ x, x = o + q1 := ⟨_, rfl⟩
          rw [← hx0, ← hx1, ← hp0, ← hp1] at hpk
          have ep0 := hp0.symm
          have ep1 := hp1.symm
          have HC := hid (fun (V : World) (hx : Sw W b sp (swp dj a q1) V) => HSF.out V (swp dj a q1) 0 i HSZ.out hx (Nat.zero_le _) (by have := HB.out; omega))
          obtain ⟨c0, c1, f0, f1, hsw⟩ := hpk
          have HSW := hid hsw
          have HM := hid (show i ≤ m ∧ (j + 1).toNat < ((i : Int) + 1).toNat by omega)
          have HJ2 := hid hj
          by_cases hz0 : i = 0
          · have hpp : p1 = p0 := by omega
            have hqq : q1 = a := by omega
            subst hpp
            subst hqq
            have hxx : x1 = x0 := by rw [hx0, hx1]
            subst hxx
            clear hsw hx0 hx1 hp0 hp1 hq1 h0 h1 hj hp hk HJ hz0
            go_wp2
            go_region
            clear c0 c1 f0 f1
            go_wp2_with (first
              | (go_at_call 135; refine (HC.out _ HSW.out).mono ?_; rintro r1 w1 ⟨rfl, hw1⟩; have S1 := hid (HSW.out.next hw1); clear hw1))
            exact ⟨⟨i, _, by rw [HJ2.out], HM.out.1, hid ⟨HNX.out.2, S1.out, HNX.out.1⟩⟩, HM.out.2⟩
          · have hne : ¬ p0 = p1 := by omega
            have hne' : ¬ p1 = p0 := by omega
            clear hsw hx0 hx1 hp0 hp1 hq1 h0 h1 hj hp hk HJ hz0
            go_wp2
            go_region
            clear c0 c1 f0 f1 hne hne'
            go_wp2_with (first
              | (go_at_call 135; refine (HC.out _ HSW.out).mono ?_; rintro r1 w1 ⟨rfl, hw1⟩; have S1 := hid (HSW.out.next hw1); clear hw1))
            exact ⟨⟨i, _, by rw [HJ2.out], HM.out.1, hid ⟨HNX.out.2, S1.out, HNX.out.1⟩⟩, HM.out.2⟩
        · obtain rfl : k = 0 := by omega
          have e5 : ((0 : Nat) : Int) - 1 = -1 := by decide
          rw [e5]
          have HE := hid (show heapSort ltN d a z = dj by rw [← HJ.out.2.2, hp_end])
          clear hp hk
          go_wp2
          go_end0
          exact ⟨rfl, by rw [HE.out]; exact HJ.out.2.1⟩
end Go.Proofs.YthkbmpocfpbkoaaDoor
