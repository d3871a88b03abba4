/-
  Layer 10, the program's side: a row parted at a pivot.
  Layer 10, the program's side: what is as great as the pivot put ahead.
-/
import Derived.Test.YtdegmcfcbndelaaDoorS1
namespace Go.Proofs.YtdegmcfcbndelaaDoor
open Go.RowKit Go.Sort

/-- Where the rounds are: what is less lies ahead of i, what isn't behind j; the pivot lies at a. -/
structure Prt (a z : Nat) (d0 : Array Nat) (i j : Nat) (d : Array Nat) : Prop where
  ai : a < i
  ij : i ≤ j + 1
  jz : j < z
  perm : PermIn a z d0 d
  lo : ∀ t, a < t → t < i → d[t]! < d[a]!
  hi : ∀ t, j < t → t < z → d[a]! ≤ d[t]!
section
variable {a z i j : Nat} {d0 d : Array Nat}
theorem Prt.start {p : Nat} (hz : z ≤ d0.size) (h1 : a ≤ p) (h2 : p < z) : Prt a z d0 (a + 1) (z - 1) (swp d0 a p) :=
  ⟨by omega, by omega, by omega, swp_permIn d0 a z a p (Nat.le_refl _) (by omega) h1 h2 hz, fun t q1 q2 => by omega, fun t q1 q2 => by omega⟩
theorem Prt.up (h : Prt a z d0 i j d) (hle : i ≤ j) (hl : d[i]! < d[a]!) : Prt a z d0 (i + 1) j d :=
  ⟨by have := h.ai; omega, by omega, h.jz, h.perm, fun t q1 q2 => by
    rcases Nat.lt_or_ge t i with q | q
    · exact h.lo t q1 q
    · obtain rfl : t = i := by omega
      exact hl, h.hi⟩
theorem Prt.down (h : Prt a z d0 i j d) (hle : i ≤ j) (hl : d[a]! ≤ d[j]!) : Prt a z d0 i (j - 1) d :=
  ⟨h.ai, by omega, by have := h.jz; omega, h.perm, h.lo, fun t q1 q2 => by
    rcases Nat.lt_or_ge j t with q | q
    · exact h.hi t q q2
    · obtain rfl : t = j := by omega
      exact hl⟩
theorem Prt.swap (h : Prt a z d0 i j d) (hz : z ≤ d0.size) (hle : i ≤ j) (hg : d[a]! ≤ d[i]!) (hl : d[j]! < d[a]!) : Prt a z d0 (i + 1) (j - 1) (swp d i j) := by
  have hij : i < j := by
    rcases Nat.lt_or_ge i j with q | q
    · exact q
    · obtain rfl : i = j := by omega
      omega
  have hs := h.perm.1
  have ha := h.ai
  have hjz := h.jz
  have ea : (swp d i j)[a]! = d[a]! := swp_other d i j a (by omega) (by omega)
  refine ⟨by omega, by omega, by omega, permIn_trans _ _ _ _ _ h.perm (swp_permIn d a z i j (by omega) (by omega) (by omega) hjz (by omega)), fun t q1 q2 => ?_, fun t q1 q2 => ?_⟩
  · rw [ea]
    rcases Nat.lt_or_ge t i with q | q
    · rw [swp_other d i j t (by omega) (by omega)]
      exact h.lo t q1 q
    · obtain rfl : t = i := by omega
      rw [swp_left d t j (by omega) (by omega)]
      exact hl
  · rw [ea]
    rcases Nat.lt_or_ge j t with q | q
    · rw [swp_other d i j t (by omega) (by omega)]
      exact h.hi t q q2
    · obtain rfl : t = j := by omega
      rw [swp_right d i t (by omega)]
      exact hg
theorem Prt.end_ (h : Prt a z d0 i j d) (hz : z ≤ d0.size) (hle : ¬ i ≤ j) : a ≤ j ∧ j < z ∧ PermIn a z d0 (swp d j a) ∧ (∀ t, a ≤ t → t < j → (swp d j a)[t]! < (swp d j a)[j]!) ∧ ∀ t, j < t → t < z → (swp d j a)[j]! ≤ (swp d j a)[t]! := by
  have hs := h.perm.1
  have ha := h.ai
  have hij := h.ij
  have hjz := h.jz
  have ej : (swp d j a)[j]! = d[a]! := by
    by_cases e : j = a
    · subst e
      exact swp_right d j j (by omega)
    · exact swp_left d j a (by omega) e
  refine ⟨by omega, hjz, permIn_trans _ _ _ _ _ h.perm (swp_permIn d a z j a (by omega) hjz (Nat.le_refl _) (by omega) (by omega)), fun t q1 q2 => ?_, fun t q1 q2 => ?_⟩
  · rw [ej]
    by_cases e : t = a
    · subst e
      rw [swp_right d j t (by omega)]
      exact h.lo j q2 (by omega)
    · rw [swp_other d j a t (by omega) e]
      exact h.lo t (by omega) (by omega)
  · rw [ej, swp_other d j a t (by omega) (by omega)]
    exact h.hi t q1 q2
end
/-- What a parted row is. -/
def PartedW (a z : Nat) (d : Array Nat) (m : Nat) (d' : Array Nat) : Prop := a ≤ m ∧ m < z ∧ PermIn a z d d' ∧ (∀ t, a ≤ t → t < m → d'[t]! < d'[m]!) ∧ ∀ t, m < t → t < z → d'[m]! ≤ d'[t]!
set_option maxRecDepth 100000 in
set_option maxHeartbeats 8000000 in
theorem partition_any (b c a z p n : Nat) (d : Array Nat) (sp : Array Value) (W : World) (h : At W b (cel d sp) 23) (hn : d.size = n) (hap : a < p) (hpz : p < z) (hz : z ≤ n) (hs : n ≤ 1000000) :
    Calls Tryd.prog 134 #[.slice (some ⟨b, 0, none⟩) n c, .int .i64 (a : Int), .int .i64 (z : Int), .int .i64 (p : Int)] W fun e w' => ∃ (m : Nat) (f : Bool) (d' : Array Nat), e = .returned (.tuple #[.int .i64 (m : Int), .bool f]) ∧ Sw W b sp d' w' ∧ PartedW a z d m d' := by
  obtain ⟨o, ho⟩ : ∃ o, o = 0 := ⟨_, rfl⟩
  rw [← ho]
  have HO := hid ho
  have HST := hid (Sw.start h)
  have HN := hid hn
  have HSd := hid hn
  have HB := hid (show a < p ∧ p < z ∧ z ≤ n ∧ n ≤ 1000000 from ⟨hap, hpz, hz, hs⟩)
  have ika : (a : Int) < (n : Int) := by omega
  obtain ⟨a1, ha1⟩ : ∃ m, m = a + 1 := ⟨_, rfl⟩
  have ea1 : (a : Int) + 1 = (a1 : Int) := by omega
  have ewa1 : IntKind.i64.wrap (a1 : Int) = (a1 : Int) := by rw [IntKind.wrap_i64] <;> have := HB.out <;> omega
  obtain ⟨z1, hz1⟩ : ∃ m, m = z - 1 := ⟨_, rfl⟩
  have ez1 : (z : Int) - 1 = (z1 : Int) := by omega
  have ewz1 : IntKind.i64.wrap (z1 : Int) = (z1 : Int) := by rw [IntKind.wrap_i64] <;> have := HB.out <;> omega
  have HPR0 := hid (show Prt a z d a1 z1 (swp d a p) by rw [ha1, hz1]; exact Prt.start (by omega) (by omega) hpz)
  clear h hn ho hap hpz hz hs ha1 hz1
  have hi0 : a < d.size := by have := HB.out; have := HSd.out; omega
  have hj0 : p < d.size := by have := HB.out; have := HSd.out; omega
  have iki : (a : Int) < (n : Int) := by have := HSd.out; omega
  have ikj : (p : Int) < (n : Int) := by have := HSd.out; omega
  have hpk := Sw.pack HO.out hi0 hj0 W HST.out
  obtain ⟨y0, hy0⟩ : ∃ x, x = d[a]! := ⟨_, rfl⟩
  obtain ⟨y1, hy1⟩ : ∃ x, x = d[p]! := ⟨_, rfl⟩
  obtain ⟨p0, hp0⟩ : ∃ x, x = o + a := ⟨_, rfl⟩
  obtain ⟨p1, hp1⟩ : ∃ x, x = o + p := ⟨_, rfl⟩
  rw [← hy0, ← hy1, ← hp0, ← hp1] at hpk
  have ep0 := hp0.symm
  have ep1 := hp1.symm
  obtain ⟨c0, c1, f0, f1, hsw⟩ := hpk
  have HSW := hid hsw
  clear hsw
  obtain ⟨dA, hdA⟩ : ∃ x, x = swp d a p := ⟨_, rfl⟩
  have HSdA := hid (show dA.size = n by rw [hdA, swp_size']; exact HSd.out)
  rw [← hdA] at HSW HPR0
  have hne : ¬ p0 = p1 := by have := HB.out; omega
  have hne' : ¬ p1 = p0 := by have := HB.out; omega
  clear hy0 hy1 hp0 hp1 hi0 hj0 hdA
  go_enter Tryd.func134, Tryd.ntmps134
  go_wp2
  go_region
  clear c0 c1 f0 f1 ep0 ep1 iki ikj hne hne'
  go_wp2
  generalize hWA : World.drew _ = WA at HSW ⊢
  clear hWA
  go_loopw [10] (fun v wr => ∃ i1 : Nat, v = .int .i64 (i1 : Int) ∧ Hid (Sw W b sp dA wr ∧ Prt a z d i1 z1 dA)) (fun v _ => z1 + 1 - (intOf v).toNat)
  case atStart => exact ⟨a1, rfl, hid ⟨HSW.out, HPR0.out⟩⟩
  case round =>
    obtain ⟨i1, rfl, HK1⟩ := hrel
    have hij := HK1.out.2.ij
    have hai := HK1.out.2.ai
    have hjz := HK1.out.2.jz
    by_cases hle : i1 ≤ z1
    · have dl : decide ((i1 : Int) ≤ (z1 : Int)) = true := by simp; omega
      have dln : decide (i1 ≤ z1) = true := by simpa using hle
      have hin : i1 < dA.size := by have := HB.out; have := HSdA.out; omega
      have han : a < dA.size := by have := HB.out; have := HSdA.out; omega
      have ik0 : (i1 : Int) < (n : Int) := by have := HSdA.out; omega
      have hpk := Sw.pack HO.out hin han wr HK1.out.1
      obtain ⟨c0, c1, -, -, -⟩ := hpk
      obtain ⟨x1, hx⟩ : ∃ x, x = dA[i1]! := ⟨_, rfl⟩
      obtain ⟨xa1, hxa⟩ : ∃ x, x = dA[a]! := ⟨_, rfl⟩
      obtain ⟨p0, hp0⟩ : ∃ x, x = o + i1 := ⟨_, rfl⟩
      obtain ⟨p1, hp1⟩ : ∃ x, x = o + a := ⟨_, rfl⟩
      rw [← hx, ← hp0] at c0
      rw [← hxa, ← hp1] at c1
      have ep0 := hp0.symm
      have ep1 := hp1.symm
      have HQ := hid (fun (V : World) => sless_any x1 xa1 V)
      have HV := hid HK1.out.1
      cases hl : ltN x1 xa1 with
      | true =>
        rw [hl] at HQ
        rw [ltN_true, hx, hxa] at hl
        obtain ⟨i11, hi1⟩ : ∃ m, m = i1 + 1 := ⟨_, rfl⟩
        have e2 : (i1 : Int) + 1 = (i11 : Int) := by omega
        have ew2 : IntKind.i64.wrap (i11 : Int) = (i11 : Int) := by rw [IntKind.wrap_i64] <;> have := HB.out <;> omega
        have HPN := hid (show Prt a z d i11 z1 dA from by rw [hi1]; exact HK1.out.2.up hle hl)
        have HM := hid (show z1 + 1 - i11 < z1 + 1 - i1 by omega)
        clear hx hxa hp0 hp1 hl hin han hle hij hai hjz hi1 HK1
        go_wp2
        go_quiet (first | (go_at_call 114; refine Calls.quiet_of_same (HQ.out _)))
        have V1 := hid (HV.out.drewN nq)
        clear c0 c1 HV HQ
        generalize wr.drewN nq = W1 at V1 ⊢
        go_wp2
        exact ⟨⟨i11, rfl, hid ⟨V1.out, HPN.out⟩⟩, by
          show z1 + 1 - ((i11 : Int)).toNat < z1 + 1 - ((i1 : Int)).toNat
          rw [Int.toNat_natCast, Int.toNat_natCast]
          exact HM.out⟩
      | false =>
        rw [hl] at HQ
        rw [ltN_false, hx, hxa] at hl
        have HL1 := hid hl
        have HP1 := hid HK1.out.2
        have HLE1 := hid hle
        clear hx hxa hp0 hp1 hl hin han hle hij hai hjz HK1
        go_wp2
        go_quiet (first | (go_at_call 114; refine Calls.quiet_of_same (HQ.out _)))
        have V1 := hid (HV.out.drewN nq)
        clear c0 c1 HV HQ ep0 ep1 ik0
        generalize wr.drewN nq = W1 at V1 ⊢
        clear nq
        go_wp2
        go_loopw [11] (fun v wr => ∃ j2 : Nat, v = .int .i64 (j2 : Int) ∧ Hid (Sw W b sp dA wr ∧ Prt a z d i1 j2 dA ∧ dA[a]! ≤ dA[i1]! ∧ j2 ≤ z1)) (fun v _ => (intOf v).toNat)
        case atStart => exact ⟨z1, rfl, hid ⟨V1.out, HP1.out, HL1.out, Nat.le_refl _⟩⟩
        case round =>
          obtain ⟨j2, rfl, HK2⟩ := hrel
          have hij := HK2.out.2.1.ij
          have hai := HK2.out.2.1.ai
          have hjz := HK2.out.2.1.jz
          by_cases hle : i1 ≤ j2
          · have dl : decide ((i1 : Int) ≤ (j2 : Int)) = true := by simp; omega
            have dln : decide (i1 ≤ j2) = true := by simpa using hle
            have hin : j2 < dA.size := by have := HB.out; have := HSdA.out; omega
            have han : a < dA.size := by have := HB.out; have := HSdA.out; omega
            have ik0 : (j2 : Int) < (n : Int) := by have := HSdA.out; omega
            have hpk := Sw.pack HO.out hin han wr HK2.out.1
            obtain ⟨c0, c1, -, -, -⟩ := hpk
            obtain ⟨x2, hx⟩ : ∃ x, x = dA[j2]! := ⟨_, rfl⟩
            obtain ⟨xa2, hxa⟩ : ∃ x, x = dA[a]! := ⟨_, rfl⟩
            obtain ⟨p0, hp0⟩ : ∃ x, x = o + j2 := ⟨_, rfl⟩
            obtain ⟨p1, hp1⟩ : ∃ x, x = o + a := ⟨_, rfl⟩
            rw [← hx, ← hp0] at c0
            rw [← hxa, ← hp1] at c1
            have ep0 := hp0.symm
            have ep1 := hp1.symm
            have HQ := hid (fun (V : World) => sless_any x2 xa2 V)
            have HV := hid HK2.out.1
            cases hl : ltN x2 xa2 with
            | false =>
              rw [hl] at HQ
              rw [ltN_false, hx, hxa] at hl
              obtain ⟨j21, hi1⟩ : ∃ m, m = j2 - 1 := ⟨_, rfl⟩
              have e2 : (j2 : Int) - 1 = (j21 : Int) := by omega
              have ew2 : IntKind.i64.wrap (j21 : Int) = (j21 : Int) := by rw [IntKind.wrap_i64] <;> have := HB.out <;> omega
              have HPN := hid (show Prt a z d i1 j21 dA ∧ dA[a]! ≤ dA[i1]! ∧ j21 ≤ z1 from by rw [hi1]; exact ⟨HK2.out.2.1.down hle hl, HK2.out.2.2.1, by have := HK2.out.2.2.2; omega⟩)
              have HM := hid (show j21 < j2 by omega)
              clear hx hxa hp0 hp1 hl hin han hle hij hai hjz hi1 HK2
              go_wp2
              go_quiet (first | (go_at_call 114; refine Calls.quiet_of_same (HQ.out _)))
              have V1 := hid (HV.out.drewN nq)
              clear c0 c1 HV HQ
              generalize wr.drewN nq = W1 at V1 ⊢
              go_wp2
              exact ⟨⟨j21, rfl, hid ⟨V1.out, HPN.out⟩⟩, by
                show ((j21 : Int)).toNat < ((j2 : Int)).toNat
                rw [Int.toNat_natCast, Int.toNat_natCast]
                exact HM.out⟩
            | true =>
              rw [hl] at HQ
              rw [ltN_true, hx, hxa] at hl
              have HL2 := hid hl
              have HP2 := hid HK2.out.2
              have HLE2 := hid hle
              clear hx hxa hp0 hp1 hl hin han hle hij hai hjz HK2
              go_wp2
              go_quiet (first | (go_at_call 114; refine Calls.quiet_of_same (HQ.out _)))
              have V2 := hid (HV.out.drewN nq)
              clear c0 c1 HV HQ ep0 ep1 ik0
              generalize wr.drewN nq = W2 at V2 ⊢
              clear nq
              have HLEX := HLE2
              have dg : decide ((j2 : Int) < (i1 : Int)) = false := by have := HLEX.out; simp; omega
              have dgn : decide (j2 < i1) = false := by have := HLEX.out; simp; omega
              have hi0 : i1 < dA.size := by have := HB.out; have := HSdA.out; have := HP2.out.1.jz; have := HLEX.out; omega
              have hj0 : j2 < dA.size := by have := HB.out; have := HSdA.out; have := HP2.out.1.jz; have := HLEX.out; omega
              have iki : (i1 : Int) < (n : Int) := by have := HSdA.out; omega
              have ikj : (j2 : Int) < (n : Int) := by have := HSdA.out; omega
              have hpk := Sw.pack HO.out hi0 hj0 W2 V2.out
              obtain ⟨y0, hy0⟩ : ∃ x, x = dA[i1]! := ⟨_, rfl⟩
              obtain ⟨y1, hy1⟩ : ∃ x, x = dA[j2]! := ⟨_, rfl⟩
              obtain ⟨p0, hp0⟩ : ∃ x, x = o + i1 := ⟨_, rfl⟩
              obtain ⟨p1, hp1⟩ : ∃ x, x = o + j2 := ⟨_, rfl⟩
              rw [← hy0, ← hy1, ← hp0, ← hp1] at hpk
              have ep0 := hp0.symm
              have ep1 := hp1.symm
              obtain ⟨c0, c1, f0, f1, hsw⟩ := hpk
              have HSW := hid hsw
              clear hsw
              have HSdB := hid (show (swp dA i1 j2).size = n by rw [swp_size']; exact HSdA.out)
              have HPB := hid (HP2.out.1.swap (by have := HB.out; have := HSd.out; omega) HLEX.out HP2.out.2.1 HL2.out)
              have hne : ¬ p0 = p1 := by
                intro e
                have e2 : i1 = j2 := by omega
                have h1 := HP2.out.2.1
                have h2 := HL2.out
                rw [e2] at h1
                omega
              have hne' : ¬ p1 = p0 := fun e => hne e.symm
              have hlt1 := HP2.out.1.ai
              have hlt2 := HLEX.out
              obtain ⟨iB, hiB⟩ : ∃ m, m = i1 + 1 := ⟨_, rfl⟩
              have eiB : (i1 : Int) + 1 = (iB : Int) := by omega
              have ewiB : IntKind.i64.wrap (iB : Int) = (iB : Int) := by rw [IntKind.wrap_i64] <;> have := HB.out <;> omega
              obtain ⟨jB, hjB⟩ : ∃ m, m = j2 - 1 := ⟨_, rfl⟩
              have ejB : (j2 : Int) - 1 = (jB : Int) := by omega
              have ewjB : IntKind.i64.wrap (jB : Int) = (jB : Int) := by rw [IntKind.wrap_i64] <;> have := HB.out <;> omega
              rw [← hiB, ← hjB] at HPB
              clear hy0 hy1 hp0 hp1 hi0 hj0 hlt1 hlt2 hiB hjB
              go_wp2
              go_region
              clear c0 c1 f0 f1 ep0 ep1 iki ikj hne hne'
              go_wp2
              generalize swp dA i1 j2 = dB at HSW HSdB HPB
              generalize hWB : World.drew _ = WB at HSW ⊢
              clear hWB
              go_loopw [10, 11] (fun vi vj wr => ∃ (i j : Nat) (dk : Array Nat), vi = .int .i64 (i : Int) ∧ vj = .int .i64 (j : Int) ∧ Hid (dk.size = n ∧ Sw W b sp dk wr ∧ Prt a z d i j dk)) (fun _ vj _ => (intOf vj).toNat)
              case atStart => exact ⟨iB, jB, dB, rfl, rfl, hid ⟨HSdB.out, HSW.out, HPB.out⟩⟩
              case round =>
                obtain ⟨i, j, dk, rfl, rfl, HKK⟩ := hrel
                have HSdk := hid HKK.out.1
                have HWk := hid HKK.out.2.1
                have HPk := hid HKK.out.2.2
                clear HKK
                go_wp2
                go_loopw [10] (fun v wr => ∃ i4 : Nat, v = .int .i64 (i4 : Int) ∧ Hid (Sw W b sp dk wr ∧ Prt a z d i4 j dk)) (fun v _ => j + 1 - (intOf v).toNat)
                case atStart => exact ⟨i, rfl, hid ⟨HWk.out, HPk.out⟩⟩
                case round =>
                  obtain ⟨i4, rfl, HK4⟩ := hrel
                  have hij := HK4.out.2.ij
                  have hai := HK4.out.2.ai
                  have hjz := HK4.out.2.jz
                  by_cases hle : i4 ≤ j
                  · have dl : decide ((i4 : Int) ≤ (j : Int)) = true := by simp; omega
                    have dln : decide (i4 ≤ j) = true := by simpa using hle
                    have hin : i4 < dk.size := by have := HB.out; have := HSdk.out; omega
                    have han : a < dk.size := by have := HB.out; have := HSdk.out; omega
                    have ik0 : (i4 : Int) < (n : Int) := by have := HSdk.out; omega
                    have hpk := Sw.pack HO.out hin han wr HK4.out.1
                    obtain ⟨c0, c1, -, -, -⟩ := hpk
                    obtain ⟨x4, hx⟩ : ∃ x, x = dk[i4]! := ⟨_, rfl⟩
                    obtain ⟨xa4, hxa⟩ : ∃ x, x = dk[a]! := ⟨_, rfl⟩
                    obtain ⟨p0, hp0⟩ : ∃ x, x = o + i4 := ⟨_, rfl⟩
                    obtain ⟨p1, hp1⟩ : ∃ x, x = o + a := ⟨_, rfl⟩
                    rw [← hx, ← hp0] at c0
                    rw [← hxa, ← hp1] at c1
                    have ep0 := hp0.symm
                    have ep1 := hp1.symm
                    have HQ := hid (fun (V : World) => sless_any x4 xa4 V)
                    have HV := hid HK4.out.1
                    cases hl : ltN x4 xa4 with
                    | true =>
                      rw [hl] at HQ
                      rw [ltN_true, hx, hxa] at hl
                      obtain ⟨i41, hi1⟩ : ∃ m, m = i4 + 1 := ⟨_, rfl⟩
                      have e2 : (i4 : Int) + 1 = (i41 : Int) := by omega
                      have ew2 : IntKind.i64.wrap (i41 : Int) = (i41 : Int) := by rw [IntKind.wrap_i64] <;> have := HB.out <;> omega
                      have HPN := hid (show Prt a z d i41 j dk from by rw [hi1]; exact HK4.out.2.up hle hl)
                      have HM := hid (show j + 1 - i41 < j + 1 - i4 by omega)
                      clear hx hxa hp0 hp1 hl hin han hle hij hai hjz hi1 HK4
                      go_wp2
                      go_quiet (first | (go_at_call 114; refine Calls.quiet_of_same (HQ.out _)))
                      have V1 := hid (HV.out.drewN nq)
                      clear c0 c1 HV HQ
                      generalize wr.drewN nq = W1 at V1 ⊢
                      go_wp2
                      exact ⟨⟨i41, rfl, hid ⟨V1.out, HPN.out⟩⟩, by
                        show j + 1 - ((i41 : Int)).toNat < j + 1 - ((i4 : Int)).toNat
                        rw [Int.toNat_natCast, Int.toNat_natCast]
                        exact HM.out⟩
                    | false =>
                      rw [hl] at HQ
                      rw [ltN_false, hx, hxa] at hl
                      have HL4 := hid hl
                      have HP4 := hid HK4.out.2
                      have HLE4 := hid hle
                      clear hx hxa hp0 hp1 hl hin han hle hij hai hjz HK4
                      go_wp2
                      go_quiet (first | (go_at_call 114; refine Calls.quiet_of_same (HQ.out _)))
                      have V4 := hid (HV.out.drewN nq)
                      clear c0 c1 HV HQ ep0 ep1 ik0
                      generalize wr.drewN nq = W4 at V4 ⊢
                      clear nq
                      go_wp2
                      go_loopw [11] (fun v wr => ∃ j5 : Nat, v = .int .i64 (j5 : Int) ∧ Hid (Sw W b sp dk wr ∧ Prt a z d i4 j5 dk ∧ dk[a]! ≤ dk[i4]! ∧ j5 ≤ j)) (fun v _ => (intOf v).toNat)
                      case atStart => exact ⟨j, rfl, hid ⟨V4.out, HP4.out, HL4.out, Nat.le_refl _⟩⟩
                      case round =>
                        obtain ⟨j5, rfl, HK5⟩ := hrel
                        have hij := HK5.out.2.1.ij
                        have hai := HK5.out.2.1.ai
                        have hjz := HK5.out.2.1.jz
                        by_cases hle : i4 ≤ j5
                        · have dl : decide ((i4 : Int) ≤ (j5 : Int)) = true := by simp; omega
                          have dln : decide (i4 ≤ j5) = true := by simpa using hle
                          have hin : j5 < dk.size := by have := HB.out; have := HSdk.out; omega
                          have han : a < dk.size := by have := HB.out; have := HSdk.out; omega
                          have ik0 : (j5 : Int) < (n : Int) := by have := HSdk.out; omega
                          have hpk := Sw.pack HO.out hin han wr HK5.out.1
                          obtain ⟨c0, c1, -, -, -⟩ := hpk
                          obtain ⟨x5, hx⟩ : ∃ x, x = dk[j5]! := ⟨_, rfl⟩
                          obtain ⟨xa5, hxa⟩ : ∃ x, x = dk[a]! := ⟨_, rfl⟩
                          obtain ⟨p0, hp0⟩ : ∃ x, x = o + j5 := ⟨_, rfl⟩
                          obtain ⟨p1, hp1⟩ : ∃ x, x = o + a := ⟨_, rfl⟩
                          rw [← hx, ← hp0] at c0
                          rw [← hxa, ← hp1] at c1
                          have ep0 := hp0.symm
                          have ep1 := hp1.symm
                          have HQ := hid (fun (V : World) => sless_any x5 xa5 V)
                          have HV := hid HK5.out.1
                          cases hl : ltN x5 xa5 with
                          | false =>
                            rw [hl] at HQ
                            rw [ltN_false, hx, hxa] at hl
                            obtain ⟨j51, hi1⟩ : ∃ m, m = j5 - 1 := ⟨_, rfl⟩
                            have e2 : (j5 : Int) - 1 = (j51 : Int) := by omega
                            have ew2 : IntKind.i64.wrap (j51 : Int) = (j51 : Int) := by rw [IntKind.wrap_i64] <;> have := HB.out <;> omega
                            have HPN := hid (show Prt a z d i4 j51 dk ∧ dk[a]! ≤ dk[i4]! ∧ j51 ≤ j from by rw [hi1]; exact ⟨HK5.out.2.1.down hle hl, HK5.out.2.2.1, by have := HK5.out.2.2.2; omega⟩)
                            have HM := hid (show j51 < j5 by omega)
                            clear hx hxa hp0 hp1 hl hin han hle hij hai hjz hi1 HK5
                            go_wp2
                            go_quiet (first | (go_at_call 114; refine Calls.quiet_of_same (HQ.out _)))
                            have V1 := hid (HV.out.drewN nq)
                            clear c0 c1 HV HQ
                            generalize wr.drewN nq = W1 at V1 ⊢
                            go_wp2
                            exact ⟨⟨j51, rfl, hid ⟨V1.out, HPN.out⟩⟩, by
                              show ((j51 : Int)).toNat < ((j5 : Int)).toNat
                              rw [Int.toNat_natCast, Int.toNat_natCast]
                              exact HM.out⟩
                          | true =>
                            rw [hl] at HQ
                            rw [ltN_true, hx, hxa] at hl
                            have HL5 := hid hl
                            have HP5 := hid HK5.out.2
                            have HLE5 := hid hle
                            clear hx hxa hp0 hp1 hl hin han hle hij hai hjz HK5
                            go_wp2
                            go_quiet (first | (go_at_call 114; refine Calls.quiet_of_same (HQ.out _)))
                            have V5 := hid (HV.out.drewN nq)
                            clear c0 c1 HV HQ ep0 ep1 ik0
                            generalize wr.drewN nq = W5 at V5 ⊢
                            clear nq
                            have HLEX := HLE5
                            have dg : decide ((j5 : Int) < (i4 : Int)) = false := by have := HLEX.out; simp; omega
                            have dgn : decide (j5 < i4) = false := by have := HLEX.out; simp; omega
                            have hi0 : i4 < dk.size := by have := HB.out; have := HSdk.out; have := HP5.out.1.jz; have := HLEX.out; omega
                            have hj0 : j5 < dk.size := by have := HB.out; have := HSdk.out; have := HP5.out.1.jz; have := HLEX.out; omega
                            have iki : (i4 : Int) < (n : Int) := by have := HSdk.out; omega
                            have ikj : (j5 : Int) < (n : Int) := by have := HSdk.out; omega
                            have hpk := Sw.pack HO.out hi0 hj0 W5 V5.out
                            obtain ⟨y0, hy0⟩ : ∃ x, x = dk[i4]! := ⟨_, rfl⟩
                            obtain ⟨y1, hy1⟩ : ∃ x, x = dk[j5]! := ⟨_, rfl⟩
                            obtain ⟨p0, hp0⟩ : ∃ x, x = o + i4 := ⟨_, rfl⟩
                            obtain ⟨p1, hp1⟩ : ∃ x, x = o + j5 := ⟨_, rfl⟩
                            rw [← hy0, ← hy1, ← hp0, ← hp1] at hpk
                            have ep0 := hp0.symm
                            have ep1 := hp1.symm
                            obtain ⟨c0, c1, f0, f1, hsw⟩ := hpk
                            have HSW := hid hsw
                            clear hsw
                            have HSdn := hid (show (swp dk i4 j5).size = n by rw [swp_size']; exact HSdk.out)
                            have HPn := hid (HP5.out.1.swap (by have := HB.out; have := HSd.out; omega) HLEX.out HP5.out.2.1 HL5.out)
                            have hne : ¬ p0 = p1 := by
                              intro e
                              have e2 : i4 = j5 := by omega
                              have h1 := HP5.out.2.1
                              have h2 := HL5.out
                              rw [e2] at h1
                              omega
                            have hne' : ¬ p1 = p0 := fun e => hne e.symm
                            have hlt1 := HP5.out.1.ai
                            have hlt2 := HLEX.out
                            obtain ⟨iN, hiN⟩ : ∃ m, m = i4 + 1 := ⟨_, rfl⟩
                            have eiN : (i4 : Int) + 1 = (iN : Int) := by omega
                            have ewiN : IntKind.i64.wrap (iN : Int) = (iN : Int) := by rw [IntKind.wrap_i64] <;> have := HB.out <;> omega
                            obtain ⟨jN, hjN⟩ : ∃ m, m = j5 - 1 := ⟨_, rfl⟩
                            have ejN : (j5 : Int) - 1 = (jN : Int) := by omega
                            have ewjN : IntKind.i64.wrap (jN : Int) = (jN : Int) := by rw [IntKind.wrap_i64] <;> have := HB.out <;> omega
                            rw [← hiN, ← hjN] at HPn
                            have HM := hid (show jN < j by have := HP5.out.2.2; have := HP5.out.1.ai; have := HLEX.out; omega)
                            clear hy0 hy1 hp0 hp1 hi0 hj0 hlt1 hlt2 hiN hjN
                            go_wp2
                            go_region
                            clear c0 c1 f0 f1 ep0 ep1 iki ikj hne hne'
                            go_wp2
                            exact ⟨⟨iN, jN, _, rfl, rfl, hid ⟨HSdn.out, HSW.out, HPn.out⟩⟩, by
                              show ((jN : Int)).toNat < ((j : Int)).toNat
                              rw [Int.toNat_natCast, Int.toNat_natCast]
                              exact HM.out⟩
                        · have dl : decide ((i4 : Int) ≤ (j5 : Int)) = false := by simp; omega
                          have dln : decide (i4 ≤ j5) = false := by simpa using hle
                          have HLE5 := hid hle
                          have HP5 := hid HK5.out.2.1
                          have HV := hid HK5.out.1
                          clear hle hij hai hjz HK5
                          go_wp2
                          go_quiet (fail)
                          have V5 := hid (HV.out.drewN nq)
                          clear HV
                          generalize wr.drewN nq = W5 at V5 ⊢
                          clear nq
                          have HLEX := HLE5
                          have dg : decide ((j5 : Int) < (i4 : Int)) = true := by have := HLEX.out; simp; omega
                          have dgn : decide (j5 < i4) = true := by have := HLEX.out; simp; omega
                          have hi0 : j5 < dk.size := by have := HB.out; have := HSdk.out; have := HP5.out.jz; omega
                          have hj0 : a < dk.size := by have := HB.out; have := HSdk.out; have := HP5.out.jz; omega
                          have iki : (j5 : Int) < (n : Int) := by have := HSdk.out; omega
                          have ikj : (a : Int) < (n : Int) := by have := HSdk.out; omega
                          have hpk := Sw.pack HO.out hi0 hj0 W5 V5.out
                          obtain ⟨y0, hy0⟩ : ∃ x, x = dk[j5]! := ⟨_, rfl⟩
                          obtain ⟨y1, hy1⟩ : ∃ x, x = dk[a]! := ⟨_, rfl⟩
                          obtain ⟨p0, hp0⟩ : ∃ x, x = o + j5 := ⟨_, rfl⟩
                          obtain ⟨p1, hp1⟩ : ∃ x, x = o + a := ⟨_, rfl⟩
                          rw [← hy0, ← hy1, ← hp0, ← hp1] at hpk
                          have ep0 := hp0.symm
                          have ep1 := hp1.symm
                          obtain ⟨c0, c1, f0, f1, hsw⟩ := hpk
                          have HSW := hid hsw
                          clear hsw
                          have HEN := hid (HP5.out.end_ (by have := HB.out; have := HSd.out; omega) HLE5.out)
                          by_cases hpp : j5 = a
                          · have hpp0 : p1 = p0 := by rw [hp0, hp1, hpp]
                            have hyy : y1 = y0 := by rw [hy0, hy1, hpp]
                            subst hpp0
                            subst hyy
                            have hJa : (j5 : Int) = (a : Int) := by omega
                            clear hy0 hy1 hp0 hp1 hi0 hj0 hpp hJa
                            go_wp2
                            go_region
                            clear c0 c1 f0 f1
                            go_wp2
                            go_ret2
                            exact ⟨j5, false, _, rfl, HSW.out, HEN.out⟩
                          · have hne : ¬ p0 = p1 := by omega
                            have hne' : ¬ p1 = p0 := by omega
                            clear hy0 hy1 hp0 hp1 hi0 hj0 hpp
                            go_wp2
                            go_region
                            clear c0 c1 f0 f1
                            go_wp2
                            go_ret2
                            exact ⟨j5, false, _, rfl, HSW.out, HEN.out⟩
                  · have dl : decide ((i4 : Int) ≤ (j : Int)) = false := by simp; omega
                    have dln : decide (i4 ≤ j) = false := by simpa using hle
                    have HLE4 := hid hle
                    have HP4 := hid HK4.out.2
                    have HV := hid HK4.out.1
                    clear hle hij hai hjz HK4
                    go_wp2
                    go_quiet (fail)
                    have V4 := hid (HV.out.drewN nq)
                    clear HV
                    generalize wr.drewN nq = W4 at V4 ⊢
                    clear nq
                    go_wp2
                    go_loopw [11] (fun v wr => v = .int .i64 (j : Int) ∧ Hid (Sw W b sp dk wr)) (fun _ _ => 0)
                    case atStart => exact ⟨rfl, hid V4.out⟩
                    case round =>
                      obtain ⟨rfl, HKi4i⟩ := hrel
                      go_wp2
                      go_quiet (fail)
                      have Vi4i := hid (HKi4i.out.drewN nq)
                      clear HKi4i
                      generalize wr.drewN nq = Wi4i at Vi4i ⊢
                      clear nq
                      have HLEX := HLE4
                      have dg : decide ((j : Int) < (i4 : Int)) = true := by have := HLEX.out; simp; omega
                      have dgn : decide (j < i4) = true := by have := HLEX.out; simp; omega
                      have hi0 : j < dk.size := by have := HB.out; have := HSdk.out; have := HP4.out.jz; omega
                      have hj0 : a < dk.size := by have := HB.out; have := HSdk.out; have := HP4.out.jz; omega
                      have iki : (j : Int) < (n : Int) := by have := HSdk.out; omega
                      have ikj : (a : Int) < (n : Int) := by have := HSdk.out; omega
                      have hpk := Sw.pack HO.out hi0 hj0 Wi4i Vi4i.out
                      obtain ⟨y0, hy0⟩ : ∃ x, x = dk[j]! := ⟨_, rfl⟩
                      obtain ⟨y1, hy1⟩ : ∃ x, x = dk[a]! := ⟨_, rfl⟩
                      obtain ⟨p0, hp0⟩ : ∃ x, x = o + j := ⟨_, rfl⟩
                      obtain ⟨p1, hp1⟩ : ∃ x, x = o + a := ⟨_, rfl⟩
                      rw [← hy0, ← hy1, ← hp0, ← hp1] at hpk
                      have ep0 := hp0.symm
                      have ep1 := hp1.symm
                      obtain ⟨c0, c1, f0, f1, hsw⟩ := hpk
                      have HSW := hid hsw
                      clear hsw
                      have HEN := hid (HP4.out.end_ (by have := HB.out; have := HSd.out; omega) HLE4.out)
                      by_cases hpp : j = a
                      · have hpp0 : p1 = p0 := by rw [hp0, hp1, hpp]
                        have hyy : y1 = y0 := by rw [hy0, hy1, hpp]
                        subst hpp0
                        subst hyy
                        have hJa : (j : Int) = (a : Int) := by omega
                        clear hy0 hy1 hp0 hp1 hi0 hj0 hpp hJa
                        go_wp2
                        go_region
                        clear c0 c1 f0 f1
                        go_wp2
                        go_ret2
                        exact ⟨j, false, _, rfl, HSW.out, HEN.out⟩
                      · have hne : ¬ p0 = p1 := by omega
                        have hne' : ¬ p1 = p0 := by omega
                        clear hy0 hy1 hp0 hp1 hi0 hj0 hpp
                        go_wp2
                        go_region
                        clear c0 c1 f0 f1
                        go_wp2
                        go_ret2
                        exact ⟨j, false, _, rfl, HSW.out, HEN.out⟩
          · have dl : decide ((i1 : Int) ≤ (j2 : Int)) = false := by simp; omega
            have dln : decide (i1 ≤ j2) = false := by simpa using hle
            have HLE2 := hid hle
            have HP2 := hid HK2.out.2.1
            have HV := hid HK2.out.1
            clear hle hij hai hjz HK2
            go_wp2
            go_quiet (fail)
            have V2 := hid (HV.out.drewN nq)
            clear HV
            generalize wr.drewN nq = W2 at V2 ⊢
            clear nq
            have HLEX := HLE2
            have dg : decide ((j2 : Int) < (i1 : Int)) = true := by have := HLEX.out; simp; omega
            have dgn : decide (j2 < i1) = true := by have := HLEX.out; simp; omega
            have hi0 : j2 < dA.size := by have := HB.out; have := HSdA.out; have := HP2.out.jz; omega
            have hj0 : a < dA.size := by have := HB.out; have := HSdA.out; have := HP2.out.jz; omega
            have iki : (j2 : Int) < (n : Int) := by have := HSdA.out; omega
            have ikj : (a : Int) < (n : Int) := by have := HSdA.out; omega
            have hpk := Sw.pack HO.out hi0 hj0 W2 V2.out
            obtain ⟨y0, hy0⟩ : ∃ x, x = dA[j2]! := ⟨_, rfl⟩
            obtain ⟨y1, hy1⟩ : ∃ x, x = dA[a]! := ⟨_, rfl⟩
            obtain ⟨p0, hp0⟩ : ∃ x, x = o + j2 := ⟨_, rfl⟩
            obtain ⟨p1, hp1⟩ : ∃ x, x = o + a := ⟨_, rfl⟩
            rw [← hy0, ← hy1, ← hp0, ← hp1] at hpk
            have ep0 := hp0.symm
            have ep1 := hp1.symm
            obtain ⟨c0, c1, f0, f1, hsw⟩ := hpk
            have HSW := hid hsw
            clear hsw
            have HEN := hid (HP2.out.end_ (by have := HB.out; have := HSd.out; omega) HLE2.out)
            by_cases hpp : j2 = a
            · have hpp0 : p1 = p0 := by rw [hp0, hp1, hpp]
              have hyy : y1 = y0 := by rw [hy0, hy1, hpp]
              subst hpp0
              subst hyy
              have hJa : (j2 : Int) = (a : Int) := by omega
              clear hy0 hy1 hp0 hp1 hi0 hj0 hpp hJa
              go_wp2
              go_region
              clear c0 c1 f0 f1
              go_wp2
              go_ret2
              exact ⟨j2, true, _, rfl, HSW.out, HEN.out⟩
            · have hne : ¬ p0 = p1 := by omega
              have hne' : ¬ p1 = p0 := by omega
              clear hy0 hy1 hp0 hp1 hi0 hj0 hpp
              go_wp2
              go_region
              clear c0 c1 f0 f1
              go_wp2
              go_ret2
              exact ⟨j2, true, _, rfl, HSW.out, HEN.out⟩
    · have dl : decide ((i1 : Int) ≤ (z1 : Int)) = false := by simp; omega
      have dln : decide (i1 ≤ z1) = false := by simpa using hle
      have HLE1 := hid hle
      have HP1 := hid HK1.out.2
      have HV := hid HK1.out.1
      clear hle hij hai hjz HK1
      go_wp2
      go_quiet (fail)
      have V1 := hid (HV.out.drewN nq)
      clear HV
      generalize wr.drewN nq = W1 at V1 ⊢
      clear nq
      go_wp2
      go_loopw [11] (fun v wr => v = .int .i64 (z1 : Int) ∧ Hid (Sw W b sp dA wr)) (fun _ _ => 0)
      case atStart => exact ⟨rfl, hid V1.out⟩
      case round =>
        obtain ⟨rfl, HKi1i⟩ := hrel
        go_wp2
        go_quiet (fail)
        have Vi1i := hid (HKi1i.out.drewN nq)
        clear HKi1i
        generalize wr.drewN nq = Wi1i at Vi1i ⊢
        clear nq
        have HLEX := HLE1
        have dg : decide ((z1 : Int) < (i1 : Int)) = true := by have := HLEX.out; simp; omega
        have dgn : decide (z1 < i1) = true := by have := HLEX.out; simp; omega
        have hi0 : z1 < dA.size := by have := HB.out; have := HSdA.out; have := HP1.out.jz; omega
        have hj0 : a < dA.size := by have := HB.out; have := HSdA.out; have := HP1.out.jz; omega
        have iki : (z1 : Int) < (n : Int) := by have := HSdA.out; omega
        have ikj : (a : Int) < (n : Int) := by have := HSdA.out; omega
        have hpk := Sw.pack HO.out hi0 hj0 Wi1i Vi1i.out
        obtain ⟨y0, hy0⟩ : ∃ x, x = dA[z1]! := ⟨_, rfl⟩
        obtain ⟨y1, hy1⟩ : ∃ x, x = dA[a]! := ⟨_, rfl⟩
        obtain ⟨p0, hp0⟩ : ∃ x, x = o + z1 := ⟨_, rfl⟩
        obtain ⟨p1, hp1⟩ : ∃ x, x = o + a := ⟨_, rfl⟩
        rw [← hy0, ← hy1, ← hp0, ← hp1] at hpk
        have ep0 := hp0.symm
        have ep1 := hp1.symm
        obtain ⟨c0, c1, f0, f1, hsw⟩ := hpk
        have HSW := hid hsw
        clear hsw
        have HEN := hid (HP1.out.end_ (by have := HB.out; have := HSd.out; omega) HLE1.out)
        by_cases hpp : z1 = a
        · have hpp0 : p1 = p0 := by rw [hp0, hp1, hpp]
          have hyy : y1 = y0 := by rw [hy0, hy1, hpp]
          subst hpp0
          subst hyy
          have hJa : (z1 : Int) = (a : Int) := by omega
          clear hy0 hy1 hp0 hp1 hi0 hj0 hpp hJa
          go_wp2
          go_region
          clear c0 c1 f0 f1
          go_wp2
          go_ret2
          exact ⟨z1, true, _, rfl, HSW.out, HEN.out⟩
        · have hne : ¬ p0 = p1 := by omega
          have hne' : ¬ p1 = p0 := by omega
          clear hy0 hy1 hp0 hp1 hi0 hj0 hpp
          go_wp2
          go_region
          clear c0 c1 f0 f1
          go_wp2
          go_ret2
          exact ⟨z1, true, _, rfl, HSW.out, HEN.out⟩
end Go.Proofs.YtdegmcfcbndelaaDoor

namespace Go.Proofs.YtdegmcfcbndelaaDoor
open Go.RowKit Go.Sort

/-- Where the rounds are: what isn't greater than v lies ahead of i, what is greater behind j; the pivot lies at a. -/
structure Pre (v a z : Nat) (d0 : Array Nat) (i j : Nat) (d : Array Nat) : Prop where
  ai : a < i
  ij : i ≤ j + 1
  jz : j < z
  perm : PermIn a z d0 d
  piv : d[a]! = v
  lo : ∀ t, a < t → t < i → d[t]! ≤ v
  hi : ∀ t, j < t → t < z → v < d[t]!
section
variable {v a z i j : Nat} {d0 d : Array Nat}
theorem Pre.start {p : Nat} (hz : z ≤ d0.size) (h1 : a < p) (h2 : p < z) : Pre d0[p]! a z d0 (a + 1) (z - 1) (swp d0 a p) :=
  ⟨by omega, by omega, by omega, swp_permIn d0 a z a p (Nat.le_refl _) (by omega) (by omega) h2 hz, swp_left d0 a p (by omega) (by omega), fun t q1 q2 => by omega, fun t q1 q2 => by omega⟩
theorem Pre.up (h : Pre v a z d0 i j d) (hle : i ≤ j) (hl : d[i]! ≤ d[a]!) : Pre v a z d0 (i + 1) j d :=
  ⟨by have := h.ai; omega, by omega, h.jz, h.perm, h.piv, fun t q1 q2 => by
    rcases Nat.lt_or_ge t i with q | q
    · exact h.lo t q1 q
    · obtain rfl : t = i := by omega
      rw [← h.piv]
      exact hl, h.hi⟩
theorem Pre.down (h : Pre v a z d0 i j d) (hle : i ≤ j) (hl : d[a]! < d[j]!) : Pre v a z d0 i (j - 1) d :=
  ⟨h.ai, by omega, by have := h.jz; omega, h.perm, h.piv, h.lo, fun t q1 q2 => by
    rcases Nat.lt_or_ge j t with q | q
    · exact h.hi t q q2
    · obtain rfl : t = j := by have := h.ai; omega
      rw [← h.piv]
      exact hl⟩
theorem Pre.swap (h : Pre v a z d0 i j d) (hz : z ≤ d0.size) (hle : i ≤ j) (hg : d[a]! < d[i]!) (hl : d[j]! ≤ d[a]!) : Pre v a z d0 (i + 1) (j - 1) (swp d i j) := by
  have hij : i < j := by
    rcases Nat.lt_or_ge i j with q | q
    · exact q
    · obtain rfl : i = j := by omega
      omega
  have hs := h.perm.1
  have ha := h.ai
  have hjz := h.jz
  rw [h.piv] at hg hl
  have ea : (swp d i j)[a]! = d[a]! := swp_other d i j a (by omega) (by omega)
  refine ⟨by omega, by omega, by omega, permIn_trans _ _ _ _ _ h.perm (swp_permIn d a z i j (by omega) (by omega) (by omega) hjz (by omega)), ea.trans h.piv, fun t q1 q2 => ?_, fun t q1 q2 => ?_⟩
  · rcases Nat.lt_or_ge t i with q | q
    · rw [swp_other d i j t (by omega) (by omega)]
      exact h.lo t q1 q
    · obtain rfl : t = i := by omega
      rw [swp_left d t j (by omega) (by omega)]
      exact hl
  · rcases Nat.lt_or_ge j t with q | q
    · rw [swp_other d i j t (by omega) (by omega)]
      exact h.hi t q q2
    · obtain rfl : t = j := by omega
      rw [swp_right d i t (by omega)]
      exact hg
/-- What such a row is. -/
def EqualW (a z p : Nat) (d : Array Nat) (m : Nat) (d' : Array Nat) : Prop := a < m ∧ m ≤ z ∧ PermIn a z d d' ∧ (∀ t, a ≤ t → t < m → d'[t]! ≤ d[p]!) ∧ ∀ t, m ≤ t → t < z → d[p]! < d'[t]!
theorem Pre.end_ {p : Nat} (h : Pre d0[p]! a z d0 i j d) (hle : ¬ i ≤ j) : EqualW a z p d0 i d :=
  ⟨h.ai, by have := h.ij; have := h.jz; omega, h.perm, fun t q1 q2 => by
    by_cases e : t = a
    · rw [e, h.piv]; exact Nat.le_refl _
    · exact h.lo t (by omega) q2, fun t q1 q2 => h.hi t (by omega) q2⟩
end
set_option maxRecDepth 100000 in
set_option maxHeartbeats 8000000 in
theorem partequal_any (b c a z p n : Nat) (d : Array Nat) (sp : Array Value) (W : World) (h : At W b (cel d sp) 23) (hn : d.size = n) (hap : a < p) (hpz : p < z) (hz : z ≤ n) (hs : n ≤ 1000000) :
    Calls Tryd.prog 133 #[.slice (some ⟨b, 0, none⟩) n c, .int .i64 (a : Int), .int .i64 (z : Int), .int .i64 (p : Int)] W fun e w' => ∃ (m : Nat) (d' : Array Nat), e = .returned (.int .i64 (m : Int)) ∧ Sw W b sp d' w' ∧ EqualW a z p d m d' := by
  obtain ⟨o, ho⟩ : ∃ o, o = 0 := ⟨_, rfl⟩
  rw [← ho]
  have HO := hid ho
  have HST := hid (Sw.start h)
  have HN := hid hn
  have HSd := hid hn
  have HB := hid (show a < p ∧ p < z ∧ z ≤ n ∧ n ≤ 1000000 from ⟨hap, hpz, hz, hs⟩)
  have ika : (a : Int) < (n : Int) := by omega
  obtain ⟨a1, ha1⟩ : ∃ m, m = a + 1 := ⟨_, rfl⟩
  have ea1 : (a : Int) + 1 = (a1 : Int) := by omega
  have ewa1 : IntKind.i64.wrap (a1 : Int) = (a1 : Int) := by rw [IntKind.wrap_i64] <;> have := HB.out <;> omega
  obtain ⟨z1, hz1⟩ : ∃ m, m = z - 1 := ⟨_, rfl⟩
  have ez1 : (z : Int) - 1 = (z1 : Int) := by omega
  have ewz1 : IntKind.i64.wrap (z1 : Int) = (z1 : Int) := by rw [IntKind.wrap_i64] <;> have := HB.out <;> omega
  obtain ⟨pv, hpv⟩ : ∃ v, v = d[p]! := ⟨_, rfl⟩
  have HVV := hid hpv
  have HPR0 := hid (show Pre pv a z d a1 z1 (swp d a p) by rw [hpv, ha1, hz1]; exact Pre.start (by omega) hap hpz)
  clear hpv h hn ho hap hpz hz hs ha1 hz1
  have hi0 : a < d.size := by have := HB.out; have := HSd.out; omega
  have hj0 : p < d.size := by have := HB.out; have := HSd.out; omega
  have iki : (a : Int) < (n : Int) := by have := HSd.out; omega
  have ikj : (p : Int) < (n : Int) := by have := HSd.out; omega
  have hpk := Sw.pack HO.out hi0 hj0 W HST.out
  obtain ⟨y0, hy0⟩ : ∃ x, x = d[a]! := ⟨_, rfl⟩
  obtain ⟨y1, hy1⟩ : ∃ x, x = d[p]! := ⟨_, rfl⟩
  obtain ⟨p0, hp0⟩ : ∃ x, x = o + a := ⟨_, rfl⟩
  obtain ⟨p1, hp1⟩ : ∃ x, x = o + p := ⟨_, rfl⟩
  rw [← hy0, ← hy1, ← hp0, ← hp1] at hpk
  have ep0 := hp0.symm
  have ep1 := hp1.symm
  obtain ⟨c0, c1, f0, f1, hsw⟩ := hpk
  have HSW := hid hsw
  clear hsw
  obtain ⟨dA, hdA⟩ : ∃ x, x = swp d a p := ⟨_, rfl⟩
  have HSdA := hid (show dA.size = n by rw [hdA, swp_size']; exact HSd.out)
  rw [← hdA] at HSW HPR0
  have hne : ¬ p0 = p1 := by have := HB.out; omega
  have hne' : ¬ p1 = p0 := by have := HB.out; omega
  clear hy0 hy1 hp0 hp1 hi0 hj0 hdA
  go_enter Tryd.func133, Tryd.ntmps133
  go_wp2
  go_region
  clear c0 c1 f0 f1 ep0 ep1 iki ikj hne hne'
  go_wp2
  generalize hWA : World.drew _ = WA at HSW ⊢
  clear hWA
  go_loopw [9, 10] (fun vi vj wr => ∃ (i j : Nat) (dk : Array Nat), vi = .int .i64 (i : Int) ∧ vj = .int .i64 (j : Int) ∧ Hid (dk.size = n ∧ Sw W b sp dk wr ∧ Pre pv a z d i j dk)) (fun _ vj _ => (intOf vj).toNat)
  case atStart => exact ⟨a1, z1, dA, rfl, rfl, hid ⟨HSdA.out, HSW.out, HPR0.out⟩⟩
  case round =>
    obtain ⟨i, j, dk, rfl, rfl, HKK⟩ := hrel
    have HSdk := hid HKK.out.1
    have HWk := hid HKK.out.2.1
    have HPk := hid HKK.out.2.2
    clear HKK
    go_wp2
    go_loopw [9] (fun v wr => ∃ i4 : Nat, v = .int .i64 (i4 : Int) ∧ Hid (Sw W b sp dk wr ∧ Pre pv a z d i4 j dk)) (fun v _ => j + 1 - (intOf v).toNat)
    case atStart => exact ⟨i, rfl, hid ⟨HWk.out, HPk.out⟩⟩
    case round =>
      obtain ⟨i4, rfl, HK4⟩ := hrel
      have hij := HK4.out.2.ij
      have hai := HK4.out.2.ai
      have hjz := HK4.out.2.jz
      by_cases hle : i4 ≤ j
      · have dl : decide ((i4 : Int) ≤ (j : Int)) = true := by simp; omega
        have dln : decide (i4 ≤ j) = true := by simpa using hle
        have hin : i4 < dk.size := by have := HB.out; have := HSdk.out; omega
        have han : a < dk.size := by have := HB.out; have := HSdk.out; omega
        have ik0 : (i4 : Int) < (n : Int) := by have := HSdk.out; omega
        have hpk := Sw.pack HO.out hin han wr HK4.out.1
        obtain ⟨c0, c1, -, -, -⟩ := hpk
        obtain ⟨x4, hx⟩ : ∃ x, x = dk[i4]! := ⟨_, rfl⟩
        obtain ⟨xa4, hxa⟩ : ∃ x, x = dk[a]! := ⟨_, rfl⟩
        obtain ⟨p0, hp0⟩ : ∃ x, x = o + i4 := ⟨_, rfl⟩
        obtain ⟨p1, hp1⟩ : ∃ x, x = o + a := ⟨_, rfl⟩
        rw [← hx, ← hp0] at c0
        rw [← hxa, ← hp1] at c1
        have ep0 := hp0.symm
        have ep1 := hp1.symm
        have HQ := hid (fun (V : World) => sless_any xa4 x4 V)
        have HV := hid HK4.out.1
        cases hl : ltN xa4 x4 with
        | false =>
          rw [hl] at HQ
          rw [ltN_false, hx, hxa] at hl
          obtain ⟨i41, hi1⟩ : ∃ m, m = i4 + 1 := ⟨_, rfl⟩
          have e2 : (i4 : Int) + 1 = (i41 : Int) := by omega
          have ew2 : IntKind.i64.wrap (i41 : Int) = (i41 : Int) := by rw [IntKind.wrap_i64] <;> have := HB.out <;> omega
          have HPN := hid (show Pre pv a z d i41 j dk from by rw [hi1]; exact HK4.out.2.up hle hl)
          have HM := hid (show j + 1 - i41 < j + 1 - i4 by omega)
          clear hx hxa hp0 hp1 hl hin han hle hij hai hjz hi1 HK4
          go_wp2
          go_quiet (first | (go_at_call 114; refine Calls.quiet_of_same (HQ.out _)))
          have V1 := hid (HV.out.drewN nq)
          clear c0 c1 HV HQ
          generalize wr.drewN nq = W1 at V1 ⊢
          go_wp2
          exact ⟨⟨i41, rfl, hid ⟨V1.out, HPN.out⟩⟩, by
            show j + 1 - ((i41 : Int)).toNat < j + 1 - ((i4 : Int)).toNat
            rw [Int.toNat_natCast, Int.toNat_natCast]
            exact HM.out⟩
        | true =>
          rw [hl] at HQ
          rw [ltN_true, hx, hxa] at hl
          have HL4 := hid hl
          have HP4 := hid HK4.out.2
          have HLE4 := hid hle
          clear hx hxa hp0 hp1 hl hin han hle hij hai hjz HK4
          go_wp2
          go_quiet (first | (go_at_call 114; refine Calls.quiet_of_same (HQ.out _)))
          have V4 := hid (HV.out.drewN nq)
          clear c0 c1 HV HQ ep0 ep1 ik0
          generalize wr.drewN nq = W4 at V4 ⊢
          clear nq
          go_wp2
          go_loopw [10] (fun v wr => ∃ j5 : Nat, v = .int .i64 (j5 : Int) ∧ Hid (Sw W b sp dk wr ∧ Pre pv a z d i4 j5 dk ∧ dk[a]! < dk[i4]! ∧ j5 ≤ j)) (fun v _ => (intOf v).toNat)
          case atStart => exact ⟨j, rfl, hid ⟨V4.out, HP4.out, HL4.out, Nat.le_refl _⟩⟩
          case round =>
            obtain ⟨j5, rfl, HK5⟩ := hrel
            have hij := HK5.out.2.1.ij
            have hai := HK5.out.2.1.ai
            have hjz := HK5.out.2.1.jz
            by_cases hle : i4 ≤ j5
            · have dl : decide ((i4 : Int) ≤ (j5 : Int)) = true := by simp; omega
              have dln : decide (i4 ≤ j5) = true := by simpa using hle
              have hin : j5 < dk.size := by have := HB.out; have := HSdk.out; omega
              have han : a < dk.size := by have := HB.out; have := HSdk.out; omega
              have ik0 : (j5 : Int) < (n : Int) := by have := HSdk.out; omega
              have hpk := Sw.pack HO.out hin han wr HK5.out.1
              obtain ⟨c0, c1, -, -, -⟩ := hpk
              obtain ⟨x5, hx⟩ : ∃ x, x = dk[j5]! := ⟨_, rfl⟩
              obtain ⟨xa5, hxa⟩ : ∃ x, x = dk[a]! := ⟨_, rfl⟩
              obtain ⟨p0, hp0⟩ : ∃ x, x = o + j5 := ⟨_, rfl⟩
              obtain ⟨p1, hp1⟩ : ∃ x, x = o + a := ⟨_, rfl⟩
              rw [← hx, ← hp0] at c0
              rw [← hxa, ← hp1] at c1
              have ep0 := hp0.symm
              have ep1 := hp1.symm
              have HQ := hid (fun (V : World) => sless_any xa5 x5 V)
              have HV := hid HK5.out.1
              cases hl : ltN xa5 x5 with
              | true =>
                rw [hl] at HQ
                rw [ltN_true, hx, hxa] at hl
                obtain ⟨j51, hi1⟩ : ∃ m, m = j5 - 1 := ⟨_, rfl⟩
                have e2 : (j5 : Int) - 1 = (j51 : Int) := by omega
                have ew2 : IntKind.i64.wrap (j51 : Int) = (j51 : Int) := by rw [IntKind.wrap_i64] <;> have := HB.out <;> omega
                have HPN := hid (show Pre pv a z d i4 j51 dk ∧ dk[a]! < dk[i4]! ∧ j51 ≤ j from by rw [hi1]; exact ⟨HK5.out.2.1.down hle hl, HK5.out.2.2.1, by have := HK5.out.2.2.2; omega⟩)
                have HM := hid (show j51 < j5 by omega)
                clear hx hxa hp0 hp1 hl hin han hle hij hai hjz hi1 HK5
                go_wp2
                go_quiet (first | (go_at_call 114; refine Calls.quiet_of_same (HQ.out _)))
                have V1 := hid (HV.out.drewN nq)
                clear c0 c1 HV HQ
                generalize wr.drewN nq = W1 at V1 ⊢
                go_wp2
                exact ⟨⟨j51, rfl, hid ⟨V1.out, HPN.out⟩⟩, by
                  show ((j51 : Int)).toNat < ((j5 : Int)).toNat
                  rw [Int.toNat_natCast, Int.toNat_natCast]
                  exact HM.out⟩
              | false =>
                rw [hl] at HQ
                rw [ltN_false, hx, hxa] at hl
                have HL5 := hid hl
                have HP5 := hid HK5.out.2
                have HLE5 := hid hle
                clear hx hxa hp0 hp1 hl hin han hle hij hai hjz HK5
                go_wp2
                go_quiet (first | (go_at_call 114; refine Calls.quiet_of_same (HQ.out _)))
                have V5 := hid (HV.out.drewN nq)
                clear c0 c1 HV HQ ep0 ep1 ik0
                generalize wr.drewN nq = W5 at V5 ⊢
                clear nq
                have HLEX := HLE5
                have dg : decide ((j5 : Int) < (i4 : Int)) = false := by have := HLEX.out; simp; omega
                have dgn : decide (j5 < i4) = false := by have := HLEX.out; simp; omega
                have hi0 : i4 < dk.size := by have := HB.out; have := HSdk.out; have := HP5.out.1.jz; have := HLEX.out; omega
                have hj0 : j5 < dk.size := by have := HB.out; have := HSdk.out; have := HP5.out.1.jz; have := HLEX.out; omega
                have iki : (i4 : Int) < (n : Int) := by have := HSdk.out; omega
                have ikj : (j5 : Int) < (n : Int) := by have := HSdk.out; omega
                have hpk := Sw.pack HO.out hi0 hj0 W5 V5.out
                obtain ⟨y0, hy0⟩ : ∃ x, x = dk[i4]! := ⟨_, rfl⟩
                obtain ⟨y1, hy1⟩ : ∃ x, x = dk[j5]! := ⟨_, rfl⟩
                obtain ⟨p0, hp0⟩ : ∃ x, x = o + i4 := ⟨_, rfl⟩
                obtain ⟨p1, hp1⟩ : ∃ x, x = o + j5 := ⟨_, rfl⟩
                rw [← hy0, ← hy1, ← hp0, ← hp1] at hpk
                have ep0 := hp0.symm
                have ep1 := hp1.symm
                obtain ⟨c0, c1, f0, f1, hsw⟩ := hpk
                have HSW := hid hsw
                clear hsw
                have HSdn := hid (show (swp dk i4 j5).size = n by rw [swp_size']; exact HSdk.out)
                have HPn := hid (HP5.out.1.swap (by have := HB.out; have := HSd.out; omega) HLEX.out HP5.out.2.1 HL5.out)
                have hne : ¬ p0 = p1 := by
                  intro e
                  have e2 : i4 = j5 := by omega
                  have h1 := HP5.out.2.1
                  have h2 := HL5.out
                  rw [e2] at h1
                  omega
                have hne' : ¬ p1 = p0 := fun e => hne e.symm
                have hlt1 := HP5.out.1.ai
                have hlt2 := HLEX.out
                obtain ⟨iN, hiN⟩ : ∃ m, m = i4 + 1 := ⟨_, rfl⟩
                have eiN : (i4 : Int) + 1 = (iN : Int) := by omega
                have ewiN : IntKind.i64.wrap (iN : Int) = (iN : Int) := by rw [IntKind.wrap_i64] <;> have := HB.out <;> omega
                obtain ⟨jN, hjN⟩ : ∃ m, m = j5 - 1 := ⟨_, rfl⟩
                have ejN : (j5 : Int) - 1 = (jN : Int) := by omega
                have ewjN : IntKind.i64.wrap (jN : Int) = (jN : Int) := by rw [IntKind.wrap_i64] <;> have := HB.out <;> omega
                rw [← hiN, ← hjN] at HPn
                have HM := hid (show jN < j by have := HP5.out.2.2; omega)
                clear hy0 hy1 hp0 hp1 hi0 hj0 hlt1 hlt2 hiN hjN
                go_wp2
                go_region
                clear c0 c1 f0 f1 ep0 ep1 iki ikj hne hne'
                go_wp2
                exact ⟨⟨iN, jN, _, rfl, rfl, hid ⟨HSdn.out, HSW.out, HPn.out⟩⟩, by
                  show ((jN : Int)).toNat < ((j : Int)).toNat
                  rw [Int.toNat_natCast, Int.toNat_natCast]
                  exact HM.out⟩
            · have dl : decide ((i4 : Int) ≤ (j5 : Int)) = false := by simp; omega
              have dln : decide (i4 ≤ j5) = false := by simpa using hle
              have HLE5 := hid hle
              have HP5 := hid HK5.out.2.1
              have HV := hid HK5.out.1
              clear hle hij hai hjz HK5
              go_wp2
              go_quiet (fail)
              have V5 := hid (HV.out.drewN nq)
              clear HV
              generalize wr.drewN nq = W5 at V5 ⊢
              clear nq
              have HLEX := HLE5
              have dg : decide ((j5 : Int) < (i4 : Int)) = true := by have := HLEX.out; simp; omega
              have dgn : decide (j5 < i4) = true := by have := HLEX.out; simp; omega
              have HEN := hid (show EqualW a z p d i4 dk by rw [HVV.out] at HP5; exact HP5.out.end_ HLE5.out)
              go_wp2
              go_ret
              exact ⟨i4, dk, rfl, V5.out, HEN.out⟩
      · have dl : decide ((i4 : Int) ≤ (j : Int)) = false := by simp; omega
        have dln : decide (i4 ≤ j) = false := by simpa using hle
        have HLE4 := hid hle
        have HP4 := hid HK4.out.2
        have HV := hid HK4.out.1
        clear hle hij hai hjz HK4
        go_wp2
        go_quiet (fail)
        have V4 := hid (HV.out.drewN nq)
        clear HV
        generalize wr.drewN nq = W4 at V4 ⊢
        clear nq
        go_wp2
        go_loopw [10] (fun v wr => v = .int .i64 (j : Int) ∧ Hid (Sw W b sp dk wr)) (fun _ _ => 0)
        case atStart => exact ⟨rfl, hid V4.out⟩
        case round =>
          obtain ⟨rfl, HKi4i⟩ := hrel
          go_wp2
          go_quiet (fail)
          have Vi4i := hid (HKi4i.out.drewN nq)
          clear HKi4i
          generalize wr.drewN nq = Wi4i at Vi4i ⊢
          clear nq
          have HLEX := HLE4
          have dg : decide ((j : Int) < (i4 : Int)) = true := by have := HLEX.out; simp; omega
          have dgn : decide (j < i4) = true := by have := HLEX.out; simp; omega
          have HEN := hid (show EqualW a z p d i4 dk by rw [HVV.out] at HP4; exact HP4.out.end_ HLE4.out)
          go_wp2
          go_ret
          exact ⟨i4, dk, rfl, Vi4i.out, HEN.out⟩
end Go.Proofs.YtdegmcfcbndelaaDoor
