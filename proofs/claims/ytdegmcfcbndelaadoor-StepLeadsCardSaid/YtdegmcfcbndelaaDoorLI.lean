/-
  Layer 12: StepLeads: what its ways share.
  Layer 12: StepLeads: what its ends share.
-/
import Derived.Test.YtdegmcfcbndelaaDoorLG
import Derived.Test.YtdegmcfcbndelaaDoorL6
import Derived.Test.YtdegmcfcbndelaaDoorYo
import Derived.Test.YtdegmcfcbndelaaDoorYj
import Derived.Test.YtdegmcfcbndelaaDoorLB
import Derived.Test.YtdegmcfcbndelaaDoorLH
import Derived.Test.YtdegmcfcbndelaaDoorS6
namespace Go.Proofs.YtdegmcfcbndelaaDoor
open Go.RowKit Go.Sort

set_option maxRecDepth 100000 in
set_option maxHeartbeats 4000000 in
theorem pcompact_new (B g n c : Nat) (d : Array Nat) (sp : Array Value) (W : World) (h : At W g (cel d sp) 23) (hn : d.size = n) (hs : n ≤ 1000000) (hc : n + sp.size = c) (hB : B ≤ g) :
    Calls Tryd.prog 75 #[.slice (some ⟨g, 0, none⟩) n c] W fun e w' => ∃ A1 m c1, e = .returned (.slice A1 m c1) ∧ m ≤ c1 ∧ m = (onceS d.toList).length ∧ Nu w' w'.heap.size A1 (onceS d.toList) ∧ Below B W w' ∧ ∃ o', A1 = some ⟨g, o', none⟩ := by
  obtain ⟨o, ho⟩ : ∃ o, o = 0 := ⟨_, rfl⟩
  rw [← ho]
  have HO := hid ho
  have HN := hid hn
  have HST := hid (show Crw W B g sp d W from ⟨h, Below.refl _ _⟩)
  have HB := hid (show n ≤ c ∧ n ≤ 1000000 ∧ B ≤ g from ⟨by omega, hs, hB⟩)
  have HCS := hid hc
  have HALL := hid (fun (V : World) (hV : Crw W B g sp d V) (ha : Allk d n) => show n = (onceS d.toList).length ∧ Nu V V.heap.size (some ⟨g, o, none⟩) (onceS d.toList) ∧ Below B W V by
    rw [← HN.out] at ha
    rw [ha.end_]
    exact ⟨by rw [← HN.out]; simp, hV.nu HO.out (Nat.le_refl _) (by rw [List.take_of_length_le (by simp)]), hV.below⟩)
  have HAS := hid (show 0 < n → Allk d 1 from fun q => Allk.start (by omega))
  have HA0 := hid (show n = 0 → Allk d n from fun q => by rw [q]; rfl)
  by_cases h2 : n < 2
  · have d2 : decide ((n : Int) < 2) = true := by simp; omega
    have d2n : decide (n < 2) = true := by simp; omega
    have HF := hid (HALL.out W HST.out (by
      rcases Nat.eq_zero_or_pos n with q | q
      · exact HA0.out q
      · obtain rfl : n = 1 := by omega
        exact HAS.out q))
    clear h hn ho hs hc hB h2
    go_enter Tryd.func75, Tryd.ntmps75
    go_wp2
    go_ret
    exact ⟨_, n, _, rfl, HB.out.1, HF.out.1, HF.out.2.1, HF.out.2.2, _, rfl⟩
  have d2 : decide ((n : Int) < 2) = false := by simp; omega
  have d2n : decide (n < 2) = false := by simp; omega
  have H2 := hid (show 2 ≤ n by omega)
  clear h hn ho hs hc hB h2 HA0
  go_enter Tryd.func75, Tryd.ntmps75
  go_wp2
  go_loopw [3] (fun v wr => ∃ k : Nat, v = .int .i64 (k : Int) ∧ 1 ≤ k ∧ k ≤ n ∧ Hid (Allk d k ∧ Crw W B g sp d wr)) (fun v _ => n - (intOf v).toNat)
  case atStart => exact ⟨1, rfl, by omega, by have := H2.out; omega, hid ⟨HAS.out (by have := H2.out; omega), HST.out⟩⟩
  case round =>
    obtain ⟨k, rfl, hk1, hkn, HK⟩ := hrel
    by_cases hlt : k < n
    · have d1 : decide ((k : Int) < (n : Int)) = true := by simp; omega
      have d1n : decide (k < n) = true := by simpa using hlt
      obtain ⟨k0, hk0⟩ : ∃ m, m = k - 1 := ⟨_, rfl⟩
      have e0 : (k : Int) - 1 = (k0 : Int) := by omega
      have ew0 : IntKind.i64.wrap (k0 : Int) = (k0 : Int) := by rw [IntKind.wrap_i64] <;> have := HB.out <;> omega
      have ik : (k : Int) < (n : Int) := by omega
      have ik0 : (k0 : Int) < (n : Int) := by omega
      have hkd : k < d.size := by rw [HN.out]; exact hlt
      have c0 := HK.out.2.cell HO.out hkd
      have c1 := HK.out.2.cell HO.out (show k0 < d.size by omega)
      obtain ⟨x, hx⟩ : ∃ x, x = d[k]! := ⟨_, rfl⟩
      obtain ⟨y, hy⟩ : ∃ x, x = d[k0]! := ⟨_, rfl⟩
      obtain ⟨p0, hp0⟩ : ∃ x, x = o + k := ⟨_, rfl⟩
      obtain ⟨p1, hp1⟩ : ∃ x, x = o + k0 := ⟨_, rfl⟩
      rw [← hx, ← hp0] at c0
      rw [← hy, ← hp1] at c1
      have ep0 := hp0.symm
      have ep1 := hp1.symm
      by_cases hxy : x = y
      · have b0 : ((x : Int) == (y : Int)) = true := by simp; omega
        have b0d : decide ((x : Int) = (y : Int)) = true := by simp; omega
        have b0n : decide (x = y) = true := by simpa using hxy
        have b0b : (x == y) = true := by simpa using hxy
        have hfrom := run_from (g := g) (o := o) (n := n) (c := c) (k := k) (by omega) (by have := HB.out; omega)
        rw [← hp0] at hfrom
        obtain ⟨n2, hn2⟩ : ∃ m, m = n - k := ⟨_, rfl⟩
        obtain ⟨c2, hc2⟩ : ∃ m, m = c - k := ⟨_, rfl⟩
        rw [← hn2, ← hc2] at hfrom
        have HCM := hid (show Cmp d k (k + 1) d from Cmp.start HK.out.1 (by omega) hkd (by rw [← hx, ← hk0, ← hy]; exact hxy))
        have HN2 := hid (show k + n2 = n ∧ 1 ≤ k ∧ p0 = o + k ∧ 1 ≤ n2 by omega)
        have HW := hid HK.out.2
        clear hx hy hp0 hp1 hk0 hxy hkd hn2 hc2 hlt hk1 hkn HK
        go_wp2
        go_quiet (fail)
        have V1 := hid (HW.out.drewN nq)
        clear c0 c1 HW
        generalize wr.drewN nq = W1 at V1 ⊢
        go_wp2
        go_loopw [3, 5] (fun v u wr => ∃ (k1 j : Nat) (dk : Array Nat), v = .int .i64 (k1 : Int) ∧ u = .int .i64 (j : Int) ∧ 1 ≤ j ∧ j ≤ n2 ∧ Hid (Cmp d k1 (k + j) dk ∧ Crw W B g sp dk wr)) (fun _ u _ => n2 - (intOf u).toNat)
        case atStart => exact ⟨k, 1, d, rfl, rfl, by omega, by have := HN2.out; omega, hid ⟨HCM.out, V1.out⟩⟩
        case round =>
          obtain ⟨k1, j, dk, rfl, rfl, hj1, hj2, HJ⟩ := hrel
          have hkq := HJ.out.1.kq
          have hqn := HJ.out.1.qn
          have hdsz := HJ.out.1.size
          by_cases hlt : j < n2
          · have d3 : decide ((j : Int) < (n2 : Int)) = true := by simp; omega
            have d3n : decide (j < n2) = true := by simpa using hlt
            obtain ⟨jm, hjm⟩ : ∃ m, m = j - 1 := ⟨_, rfl⟩
            have em : (j : Int) - 1 = (jm : Int) := by omega
            have ewm : IntKind.i64.wrap (jm : Int) = (jm : Int) := by rw [IntKind.wrap_i64] <;> have := HB.out <;> have := HN2.out <;> omega
            obtain ⟨jp, hjp⟩ : ∃ m, m = j + 1 := ⟨_, rfl⟩
            have ejp : (j : Int) + 1 = (jp : Int) := by omega
            have ewjp : IntKind.i64.wrap (jp : Int) = (jp : Int) := by rw [IntKind.wrap_i64] <;> have := HB.out <;> have := HN2.out <;> omega
            have jk : (j : Int) < (n2 : Int) := by omega
            have jk0 : (jm : Int) < (n2 : Int) := by omega
            have hq : k + j < d.size := by rw [HN.out]; have := HN2.out; omega
            have c0 := HJ.out.2.cell HO.out (show k + j < dk.size by omega)
            have c1 := HJ.out.2.cell HO.out (show k + jm < dk.size by omega)
            rw [HJ.out.1.rest (k + j) (by omega) hq] at c0
            rw [HJ.out.1.rest (k + jm) (by omega) (by omega)] at c1
            obtain ⟨x2, hx2⟩ : ∃ x, x = d[k + j]! := ⟨_, rfl⟩
            obtain ⟨y2, hy2⟩ : ∃ x, x = d[k + jm]! := ⟨_, rfl⟩
            obtain ⟨pj, hpj⟩ : ∃ x, x = p0 + j := ⟨_, rfl⟩
            obtain ⟨pm, hpm⟩ : ∃ x, x = p0 + jm := ⟨_, rfl⟩
            rw [← hx2, show o + (k + j) = pj by have := HN2.out; omega] at c0
            rw [← hy2, show o + (k + jm) = pm by have := HN2.out; omega] at c1
            have epj := hpj.symm
            have epm := hpm.symm
            have hqm : k + j - 1 = k + jm := by omega
            by_cases hxy : x2 = y2
            · have b0 : ((x2 : Int) != (y2 : Int)) = false := by simp; omega
              have b0d : decide ((x2 : Int) = (y2 : Int)) = true := by simp; omega
              have b0n : decide (x2 = y2) = true := by simpa using hxy
              have b0b : (x2 != y2) = false := by simpa using hxy
              have HNX := hid (show Cmp d k1 (k + jp) dk from by rw [hjp, ← Nat.add_assoc]; exact HJ.out.1.same hq (by rw [hqm, ← hx2, ← hy2]; exact hxy))
              have HM := hid (show 1 ≤ jp ∧ jp ≤ n2 ∧ n2 - jp < n2 - j by omega)
              have HW := hid HJ.out.2
              clear hx2 hy2 hpj hpm hjm hjp hq hqm hxy hlt hj1 hj2 hkq hqn hdsz HJ
              go_wp2
              go_quiet (fail)
              have V2 := hid (HW.out.drewN nq)
              clear c0 c1 HW
              generalize wr.drewN nq = W2 at V2 ⊢
              go_wp2
              exact ⟨⟨k1, jp, dk, rfl, rfl, HM.out.1, HM.out.2.1, hid ⟨HNX.out, V2.out⟩⟩, by
                show n2 - ((jp : Int)).toNat < n2 - ((j : Int)).toNat
                rw [Int.toNat_natCast, Int.toNat_natCast]
                exact HM.out.2.2⟩
            · have b0 : ((x2 : Int) != (y2 : Int)) = true := by simp; omega
              have b0d : decide ((x2 : Int) = (y2 : Int)) = false := by simp; omega
              have b0n : decide (x2 = y2) = false := by simpa using hxy
              have b0b : (x2 != y2) = true := by simpa using hxy
              obtain ⟨kp, hkp⟩ : ∃ m, m = k1 + 1 := ⟨_, rfl⟩
              have ekp : (k1 : Int) + 1 = (kp : Int) := by omega
              have ewkp : IntKind.i64.wrap (kp : Int) = (kp : Int) := by rw [IntKind.wrap_i64] <;> have := HB.out <;> have := HN2.out <;> omega
              have ikk : (k1 : Int) < (n : Int) := by have := HN2.out; omega
              have hkd : k1 < dk.size := by omega
              have HNX := hid (show Cmp d kp (k + jp) (dk.setIfInBounds k1 x2) from by rw [hjp, hkp, ← Nat.add_assoc, hx2]; exact HJ.out.1.more hq (by rw [hqm, ← hx2, ← hy2]; exact hxy))
              have HM := hid (show 1 ≤ jp ∧ jp ≤ n2 ∧ n2 - jp < n2 - j by omega)
              obtain ⟨pk, hpk⟩ : ∃ x, x = o + k1 := ⟨_, rfl⟩
              have epk := hpk.symm
              have HW := hid (show ∀ V, Crw W B g sp dk V → Crw W B g sp (dk.setIfInBounds k1 x2) (V.setCell ⟨g, pk, none⟩ (.int .u64 (x2 : Int))) ∧ (∃ u, V.cell? ⟨g, pk, none⟩ = some u) ∧ V.frozen? ⟨g, pk, none⟩ = false ∧ V.cell? ⟨g, pj, none⟩ = some (.int .u64 (x2 : Int)) from fun V hV => by
                rw [hpk]
                refine ⟨hV.put HB.out.2.2 HO.out x2 hkd, ⟨_, hV.cell HO.out hkd⟩, hV.row.frozen _, ?_⟩
                have := hV.cell HO.out (show k + j < dk.size by omega)
                rwa [HJ.out.1.rest (k + j) (by omega) hq, ← hx2, show o + (k + j) = pj by have := HN2.out; omega] at this)
              have HV := hid HJ.out.2
              clear hx2 hy2 hpj hpm hjm hjp hkp hpk hkd hq hqm hxy hlt hj1 hj2 hkq hqn hdsz HJ
              go_wp2
              go_quiet (fail)
              have V2 := hid (HV.out.drewN nq)
              clear c0 c1 HV
              generalize wr.drewN nq = W2 at V2 ⊢
              obtain ⟨w1, ⟨u, w2⟩, w3, w4⟩ := HW.out W2 V2.out
              have HW1 := hid w1
              clear w1 HW
              go_wp2
              exact ⟨⟨kp, jp, _, rfl, rfl, HM.out.1, HM.out.2.1, hid ⟨HNX.out, HW1.out⟩⟩, by
                show n2 - ((jp : Int)).toNat < n2 - ((j : Int)).toNat
                rw [Int.toNat_natCast, Int.toNat_natCast]
                exact HM.out.2.2⟩
          · obtain rfl : j = n2 := by omega
            have d3 : decide ((j : Int) < (j : Int)) = false := by simp
            have hkj : k + j = n := HN2.out.1
            obtain ⟨m2, hm2⟩ : ∃ m, m = n - k1 := ⟨_, rfl⟩
            obtain ⟨c3, hc3⟩ : ∃ m, m = c - k1 := ⟨_, rfl⟩
            obtain ⟨pk, hpk⟩ : ∃ x, x = o + k1 := ⟨_, rfl⟩
            have hfr2 := run_from (g := g) (o := o) (n := n) (c := c) (k := k1) (by omega) (by have := HB.out; omega)
            rw [← hpk, ← hm2, ← hc3] at hfr2
            have hto := run_to (g := g) (o := o) (n := n) (c := c) (k := k1) (by have := HB.out; omega)
            have hclr : ∀ ty, (Builtin.clear_ #[58] ty #[.slice (some ⟨g, pk, none⟩) m2 c3]).run Tryd.prog wr = .ok (.tuple #[]) (wr.setCells g pk (List.replicate m2 (.int .u64 0))) := fun ty =>
              Lib.run_clear_slice wr _ _ ty _ Tryd.underlying58 zeroU rfl rfl g pk m2 c3 (by omega)
                (fun i hi => by rw [hpk, Nat.add_assoc, HJ.out.2.cell HO.out (show k1 + i < dk.size by rw [hdsz, HN.out]; omega)]; rfl) (fun i hi => HJ.out.2.row.frozen _)
            have hON := HJ.out.1.once
            have hLN := HJ.out.1.len
            rw [hkj, show d.toList.take n = d.toList by rw [List.take_of_length_le (by rw [← HN.out]; simp)]] at hON hLN
            have HF := hid (show k1 = (onceS d.toList).length ∧ Nu (wr.setCells g pk (List.replicate m2 (.int .u64 0))) (wr.setCells g pk (List.replicate m2 (.int .u64 0))).heap.size (some ⟨g, o, none⟩) (onceS d.toList) ∧ Below B W (wr.setCells g pk (List.replicate m2 (.int .u64 0))) from by
              rw [hpk]
              exact ⟨hLN.symm, HJ.out.2.clear HB.out.2.2 HO.out (Nat.le_refl _) (by rw [hdsz, HN.out]; omega) hON _⟩)
            have HKC := hid (show k1 ≤ c by have := HB.out; omega)
            clear hlt hj1 hj2 hkq hqn hdsz hkj hm2 hc3 hpk hON hLN HJ
            generalize wr.setCells g pk (List.replicate m2 (.int .u64 0)) = W3 at hclr HF
            go_wp2
            go_ret
            exact ⟨_, k1, _, rfl, HKC.out, HF.out.1, HF.out.2.1, HF.out.2.2, _, rfl⟩
      · have b0 : ((x : Int) == (y : Int)) = false := by simp; omega
        have b0d : decide ((x : Int) = (y : Int)) = false := by simp; omega
        have b0n : decide (x = y) = false := by simpa using hxy
        have b0b : (x == y) = false := by simpa using hxy
        obtain ⟨kp, hkp⟩ : ∃ m, m = k + 1 := ⟨_, rfl⟩
        have ekp : (k : Int) + 1 = (kp : Int) := by omega
        have ewkp : IntKind.i64.wrap (kp : Int) = (kp : Int) := by rw [IntKind.wrap_i64] <;> have := HB.out <;> omega
        have HAN := hid (show Allk d kp by rw [hkp]; exact HK.out.1.next (by omega) hkd (by rw [← hx, ← hk0, ← hy]; exact hxy))
        have HM := hid (show 1 ≤ kp ∧ kp ≤ n ∧ n - kp < n - k by omega)
        have HW := hid HK.out.2
        clear hx hy hp0 hp1 hk0 hxy hkd hlt hk1 hkn hkp HK
        go_wp2
        go_quiet (fail)
        have V1 := hid (HW.out.drewN nq)
        clear c0 c1 HW
        generalize wr.drewN nq = W1 at V1 ⊢
        go_wp2
        exact ⟨⟨kp, rfl, HM.out.1, HM.out.2.1, hid ⟨HAN.out, V1.out⟩⟩, by
          show n - ((kp : Int)).toNat < n - ((k : Int)).toNat
          rw [Int.toNat_natCast, Int.toNat_natCast]
          exact HM.out.2.2⟩
    · obtain rfl : k = n := by omega
      have d1 : decide ((k : Int) < (k : Int)) = false := by simp
      have HF := hid (HALL.out wr HK.out.2 HK.out.1)
      clear hlt hk1 hkn HK
      go_wp2
      go_ret
      exact ⟨_, k, _, rfl, HB.out.1, HF.out.1, HF.out.2.1, HF.out.2.2, _, rfl⟩
set_option maxRecDepth 100000 in
theorem pSort_new (L : List Nat) (A : Option Addr) (c : Nat) (w : World) (hlen : L.length ≤ 40) (hr : Nu w w.heap.size A L) :
    Calls Tryd.prog 35 #[.slice A L.length c] w fun e w' => ∃ A1 c1, e = .returned (.slice A1 (sortS L).length c1) ∧ (sortS L).length ≤ c1 ∧ Nu w' w'.heap.size A1 (sortS L) ∧ Below w.heap.size w w' ∧ ∀ g o, A1 = some ⟨g, o, none⟩ → w.heap.size ≤ g := by
  obtain ⟨w1, hw1⟩ : ∃ V, V = w.alloc (.cells #[.slice A L.length c] 58) := ⟨_, rfl⟩
  have hb1 : Below w.heap.size w w1 := by rw [hw1]; exact (Below.refl _ _).alloc (Nat.le_refl _) _
  have hc1 : w1.cell? ⟨w.heap.size, 0, none⟩ = some (.slice A L.length c) := by rw [hw1]; exact (At.new w #[.slice A L.length c] 58).cell 0
  have hs1 : w1.heap.size = w.heap.size + 1 := by rw [hw1]; simp
  have HV := hid (values_any A L.length c w)
  rw [← hw1] at HV
  have HSR := hid (psorted_any w.heap.size w.heap.size c L A w1 hlen (by omega) (by omega) hc1 (Rd.below hr hb1))
  have HB1 := hid hb1
  have HS1 := hid hs1
  have HLN := hid hlen
  have HCN := hid (fun V => pcompact_nil V)
  have HON := hid (fun (d : Array Nat) (hd : d.toList = L.mergeSort fun x y => decide (x ≤ y)) => show onceS d.toList = sortS L by
    rw [hd]
    exact sort_once (List.mergeSort_perm _ _) (merge_sorted L))
  have HNI := hid (fun (e : L = []) => show sortS L = [] by rw [e]; rfl)
  have HSZ := hid (fun (d : Array Nat) (hd : d.toList = L.mergeSort fun x y => decide (x ≤ y)) => show d.size = L.length by
    have := congrArg List.length hd
    simpa using this)
  clear hw1 hb1 hc1 hs1 hlen hr
  go_enter Tryd.func35, Tryd.ntmps35
  go_wp2_with (first
    | (go_at_call 77; refine HV.out.mono ?_; rintro r1 wa ⟨rfl, hwa⟩; rw [← hwa]; clear hwa)
    | (go_at_call 76; refine HSR.out.mono ?_; rintro r2 w2 ⟨hcs, hb2⟩; have B2 := hid (HB1.out.trans (hb2.mono (by have := HS1.out; omega))); clear hb2; rcases hcs with ⟨rfl, hn⟩ | ⟨g, cap, sp, d, rfl, hg, ha, hca, hsp, hd⟩)
    | (go_at_call 75; with_reducible (refine (HCN.out _).mono ?_); rintro r3 w3 ⟨rfl, hw⟩; rw [hw]; clear hw)
    | (go_at_call 75; with_reducible (refine (pcompact_new w.heap.size g L.length cap d sp w2 ha (HSZ.out d hd.out) (by have := HLN.out; omega) hsp (by have := HS1.out; omega)).mono ?_); rintro r3 w3 ⟨A1, m, c1, rfl, hmc, hm, hn1, hb3, o1, he1⟩; have HE := hid he1; clear he1; have HM := hid hm; have HN1 := hid hn1; clear hm hn1))
  · go_ret
    exact ⟨none, 0, by rw [HNI.out hn]; rfl, by rw [HNI.out hn]; exact Nat.le_refl _, by rw [HNI.out hn]; exact Rd.nil _ _ _, B2.out, fun _ _ e => nomatch e⟩
  · go_ret
    have hm := HM.out
    have hn1 := HN1.out
    rw [HON.out d hd.out] at hm hn1
    subst hm
    exact ⟨A1, c1, rfl, hmc, hn1, B2.out.trans hb3, fun g' o' e => by
      have h1 := HE.out
      rw [e] at h1
      cases h1
      have := HS1.out
      omega⟩
section
variable {Pt : PtT} {w0 : World}
set_option maxRecDepth 100000 in
set_option maxHeartbeats 1000000 in
/-- A tree's writing step. -/
theorem pmakeWrite_new (t : T9c Pt w0) {S : Nat → Prop} {W : World} {b h : Nat} {L : List (Nat × List UInt8)} (hw0 : Below w0.heap.size w0 W) (hp : Pt S W b h L) (hL : L.length ≤ 1000) (l : List Nat) (A : Option Addr) (c : Nat) (hr : Nu W W.heap.size A l) (hc : l.length ≤ c) (hg : rgtB (h : Int) l = true) :
    Calls Tryd.prog 52 #[.pointer (some ⟨b, 0, none⟩), .slice A l.length c] W fun r W' => ∃ A0 c0 A1 c1 A2 c2, r = .returned (.tuple #[.agg #[.slice A0 l.length c0, .slice A1 l.length c1, .slice A2 (spotsS l h 0).length c2], .nilIface]) ∧ (Nu W' W'.heap.size A0 l ∧ l.length ≤ c0 ∧ ∀ g o, A0 = some ⟨g, o, none⟩ → W.heap.size ≤ g) ∧ (Rd W' W'.heap.size A1 (ubs (leavesS L l)) ∧ l.length ≤ c1 ∧ ∀ g o, A1 = some ⟨g, o, none⟩ → W.heap.size ≤ g) ∧ (Rd W' W'.heap.size A2 (ubs (besideS L (spotsS l h 0))) ∧ (spotsS l h 0).length ≤ c2 ∧ ∀ g o, A2 = some ⟨g, o, none⟩ → W.heap.size ≤ g) ∧ Below W.heap.size W W' := by
  obtain ⟨hh, hne, hlen, hs, hfit⟩ := rgtB_parts hg
  obtain ⟨O, hO⟩ : ∃ O : Array Value, O = #[.slice none 0 0, .slice none 0 0, .slice none 0 0] := ⟨_, rfl⟩
  have HAW := hid (fun (o : Oper) (a : Go.Act) (W : World) (h : o.op = .alloc 72) => show (execOp a.eval o).run Tryd.prog W = .ok (.value (.pointer (some ⟨W.heap.size, 0, none⟩))) (W.alloc (.cells O 72)) from by rw [hO]; exact run_alloc_of (o := o) (a := a) (W := W) _ h _ zeroWrite12)
  have HOS := hid (show O.size = 3 by rw [hO]; rfl)
  have HMK := hid (fun (V : World) (q : Below W.heap.size W V) => pmake10_ok t (hw0.trans (q.mono hw0.size)) (t.new hp q) hL l A c (hr.later q) hc hg)
  have HLV := hid (fun (V : World) (q : Below W.heap.size W V) => pleaves_room t (hw0.trans (q.mono hw0.size)) (t.new hp q) hL l A c (hr.later q) hg)
  have HCL := hid (fun (V : World) (q : Below W.heap.size W V) => pcloneU_any c l A V (by omega) (hr.later q) hne)
  have HSZ := hid sizeWriteO12
  have B0 := hid ((Below.refl W.heap.size W).alloc (Nat.le_refl _) (.cells O 72))
  have C0 := hid (show At (W.alloc (.cells O 72)) W.heap.size O 72 from At.new _ _ _)
  generalize besideS L (spotsS l h 0) = bes at HMK ⊢
  generalize (spotsS l h 0).length = nb at HMK ⊢
  generalize leavesS L l = lvv at HLV ⊢
  obtain ⟨n, hn⟩ : ∃ n, n = l.length := ⟨_, rfl⟩
  rw [← hn] at HMK HLV HCL ⊢
  clear hw0 hp hL hr hc hg hh hne hlen hs hfit hO hn t
  go_enter Tryd.func52, Tryd.ntmps52
  go_wp2_with (first
    | (refine Great.wpList_allocTo rfl _ rfl _ _ (HAW.out _ _ _ rfl) ?_)
    | (generalize W.alloc (.cells O 72) = W0 at B0 C0 ⊢; go_at_call 28; refine (HMK.out W0 B0.out).mono ?_; rintro r1 w1 ⟨A1, c1, rfl, ha1, hb1⟩; have B1 := hid (B0.out.trans (hb1.mono B0.out.size)); have C1 := hid (C0.out.new_ hb1); have R1 := hid ha1.rd; have K1 := hid ha1.cap; have N1 := hid (fun q o (e : A1 = some ⟨q, o, none⟩) => show W.heap.size < q from (by have h1 := (ha1.lt q (by rw [e]; rfl)).1; have h2 := C0.out.lt; omega)); clear hb1 ha1)
    | (go_at_call 29; refine (HLV.out w1 B1.out).mono ?_; rintro r2 w2 ⟨A2, c2, rfl, hr2, hb2, hc2, hn2⟩; have N2 := hid (fun q o (e : A2 = some ⟨q, o, none⟩) => show W.heap.size < q from (by have h1 := hn2 q o e; have h2 := C1.out.lt; omega)); have B2 := hid (B1.out.trans (hb2.mono B1.out.size)); have C2 := hid (C1.out.new_ hb2); have R2 := hid (show Rd w2 w2.heap.size A1 (ubs bes) from (Rd.below R1.out hb2).mono hb2.size); have S2 := hid hr2; have K2 := hid hc2; clear hb2 hr2 hc2 hn2)
    | (go_at_call 88; refine (HCL.out w2 B2.out).mono ?_; rintro r3 w3 ⟨A3, c3, rfl, ha3, hb3⟩; have B3 := hid (B2.out.trans (hb3.mono B2.out.size)); have C3 := hid (C2.out.new_ hb3); have R3 := hid (show Rd w3 w3.heap.size A1 (ubs bes) from (Rd.below R2.out hb3).mono hb3.size); have S3 := hid (show Rd w3 w3.heap.size A2 (ubs lvv) from (Rd.below S2.out hb3).mono hb3.size); have T3 := hid ha3.rd; have K3 := hid ha3.cap; have N3 := hid (fun q o (e : A3 = some ⟨q, o, none⟩) => show W.heap.size < q from (by have h1 := un_lt ha3 q (by rw [e]; rfl); have h2 := C2.out.lt; omega)); clear hb3 ha3)
    | (refine wpList_valW (by rfl) (run_build_write12 (.tmp 27) (.tmp 28) (.tmp 29) rfl A3 A2 A1 n c3 n c2 nb c1 rfl rfl rfl) ?_; generalize hO3 : (#[.slice A3 n c3, .slice A2 n c2, .slice A1 nb c1] : Array Value) = O3; have HO3 := hid hO3.symm; have HS3 := hid (show O3.size = 3 by rw [← hO3]; rfl); have HC3 := hid (show O3.all (·.oneCell') = true by rw [← hO3]; exact three_one _ _ _ _ _ _ _ _ _); clear hO3)
    | (refine wpList_store_row rfl _ (.tmp 4) (.tmp 30) rfl W.heap.size O3 rfl rfl 72 O C3.out (by rw [HS3.out]; exact HSZ.out) (by rw [HS3.out]; exact HOS.out) HC3.out ?_))
  refine bodyPost_ret (results_row_tmp rfl _ _ W.heap.size 72 O3 (0, 0) _ rfl (setRow_heap _ _ _ _ _ _ C3.out) Tryd.underlying72 rfl (by rw [HS3.out]; exact HSZ.out)) rfl ?_
  exact ⟨A3, c3, A2, c2, A1, c1, by rw [HO3.out]; rfl, ⟨Rd.row T3.out (fun q o e => Nat.ne_of_gt (N3.out q o e)) _, K3.out, fun q o e => Nat.le_of_lt (N3.out q o e)⟩, ⟨Rd.row S3.out (fun q o e => Nat.ne_of_gt (N2.out q o e)) _, K2.out, fun q o e => Nat.le_of_lt (N2.out q o e)⟩, ⟨Rd.row R3.out (fun q o e => Nat.ne_of_gt (N1.out q o e)) _, K1.out, fun q o e => Nat.le_of_lt (N1.out q o e)⟩, below_setRow B3.out (Nat.le_refl _) _⟩
end
theorem Un.kept {W W' : World} {base n : Nat} {v : Value} {l : List Nat} (h : Un W base v n l) (hb : Below W.heap.size W W') : Un W' base v n l := by
  refine ⟨h.1, ?_⟩
  rcases h.2 with h2 | ⟨g, cap, cur, rfl, hb1, hh, r⟩
  · exact .inl h2
  · exact .inr ⟨g, cap, cur, rfl, hb1, (hb.block g (lt_of_block hh)).trans hh, r⟩
theorem Ah.fr {S : Nat → Prop} {W W' : World} {base n : Nat} {v : Value} {bs : List UInt8} (h : Ah W base v n bs) (hf : Fr S W W') (hn : ∀ k, v.ownBlock = some k → ¬ S k) : Ah W' base v n bs := by
  refine ⟨h.1, ?_⟩
  rcases h.2 with h2 | ⟨g, cap, cur, rfl, hb1, hh, r⟩
  · exact .inl h2
  · exact .inr ⟨g, cap, cur, rfl, hb1, (hf.block g (lt_of_block hh) (hn g rfl)).trans hh, r⟩
/-- A hash is appended; where the new slice lies. -/
theorem wpList_append_hn {ops : Array Oper} {rest : List Oper} {o : Oper} {a : Go.Act} {W : World} {Q : Exit → Go.Act → World → Prop} (hw : Region.wanted o (yielded ops a.tmps) = true) (s x : Operand)
    (ho : o.op = .call { callee := .builtin .append, args := #[s, x], argTypes := #[31, 31] })
    (base : Nat) (v : Value) (n : Nat) (bs : List UInt8) (hs : a.eval s = v) (hown : Ah W base v n bs) (q : Nat) (l : List UInt8) (hx : a.eval x = .slice (some ⟨q, 0, none⟩) 1 1) (hq : At W q (ubs l).toArray 25) (hp : l.length = 32) (hl : n ≤ 8589934592) (hbase : base ≤ W.heap.size)
    (h : ∀ A c w', Ah w' base (.slice A (n + 1) c) (n + 1) (bs ++ l) → W.grownBy w' v.ownBlock → ((Value.slice A (n + 1) c).ownBlock = v.ownBlock ∨ (Value.slice A (n + 1) c).ownBlock = some W.heap.size) → wpList Tryd.prog ops Q rest (a.put o.dst (.slice A (n + 1) c)) w') :
    wpList Tryd.prog ops Q (o :: rest) a W :=
  BigFrame.wpList_want hw fun K hK => by
    obtain ⟨i, hi, hz, hsz, hby⟩ := info_parts infoH
    obtain ⟨v', w', hr, h2, h3, -, h5⟩ := run_append_own_at (P := Tryd.prog) W base 31 o.type 25 i _ 32 32 Tryd.underlying31 hi hz hsz hby (by show (ubs n32).toArray.size = 32; rw [List.size_toArray, ubs_length]; exact n32_length) (by omega) v n (ubs bs) hown ⟨q, 0, none⟩ 1 1 (ubs l) (by rw [ubs_length, hp])
      (fun j u hu => by rw [add_plain, Nat.zero_add, hq.cell j, List.getElem?_toArray]; exact hu) (ubs_one l) (by unfold maxLen; omega) (by omega) hbase
    have h6 : Ah w' base v' (n + 1) (bs ++ l) := by
      unfold Ah
      rw [ubs_append]
      exact h2
    obtain ⟨A, c, rfl⟩ := h6.form
    unfold Oper.wp execOp
    simp only [ho, resolve, invoke, builtin, Sem.run_bind, Sem.run_pure, Result.andThen_ok, List.map_toArray, List.map_cons, List.map_nil, hs, hx, hr]
    exact hK _ _ (h A c w' h6 h3 h5)
/-- The hash that is written at a place, as it is built. -/
theorem built_wv12 (z : Int) : Tryd.prog.built 25 [(0, .int .u8 z), (1, .int .u8 1)] = some (Value.int .u8 z :: Value.int .u8 1 :: ubs (List.replicate 30 0)).toArray := by kernel_rfl
theorem wv12_ubs {j : Nat} (h : j < 256) : ubs (wv12 j) = Value.int .u8 (j : Int) :: Value.int .u8 1 :: ubs (List.replicate 30 0) := by
  have e : (UInt8.ofNat j).toNat = j := by rw [UInt8.toNat_ofNat']; omega
  unfold wv12 ubs
  rw [List.map_cons, List.map_cons]
  unfold ub
  rw [e]
  rfl
theorem run_build_wv12 {o : Oper} {a : Go.Act} {W : World} (x : Operand) (ho : o.op = .build 25 #[(0, x), (1, .const (.int .u8 1))]) {j : Nat} (hj : j < 256) (hx : a.eval x = .int .u8 (j : Int)) : (execOp a.eval o).run Tryd.prog W = .ok (.value (.agg (ubs (wv12 j)).toArray)) W :=
  run_build_of _ _ ho _ (by
    rw [wv12_ubs hj, ← built_wv12]
    have : a.eval (.const (.int .u8 1)) = .int .u8 1 := rfl
    simp [hx, this])
theorem rd_later12 {V V' : World} {A : Option Addr} {xs : List Value} (h : Rd V V.heap.size A xs) (hb : Below V.heap.size V V') : Rd V' V'.heap.size A xs := (Rd.below h hb).mono hb.size
/-- Two scripts in memory. -/
structure LdB (w : World) (O : Array Value) (V : World) : Prop where
  bl : Below w.heap.size w V
  g : At V w.heap.size O 97
theorem LdB.new {w V V' : World} {O : Array Value} (x : LdB w O V) (hb : Below V.heap.size V V') : LdB w O V' := ⟨x.bl.trans (hb.mono x.bl.size), x.g.new_ hb⟩
theorem LdB.start {w : World} {O : Array Value} : LdB w O (w.alloc (.cells O 97)) := ⟨(Below.refl _ _).alloc (Nat.le_refl _) _, At.new _ _ _⟩
theorem LdB.cells {w V : World} {a b : Value} (x : LdB w #[a, b] V) : V.cell? ⟨w.heap.size, 0, none⟩ = some a ∧ V.cell? ⟨w.heap.size, 1, none⟩ = some b := by
  rw [x.g.cell, x.g.cell]
  exact ⟨rfl, rfl⟩
/-- .. and the tree. -/
structure LdT (Pt : PtT) (w : World) (O : Array Value) (S : Nat → Prop) (b k : Nat) (L : List (Nat × List UInt8)) (V : World) : Prop where
  t : Pt S V b k L
  lo : ∀ j, S j → w.heap.size < j
  x : LdB w O V
section
variable {Pt : PtT} {w0 w V V' : World} {O : Array Value} {S S' : Nat → Prop} {b k : Nat} {L L' : List (Nat × List UInt8)}
theorem LdT.new (t : T9c Pt w0) (x : LdT Pt w O S b k L V) (hb : Below V.heap.size V V') : LdT Pt w O S b k L V' := ⟨t.new x.t hb, x.lo, x.x.new hb⟩
theorem LdT.set (x : LdT Pt w O S b k L V) (p : Pt S' V' b k L') (hn : ∀ j, S' j → S j ∨ V.heap.size ≤ j) (hf : Fr S V V') : LdT Pt w O S' b k L' V' :=
  ⟨p, fun j hj => (hn j hj).elim (x.lo j) (fun h => by have := x.x.g.lt; omega), x.x.bl.trans (hf.below (fun j hj => Nat.le_of_lt (x.lo j hj)) x.x.bl.size), x.x.g.fr hf (fun h => absurd (x.lo _ h) (Nat.lt_irrefl _))⟩
theorem LdT.far (t : T9c Pt w0) (x : LdT Pt w O S b k L V) {M : Nat} (hb : Below M V V') (hM : ∀ j, S j → j < M) (hw : w.heap.size < M) : LdT Pt w O S b k L V' :=
  ⟨t.keep x.t hb.size (KeepsS.of_below hb hM), x.lo, x.x.bl.trans (hb.mono (Nat.le_of_lt hw)), x.x.g.below hb hw⟩
theorem LdT.put (t : T9c Pt w0) (x : LdT Pt w O S b k L V) {G : Nat} (hG : w.heap.size < G) (hS : ¬ S G) (cs : Array Value) : LdT Pt w O S b k L (V.setRow G cs) :=
  ⟨t.keep x.t (by simp) (fun j hj => setRow_other V G j cs (by rintro rfl; exact hS hj)), x.lo, below_setRow x.x.bl (Nat.le_of_lt hG) _, At.setRow_far x.x.g (by omega)⟩
theorem LdT.lt (t : T9c Pt w0) (x : LdT Pt w O S b k L V) : ∀ j, S j → j < V.heap.size := fun j hj => (t.inn x.t j hj).2
end
/-- .. while its leaves are written. -/
structure LdL (Pt : PtT) (w : World) (O : Array Value) (V0 : World) (S0 S : Nat → Prop) (b k : Nat) (L : List (Nat × List UInt8)) (v : Value) (j : Nat) (V : World) : Prop where
  t : LdT Pt w O S b k L V
  fr : Fr S0 V0 V
  ne : ∀ i, i < V0.heap.size → S i → S0 i
  a : Ah V V0.heap.size v j (wvs12 j)
  ao : ∀ i, v.ownBlock = some i → ¬ S i
section
variable {Pt : PtT} {w0 w V V0 V' : World} {O : Array Value} {S0 S S' : Nat → Prop} {b k j : Nat} {L L' : List (Nat × List UInt8)} {v v' : Value}
theorem LdL.new (t : T9c Pt w0) (x : LdL Pt w O V0 S0 S b k L v j V) (hb : Below V.heap.size V V') : LdL Pt w O V0 S0 S b k L v j V' :=
  ⟨x.t.new t hb, x.fr.next (Fr.of_new (S := fun _ => False) hb) (fun _ _ h => h.elim), x.ne, x.a.kept hb, x.ao⟩
theorem LdL.push (t : T9c Pt w0) (hw : w.heap.size < V0.heap.size) (x : LdL Pt w O V0 S0 S b k L v j V) (h1 : Ah V' V0.heap.size v' (j + 1) (wvs12 j ++ wv12 j)) (hg : V.grownBy V' v.ownBlock) (hn : v'.ownBlock = v.ownBlock ∨ v'.ownBlock = some V.heap.size) : LdL Pt w O V0 S0 S b k L v' (j + 1) V' := by
  have hlo : ∀ i, v.ownBlock = some i → V0.heap.size ≤ i := fun i hi => (x.a.lt i hi).1
  have hsz := x.fr.size
  have hB : Below V0.heap.size V V' := (Below.refl _ _).grown hg hsz hlo
  refine ⟨⟨t.keep x.t.t hg.size (fun i hi => hg.block i (x.t.lt t i hi) (fun e => x.ao i e.symm hi)), x.t.lo, x.t.x.bl.trans (hB.mono (Nat.le_of_lt hw)), x.t.x.g.below hB hw⟩, x.fr.grown hg (fun i e => .inl (hlo i e)), x.ne, by rw [wvs12_next]; exact h1, fun i hi => ?_⟩
  rcases hn with h | h
  · exact x.ao i (by rw [← h]; exact hi)
  · rw [h] at hi
    cases hi
    exact fun hs => absurd (x.t.lt t _ hs) (Nat.lt_irrefl _)
theorem LdL.set (x : LdL Pt w O V0 S0 S b k L v j V) (p : Pt S' V' b k L') (hn : ∀ i, S' i → S i ∨ V.heap.size ≤ i) (hf : Fr S V V') : LdL Pt w O V0 S0 S' b k L' v j V' := by
  refine ⟨x.t.set p hn hf, x.fr.next hf (fun i hi hs => x.ne i hi hs), fun i hi hs => ?_, x.a.fr hf x.ao, fun i hi hs => ?_⟩
  · rcases hn i hs with h | h
    · exact x.ne i hi h
    · have := x.fr.size
      omega
  · rcases hn i hs with h | h
    · exact x.ao i hi h
    · have := (x.a.lt i hi).2
      omega
end
end Go.Proofs.YtdegmcfcbndelaaDoor

namespace Go.Proofs.YtdegmcfcbndelaaDoor
open Go.RowKit

/-- Another tree, and a hash, in memory. -/
structure LdE (Pt : PtT) (w : World) (S : Nat → Prop) (b n : Nat) (N : List (Nat × List UInt8)) (G : Nat) (z : List UInt8) (V : World) : Prop where
  bl : Below w.heap.size w V
  p : Pt S V b n N
  g : At V G (ubs z).toArray 25
theorem LdE.new {Pt : PtT} {w0 w V V' : World} {S : Nat → Prop} {b n G : Nat} {N : List (Nat × List UInt8)} {z : List UInt8} (t : T9c Pt w0) (x : LdE Pt w S b n N G z V) (hb : Below V.heap.size V V') : LdE Pt w S b n N G z V' :=
  ⟨x.bl.trans (hb.mono x.bl.size), t.new x.p hb, x.g.new_ hb⟩
/-- .. and the scripts. -/
structure LdF (Pt : PtT) (w : World) (O : Array Value) (S : Nat → Prop) (b n : Nat) (N : List (Nat × List UInt8)) (G : Nat) (z : List UInt8) (V : World) : Prop where
  x : LdT Pt w O S b n N V
  g : At V G (ubs z).toArray 25
theorem LdF.new {Pt : PtT} {w0 w V V' : World} {O : Array Value} {S : Nat → Prop} {b n G : Nat} {N : List (Nat × List UInt8)} {z : List UInt8} (t : T9c Pt w0) (x : LdF Pt w O S b n N G z V) (hb : Below V.heap.size V V') : LdF Pt w O S b n N G z V' :=
  ⟨x.x.new t hb, x.g.new_ hb⟩
/-- What the last region yields. -/
def le12 (z : List UInt8) (b : Nat) : Nat → Value
  | 0 => .nilIface
  | 3 => .agg (ubs z).toArray
  | 4 => .pointer (some ⟨b, 0, none⟩)
  | 5 => .agg (ubs z).toArray
  | _ => .bool true
/-- What the region behind a writing step yields. -/
def lw12 (z : List UInt8) (b : Nat) : Nat → Value
  | 0 => .nilIface
  | 3 => .agg (ubs z).toArray
  | 4 => .pointer (some ⟨b, 0, none⟩)
  | 5 => .agg (ubs z).toArray
  | _ => .bool false
/-- A writing step in memory. -/
structure LdW (V : World) (G : Nat) (Ba Bb Bc : Option Addr) (ns ca cb nb cc : Nat) (l : List Nat) (ls bs : List UInt8) : Prop where
  g : At V G #[.slice Ba ns ca, .slice Bb ns cb, .slice Bc nb cc] 72
  i : Nu V V.heap.size Ba l
  o : Rd V V.heap.size Bb (ubs ls)
  b : Rd V V.heap.size Bc (ubs bs)
theorem LdW.fr {V V' : World} {S : Nat → Prop} {G : Nat} {Ba Bb Bc : Option Addr} {ns ca cb nb cc : Nat} {l : List Nat} {ls bs : List UInt8} (x : LdW V G Ba Bb Bc ns ca cb nb cc l ls bs) (hf : Fr S V V') (h0 : ¬ S G) (h1 : ∀ g o, Ba = some ⟨g, o, none⟩ → ¬ S g) (h2 : ∀ g o, Bb = some ⟨g, o, none⟩ → ¬ S g) (h3 : ∀ g o, Bc = some ⟨g, o, none⟩ → ¬ S g) : LdW V' G Ba Bb Bc ns ca cb nb cc l ls bs :=
  ⟨x.g.fr hf h0, (Rd.fr x.i hf h1).mono hf.size, (Rd.fr x.o hf h2).mono hf.size, (Rd.fr x.b hf h3).mono hf.size⟩
/-- What a list of sorted indices comes to, where something is written. -/
theorem lead_write2 {h : Nat} {L : List (Nat × List UInt8)} (g : Gd h L) {was : Nat} {l s : List Nat} {ns : Nat} (hw : was ≤ 2 ^ h) (hl : ∀ x ∈ l, x < was) (hs : s = sortS l) (hns : ns = s.length) (hn : ns ≤ 20) (hz : s ≠ []) :
    rgtB (h : Int) s = true ∧ s.Pairwise (· < ·) ∧ (∀ x ∈ s, x < was) ∧ wrN (nodeS h 0 L) (h : Int) s ns (spotsS s h 0).length ns (leavesS L s) (besideS L (spotsS s h 0)) = 0 ∧
    wrE (nodeS h 0 L) (h : Int) s ns (spotsS s h 0).length ns (leavesS L s) (besideS L (spotsS s h 0)) (wvs12 ns) = nodeS h 0 (setL12 L s ns) := by
  have hx : ∀ x ∈ s, x < was := fun x hx => hl x (by rw [hs] at hx; exact ((sortS_up l).2 x).1 hx)
  have hp : s.Pairwise (· < ·) := by rw [hs]; exact (sortS_up l).1
  have hr : rgtB (h : Int) s = true := by
    rw [hs]
    exact rgt_sort g.hh (fun x hx => Nat.lt_of_lt_of_le (hl x hx) hw) (by rw [← hs]; exact hz) (by rw [← hs, ← hns]; omega)
  have := lead_write g hp hr (fun x h => Nat.lt_of_lt_of_le (hx x h) hw)
  rw [← hns] at this
  exact ⟨hr, hp, hx, this.1, this.2⟩
end Go.Proofs.YtdegmcfcbndelaaDoor
