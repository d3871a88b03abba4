/-
  Layer 9, the document's side: part, walked.
-/
import Derived.Test.YtlmecjnlinalkaaDoorJ4
namespace Go.Proofs.YtlmecjnlinalkaaDoor
open Go.RowKit

set_option maxRecDepth 100000 in
set_option maxHeartbeats 1000000 in
/-- Height 0: the first leaf's hash. -/
theorem part_zero (p : Nat × List UInt8) (L : List (Nat × List UInt8)) (pl : Nat) (h : Int) (A' E A : Option Addr) (n' c' cE c : Nat) (w : World) (ho : okL (p :: L)) (hv : Lv w w.heap.size A (p :: L)) :
    Calls Tryd.prog 56 #[.agg #[.int .i64 h, .slice A' n' c', .slice E 33 cE], .slice A (p :: L).length c, .int .i64 0, .int .u64 (pl : Int)] w fun r w' => r = .returned (.agg (ubs p.2).toArray) ∧ Below w.heap.size w w' := by
  obtain ⟨m, hm⟩ : ∃ m, m = (p :: L).length := ⟨_, rfl⟩
  have hm0 : 0 < m := by rw [hm]; simp
  rw [← hm]
  obtain ⟨T, hT⟩ : ∃ T : Array Value, T = #[.int .i64 h, .slice A' n' c', .slice E 33 cE] := ⟨_, rfl⟩
  have H0 := hid (PtW.start w T)
  rw [hT] at H0
  obtain ⟨g, o, rfl, hg, hr⟩ := (hv.below H0.out.below).leaf ho (k := 0) (by simp)
  have HR := hid (leaf_hash (show World.rangeAt _ g o (lfV p) from hr))
  have HL := hid (ho p (by simp)).2
  have HH := hid n32_length
  have c0 : decide ((m : Int) = 0) = false := by simp; omega
  have c0b : ((m : Int) == 0) = false := by simp; omega
  have c0n : decide (m = 0) = false := by simp; omega
  have c1 : (0 : Int) < (m : Int) := by omega
  have hz := noughts32
  clear hT hg hr ho hv hm
  go_enter Tryd.func56, Tryd.ntmps56
  go_wp2_with (first
    | (refine wpList_valW (by rfl) (run_loadH (.tmp 24) rfl g (o + 1) rfl p.2 HR.out HL.out) ?_)
    | (refine wpList_store_row rfl _ (.tmp 8) (.tmp 25) rfl (w.heap.size + 1) (ubs p.2).toArray rfl rfl 25 (ubs n32).toArray H0.out.r (sizeH_of HL.out) ?e5 (ubs_all _) ?e6; rotate_right))
  case e5 => simp [ubs_length, n32_length, HL.out]
  refine bodyPost_ret (results_cell_row rfl _ _ (w.heap.size + 1) 25 (ubs p.2).toArray (0, 0) _ rfl (setRow_heap _ _ (ubs n32).toArray _ _ _ H0.out.r) Tryd.underlying25 rfl (sizeH_of HL.out)) rfl ?_
  exact ⟨rfl, below_setRow H0.out.below (by omega) _⟩
/-- What part answers for a height, whatever the leaves. -/
def PartC (n : Nat) (w : World) : Prop := ∀ (pl : Nat) (L : List (Nat × List UInt8)) (h : Int) (A' E A : Option Addr) (n' c' cE c : Nat) (W : World), Below w.heap.size w W → pl < 18446744073709551616 → okL L → L.length ≤ 1000 → Lv W W.heap.size A L → Ev W W.heap.size E →
  Calls Tryd.prog 56 #[.agg #[.int .i64 h, .slice A' n' c', .slice E 33 cE], .slice A L.length c, .int .i64 (n : Int), .int .u64 (pl : Int)] W fun r w' => r = .returned (.agg (ubs (partS n pl L)).toArray) ∧ Below W.heap.size W w'
/-- What part's last region yields. -/
def ptF (k n pl pL pR : Nat) (T : Array Value) (va vb : Value) (hl hr hj : List UInt8) : Nat → Value
  | 0 => .int .i64 (n : Int)
  | 1 => .agg T
  | 2 => va
  | 3 => .int .i64 (n : Int)
  | 4 => .int .i64 (k : Int)
  | 5 => .int .u64 (pl : Int)
  | 6 => .int .u64 (pL : Int)
  | 7 => .agg (ubs hl).toArray
  | 8 => .agg T
  | 9 => vb
  | 10 => .int .i64 (n : Int)
  | 11 => .int .i64 (k : Int)
  | 12 => .int .u64 (pl : Int)
  | 13 => .int .u64 (pL : Int)
  | 14 => .int .u64 (pR : Int)
  | 15 => .agg (ubs hr).toArray
  | _ => .agg (ubs hj).toArray
set_option maxRecDepth 100000 in
set_option maxHeartbeats 4000000 in
/-- A greater height. -/
theorem part_succ (k : Nat) (hk : k < 32) (pl : Nat) (L : List (Nat × List UInt8)) (hne : L ≠ []) (h : Int) (A' E A : Option Addr) (n' c' cE c : Nat) (w : World) (ho : okL L) (hlen : L.length ≤ 1000) (hv : Lv w w.heap.size A L) (he : Ev w w.heap.size E) (IH : PartC k w) (hT : Tabr w) (hI : Tab w 1 IV.l) :
    Calls Tryd.prog 56 #[.agg #[.int .i64 h, .slice A' n' c', .slice E 33 cE], .slice A L.length c, .int .i64 ((k + 1 : Nat) : Int), .int .u64 (pl : Int)] w fun r w' => r = .returned (.agg (ubs (partS (k + 1) pl L)).toArray) ∧ Below w.heap.size w w' := by
  have HIB := hid (fun (W : World) (h : Below w.heap.size w W) => Tab.below (x := IV.a) (xs := [IV.b, IV.c, IV.d, IV.e, IV.f, IV.g, IV.h]) hI h)
  rw [partS_succ k pl hne]
  obtain ⟨pL, hpL⟩ : ∃ q, q = 2 * pl % 18446744073709551616 := ⟨_, rfl⟩
  obtain ⟨pR, hpR⟩ : ∃ q, q = (2 * pl + 1) % 18446744073709551616 := ⟨_, rfl⟩
  have HPL := hid hpL
  have mL : IntKind.u64.wrap (2 * (pl : Int)) = (pL : Int) := by simp [IntKind.wrap, IntKind.signed, IntKind.bits]; omega
  have mR : IntKind.u64.wrap ((pL : Int) + 1) = (pR : Int) := by simp [IntKind.wrap, IntKind.signed, IntKind.bits]; omega
  have ML := hid mL
  have MR := hid mR
  obtain ⟨n, hn⟩ : ∃ n, n = k + 1 := ⟨_, rfl⟩
  have nk : (n : Int) - 1 = (k : Int) := by omega
  have wk : IntKind.i64.wrap (k : Int) = (k : Int) := by simp [IntKind.wrap, IntKind.signed, IntKind.bits]; omega
  have uk : IntKind.u64.wrap (k : Int) = (k : Int) := by simp [IntKind.wrap, IntKind.signed, IntKind.bits]; omega
  have NK := hid nk
  have WK := hid wk
  have HLL := hid (fun (W : World) (A1 : Option Addr) (c1 : Nat) (b : Below w.heap.size w W) (v : Lv W W.heap.size A1 (lS k pl L)) (e : Ev W W.heap.size E) => IH pL (lS k pl L) h A' E A1 n' c' cE c1 W b (by omega) (ho.lS k pl) (Nat.le_trans (lS_le k pl L) hlen) v e)
  have HRR := hid (fun (W : World) (A1 : Option Addr) (c1 : Nat) (b : Below w.heap.size w W) (v : Lv W W.heap.size A1 (rS k pl L)) (e : Ev W W.heap.size E) => IH pR (rS k pl L) h A' E A1 n' c' cE c1 W b (by omega) (ho.rS k pl) (Nat.le_trans (rS_le k pl L) hlen) v e)
  rw [← hpL, ← hpR, ← hn]
  have L1 := hid (partS_length k pL (lS k pl L) (ho.lS k pl))
  have L2 := hid (partS_length k pR (rS k pl L) (ho.rS k pl))
  have HJ := hid (fun (W : World) (b : Below w.heap.size w W) => joinR_any n (partS k pL (lS k pl L)) (partS k pR (rS k pl L)) W L1.out L2.out (hT.below b) (HIB.out W b))
  have L3 := hid (hashL_length (joinT n (partS k pL (lS k pl L)) (partS k pR (rS k pl L))))
  generalize hashL (joinT n (partS k pL (lS k pl L)) (partS k pR (rS k pl L))) = hj at HJ L3 ⊢
  generalize partS k pL (lS k pl L) = hl at HLL HJ L1
  generalize partS k pR (rS k pl L) = hr at HRR HJ L2
  obtain ⟨T, hT'⟩ : ∃ T : Array Value, T = #[.int .i64 h, .slice A' n' c', .slice E 33 cE] := ⟨_, rfl⟩
  have TT := hid hT'
  have H0 := hid (PtW.start w T)
  have HV := hid (fun (W : World) (b : Below w.heap.size w W) => hv.below b)
  have HE := hid (fun (W : World) (b : Below w.heap.size w W) => show Ev W W.heap.size E from (Rd.below he b).mono b.size)
  have HO := hid ho
  have HLEN := hid hlen
  have HSZ := hid (show (Tryd.prog.info? 33).map (·.size) = some T.size by rw [sizeTr, hT']; rfl)
  rw [← hT'] at HLL HRR ⊢
  obtain ⟨len, hlen'⟩ : ∃ m, m = L.length := ⟨_, rfl⟩
  have hl0 : 0 < len := by
    rw [hlen']
    cases L with
    | nil => exact absurd rfl hne
    | cons q L => simp
  rw [← hlen']
  have HN := hid hlen'
  have c0 : decide ((len : Int) = 0) = false := by simp; omega
  have c0b : ((len : Int) == 0) = false := by simp; omega
  have c0n : decide (len = 0) = false := by simp; omega
  have d0 : decide ((n : Int) = 0) = false := by simp; omega
  have d0b : ((n : Int) == 0) = false := by simp; omega
  have d0n : decide (n = 0) = false := by simp; omega
  have hz := noughts32
  have HK := hid (show k ≤ 64 by omega)
  have HNK := hid hn
  clear hk hne ho hlen hv he IH hT hI HIB hpL hpR hn hT' hlen' hl0 mR
  go_enter Tryd.func56, Tryd.ntmps56
  go_wp2
  clear c0 c0b c0n d0 d0b d0n hz
  go_loopw [9, 10, 11] (fun v9 v10 v11 wr => ∃ (j : Nat) (A1 A2 : Option Addr) (c1 c2 : Nat), j ≤ len ∧ v11 = .int .i64 (j : Int) ∧ v9 = .slice A1 (lS k pl (L.take j)).length c1 ∧ v10 = .slice A2 (rS k pl (L.take j)).length c2 ∧ PtW w T (.slice A1 (lS k pl (L.take j)).length c1) (.slice A2 (rS k pl (L.take j)).length c2) (lS k pl (L.take j)) (rS k pl (L.take j)) wr) (fun _ _ v11 _ => len - (intOf v11).toNat)
  case atStart =>
    refine ⟨0, none, none, 0, 0, by omega, rfl, ?_, ?_, ?_⟩
    · rw [lS_zero]; rfl
    · rw [rS_zero]; rfl
    · rw [lS_zero, rS_zero]; exact H0.out
  case round =>
    clear H0
    obtain ⟨j, A1, A2, c1, c2, hjle, rfl, rfl, rfl, hW⟩ := hrel
    have HW := hid hW
    clear hW
    by_cases hlt : j < len
    · have hjl : j < L.length := by rw [← HN.out]; exact hlt
      have e1 : decide ((j : Int) < (len : Int)) = true := by simp; omega
      have e1' : decide (j < len) = true := by simp; omega
      have e2 : (j : Int) < (len : Int) := by omega
      obtain ⟨g, o, rfl, hg, hr0⟩ := (HV.out wr HW.out.below).leaf HO.out hjl
      have HP := hid (HO.out.get hjl)
      have hA := lS_next k pl L j hjl
      have hB := rS_next k pl L j hjl
      obtain ⟨p, hp⟩ : ∃ p, p = L[j] := ⟨_, rfl⟩
      rw [← hp] at hr0 HP hA hB
      rw [← HPL.out] at hA hB
      obtain ⟨x, hx⟩ : ∃ x, x = o + 33 * j := ⟨_, rfl⟩
      rw [← hx] at hr0
      have ex : o + j * 33 = x := by omega
      have HGW := hid (Nat.lt_of_lt_of_le hg HW.out.below.size)
      have HG := hid hg
      have HX := hid hr0
      have q0 := leaf_index hr0
      have hs := shr_u64 23 p.1 k .u64 HK.out
      obtain ⟨s, hs'⟩ : ∃ s, s = p.1 >>> k := ⟨_, rfl⟩
      rw [← hs'] at hs hA hB
      have wj : IntKind.i64.wrap ((j : Int) + 1) = ((j + 1 : Nat) : Int) := by have := HLEN.out; have := HN.out; simp [IntKind.wrap, IntKind.signed, IntKind.bits]; omega
      have HJ1 := hid (show j + 1 ≤ len by omega)
      have LL := hid (show (lS k pl (L.take j)).length ≤ 1000 from Nat.le_trans (lS_le _ _ _) (Nat.le_trans (by rw [List.length_take]; omega) HLEN.out))
      have LR := hid (show (rS k pl (L.take j)).length ≤ 1000 from Nat.le_trans (rS_le _ _ _) (Nat.le_trans (by rw [List.length_take]; omega) HLEN.out))
      have HA := hid hA
      have HB := hid hB
      obtain ⟨LA, hLA⟩ : ∃ l, l = lS k pl (L.take j) := ⟨_, rfl⟩
      obtain ⟨LB, hLB⟩ : ∃ l, l = rS k pl (L.take j) := ⟨_, rfl⟩
      rw [← hLA] at HA HW LL ⊢
      rw [← hLB] at HB HW LR ⊢
      obtain ⟨nA, hnA⟩ : ∃ m, m = LA.length := ⟨_, rfl⟩
      obtain ⟨nB, hnB⟩ : ∃ m, m = LB.length := ⟨_, rfl⟩
      rw [← hnA] at HW ⊢
      rw [← hnB] at HW ⊢
      have NA := hid hnA
      have NB := hid hnB
      clear hjl hg hr0 hp hx hA hB hs' hlt hLA hLB hnA hnB hjle
      by_cases hc : s = pL
      · have f0 : decide ((s : Int) = (pL : Int)) = true := by simp; omega
        have f0b : ((s : Int) == (pL : Int)) = true := by simp; omega
        have f0n : decide (s = pL) = true := by simp; omega
        have HA2 := hid (show lS k pl (L.take (j + 1)) = LA ++ [p] by rw [HA.out, if_pos (by simpa using hc)])
        have HB2 := hid (show rS k pl (L.take (j + 1)) = LB by rw [HB.out, if_pos (by simpa using hc)])
        clear HA HB hc
        go_wp2_with (first
          | (refine wpList_valW (by rfl) (run_loadLf (.tmp 47) rfl g x rfl p HX.out HP.out.2) ?_)
          | (refine wpList_valW (by rfl) (run_buildLf (.tmp 48) rfl p HP.out.2 rfl) ?_)
          | (refine wpList_append_lf (by rfl) (.tmp 44) (.tmp 49) rfl (w.heap.size + 2) (.slice A1 nA c1) LA rfl (HW.out.a.kept ((Below.refl _ _).alloc (Nat.le_refl _) _)) wr.heap.size p rfl (At.new _ _ _) HP.out.2 LL.out (by have := HW.out.big; simp; omega) ?_; intro A3 c3 w3 h1 h2 h3; have HW3 := hid (HW.out.pushA h1 h2 h3); clear h1 h2 h3))
        exact ⟨⟨j + 1, A3, A2, c3, c2, HJ1.out, by go_num, by rw [HA2.out, List.length_append]; rfl, by rw [HB2.out, NB.out], by rw [HA2.out, HB2.out, ← NB.out]; exact HW3.out⟩, by have := HJ1.out; simp [intOf]; omega⟩
      · have f0 : decide ((s : Int) = (pL : Int)) = false := by simp; omega
        have f0b : ((s : Int) == (pL : Int)) = false := by simp; omega
        have f0n : decide (s = pL) = false := by simp; omega
        have HA2 := hid (show lS k pl (L.take (j + 1)) = LA by rw [HA.out, if_neg (by simpa using hc)])
        have HB2 := hid (show rS k pl (L.take (j + 1)) = LB ++ [p] by rw [HB.out, if_neg (by simpa using hc)])
        clear HA HB hc
        go_wp2_with (first
          | (refine wpList_valW (by rfl) (run_loadLf (.tmp 54) rfl g x rfl p HX.out HP.out.2) ?_)
          | (refine wpList_valW (by rfl) (run_buildLf (.tmp 55) rfl p HP.out.2 rfl) ?_)
          | (refine wpList_append_lf (by rfl) (.tmp 51) (.tmp 56) rfl (w.heap.size + 2) (.slice A2 nB c2) LB rfl (HW.out.b.kept ((Below.refl _ _).alloc (Nat.le_refl _) _)) wr.heap.size p rfl (At.new _ _ _) HP.out.2 LR.out (by have := HW.out.big; simp; omega) ?_; intro A3 c3 w3 h1 h2 h3; have HW3 := hid (HW.out.pushB h1 h2 h3); clear h1 h2 h3))
        exact ⟨⟨j + 1, A1, A3, c1, c3, HJ1.out, by go_num, by rw [HA2.out, NA.out], by rw [HB2.out, List.length_append]; rfl, by rw [HA2.out, HB2.out, ← NA.out]; exact HW3.out⟩, by have := HJ1.out; simp [intOf]; omega⟩
    · obtain rfl : j = len := by omega
      have e1 : decide ((j : Int) < (j : Int)) = false := by simp
      have hall : L.take j = L := by rw [HN.out, List.take_length]
      rw [hall] at HW ⊢
      go_wp2
      try simp only [Act.put, List.setIfInBounds_toArray, List.set_cons_succ, List.set_cons_zero]
      refine wp_region_facts 17 18 [58, 59, 60, 61, 62, 63, 64, 65, 66, 67, 68, 69, 70, 71, 72, 73, 74] (fun i v _ => v = ptF k n pl pL pR T (.slice A1 (lS k pl L).length c1) (.slice A2 (rS k pl L).length c2) hl hr hj i) (PtW w T (.slice A1 (lS k pl L).length c1) (.slice A2 (rS k pl L).length c2) (lS k pl L) (rS k pl L)) (by kernel_rfl) (by kernel_rfl)
        (fun W W' h hb => h.new hb) (fun _ _ _ _ h _ => h) (HW.out.drew) ?_ ?_
      · intro i hi vals W K hB hn hK
        simp only [frm_cons, frm_nil, List.set_cons_succ, List.set_cons_zero, Nat.reduceAdd] at hK ⊢
        rcases (by omega : i = 0 ∨ i = 1 ∨ i = 2 ∨ i = 3 ∨ i = 4 ∨ i = 5 ∨ i = 6 ∨ i = 7 ∨ i = 8 ∨ i = 9 ∨ i = 10 ∨ i = 11 ∨ i = 12 ∨ i = 13 ∨ i = 14 ∨ i = 15 ∨ i = 16) with rfl | rfl | rfl | rfl | rfl | rfl | rfl | rfl | rfl | rfl | rfl | rfl | rfl | rfl | rfl | rfl | rfl
        · refine wpOp_plain rfl rfl (wp_val (w' := W) (v := .int .i64 (n : Int)) (by go_simp) ?_)
          exact hK _ _ rfl (Below.refl _ _)
        · refine wpOp_plain rfl rfl (wp_val (run_loadTr (.tmp 4) rfl w.heap.size rfl T hB.t HSZ.out) ?_)
          exact hK _ _ rfl (Below.refl _ _)
        · refine wpOp_plain rfl rfl (wp_val (w' := W) (v := .slice A1 (lS k pl L).length c1) (by go_simp) ?_)
          exact hK _ _ rfl (Below.refl _ _)
        · refine wpOp_plain rfl rfl (wp_val (w' := W) (v := .int .i64 (n : Int)) (by go_simp) ?_)
          exact hK _ _ rfl (Below.refl _ _)
        · have h3 := hn 3 (by decide +kernel)
          simp only [ptF] at h3
          simp only [h3] at hK ⊢
          have q1 := NK.out
          have q2 := WK.out
          refine wpOp_plain rfl rfl (wp_val (w' := W) (v := .int .i64 (k : Int)) (by go_simp) ?_)
          exact hK _ _ rfl (Below.refl _ _)
        · refine wpOp_plain rfl rfl (wp_val (w' := W) (v := .int .u64 (pl : Int)) (by go_simp) ?_)
          exact hK _ _ rfl (Below.refl _ _)
        · have h5 := hn 5 (by decide +kernel)
          simp only [ptF] at h5
          simp only [h5] at hK ⊢
          have q1 := ML.out
          refine wpOp_plain rfl rfl (wp_val (w' := W) (v := .int .u64 (pL : Int)) (by go_simp) ?_)
          exact hK _ _ rfl (Below.refl _ _)
        · have h1 := hn 1 (by decide +kernel)
          have h2 := hn 2 (by decide +kernel)
          have h4 := hn 4 (by decide +kernel)
          have h6 := hn 6 (by decide +kernel)
          simp only [ptF] at h1 h2 h4 h6
          simp only [h1, h2, h4, h6] at hK ⊢
          refine wpOp_plain rfl rfl ?_
          go_simp
          go_at_call 56
          refine (HLL.out W A1 c1 hB.below hB.a.lv (HE.out W hB.below)).mono ?_
          rintro e W' ⟨rfl, hb⟩
          exact hK _ _ rfl hb
        · refine wpOp_plain rfl rfl (wp_val (run_loadTr (.tmp 4) rfl w.heap.size rfl T hB.t HSZ.out) ?_)
          exact hK _ _ rfl (Below.refl _ _)
        · refine wpOp_plain rfl rfl (wp_val (w' := W) (v := .slice A2 (rS k pl L).length c2) (by go_simp) ?_)
          exact hK _ _ rfl (Below.refl _ _)
        · refine wpOp_plain rfl rfl (wp_val (w' := W) (v := .int .i64 (n : Int)) (by go_simp) ?_)
          exact hK _ _ rfl (Below.refl _ _)
        · have h10 := hn 10 (by decide +kernel)
          simp only [ptF] at h10
          simp only [h10] at hK ⊢
          have q1 := NK.out
          have q2 := WK.out
          refine wpOp_plain rfl rfl (wp_val (w' := W) (v := .int .i64 (k : Int)) (by go_simp) ?_)
          exact hK _ _ rfl (Below.refl _ _)
        · refine wpOp_plain rfl rfl (wp_val (w' := W) (v := .int .u64 (pl : Int)) (by go_simp) ?_)
          exact hK _ _ rfl (Below.refl _ _)
        · have h12 := hn 12 (by decide +kernel)
          simp only [ptF] at h12
          simp only [h12] at hK ⊢
          have q1 := ML.out
          refine wpOp_plain rfl rfl (wp_val (w' := W) (v := .int .u64 (pL : Int)) (by go_simp) ?_)
          exact hK _ _ rfl (Below.refl _ _)
        · have h13 := hn 13 (by decide +kernel)
          simp only [ptF] at h13
          simp only [h13] at hK ⊢
          have q1 := MR.out
          refine wpOp_plain rfl rfl (wp_val (w' := W) (v := .int .u64 (pR : Int)) (by go_simp) ?_)
          exact hK _ _ rfl (Below.refl _ _)
        · have h8 := hn 8 (by decide +kernel)
          have h9 := hn 9 (by decide +kernel)
          have h11 := hn 11 (by decide +kernel)
          have h14 := hn 14 (by decide +kernel)
          simp only [ptF] at h8 h9 h11 h14
          simp only [h8, h9, h11, h14] at hK ⊢
          refine wpOp_plain rfl rfl ?_
          go_simp
          go_at_call 56
          refine (HRR.out W A2 c2 hB.below hB.b.lv (HE.out W hB.below)).mono ?_
          rintro e W' ⟨rfl, hb⟩
          exact hK _ _ rfl hb
        · have h0 := hn 0 (by decide +kernel)
          have h7 := hn 7 (by decide +kernel)
          have h15 := hn 15 (by decide +kernel)
          simp only [ptF] at h0 h7 h15
          simp only [h0, h7, h15] at hK ⊢
          refine wpOp_plain rfl rfl ?_
          go_simp
          go_at_call 88
          refine (HJ.out W hB.below).mono ?_
          rintro e W' ⟨rfl, hb⟩
          exact hK _ _ rfl hb
      · intro vals W hB hF
        have h16 := hF 16 (by omega)
        simp only [ptF] at h16
        simp only [frm_cons, frm_nil, List.set_cons_succ, List.set_cons_zero, Nat.reduceAdd, h16]
        refine wpUpto_one (i := 17) rfl (by decide +kernel) rfl ?_
        intro Q0 hQ0
        refine wp_store_row 25 (.tmp 8) (.tmp 74) rfl (w.heap.size + 1) (ubs hj).toArray rfl rfl 25 (ubs n32).toArray hB.r (sizeH_of L3.out) (by simp [ubs_length, n32_length, L3.out]) (ubs_all _) ?_
        refine hQ0.out _ _ (fun _ => trivial) ?_
        clear hQ0 Q0
        refine wpUpto_done (by decide +kernel) ?_ _
        have R1 := hid (show At (W.setRow (w.heap.size + 1) (ubs hj).toArray) (w.heap.size + 1) (ubs hj).toArray 25 from setRow_heap _ _ (ubs n32).toArray _ _ _ hB.r)
        have R2 := hid (below_setRow hB.below (show w.heap.size ≤ w.heap.size + 1 by omega) (ubs hj).toArray)
        generalize W.setRow (w.heap.size + 1) (ubs hj).toArray = W9 at R1 R2 ⊢
        clear hB hF h16
        go_simp
        go_wp2
        refine bodyPost_ret (results_cell_row rfl _ _ (w.heap.size + 1) 25 (ubs hj).toArray (0, 0) _ rfl R1.out Tryd.underlying25 rfl (sizeH_of L3.out)) rfl ?_
        exact ⟨rfl, R2.out⟩
/-- part, for every height. -/
theorem partR_any : ∀ (n : Nat), n ≤ 32 → ∀ (w : World), Tabr w → Tab w 1 IV.l → PartC n w := by
  intro n
  induction n with
  | zero =>
    intro _ w hT hI pl L h A' E A n' c' cE c W hb _ ho hl hv he
    cases L with
    | nil =>
      rw [partS_nil]
      exact part_nil 0 (by omega) pl h A' E A n' c' cE c W he
    | cons p L => exact (partS_zero pl p L) ▸ part_zero p L pl h A' E A n' c' cE c W ho hv
  | succ k ih =>
    intro hk w hT hI pl L h A' E A n' c' cE c W hb _ ho hl hv he
    by_cases e : L = []
    · subst e
      rw [partS_nil]
      exact part_nil (k + 1) hk pl h A' E A n' c' cE c W he
    · have hT' := hT.below hb
      have hI' := Tab.below (x := IV.a) (xs := [IV.b, IV.c, IV.d, IV.e, IV.f, IV.g, IV.h]) hI hb
      exact part_succ k (by omega) pl L e h A' E A n' c' cE c W ho hl hv he (ih (by omega) W hT' hI') hT' hI'
end Go.Proofs.YtlmecjnlinalkaaDoor
