/-
  Layer 9, the document's side: part, walked.
  Layer 9, the document's side: Node, Root.
  Layer 9, the document's side: Root, Path.
  Layer 9, the document's side: a tree that grows leaf by leaf; Resize.
  entrustnum.Hashes: two slices of hashes held against each other.
-/
import Derived.Test.YtdegmcfcbndelaaDoorJ4
import Derived.Test.YtdegmcfcbndelaaDoorY1
import Derived.Test.YtdegmcfcbndelaaDoorY4
namespace Go.Proofs.YtdegmcfcbndelaaDoor
open Go.RowKit

set_option maxRecDepth 100000 in
set_option maxHeartbeats 1000000 in
/-- Height 0: the first leaf's hash. -/
theorem part_zero (p : Nat × List UInt8) (L : List (Nat × List UInt8)) (pl : Nat) (h : Int) (A' E A : Option Addr) (n' c' cE c : Nat) (w : World) (ho : okL (p :: L)) (hv : Lv w w.heap.size A (p :: L)) :
    Calls Tryd.prog 61 #[.agg #[.int .i64 h, .slice A' n' c', .slice E 33 cE], .slice A (p :: L).length c, .int .i64 0, .int .u64 (pl : Int)] w fun r w' => r = .returned (.agg (ubs p.2).toArray) ∧ Below w.heap.size w w' := by
  obtain ⟨m, hm⟩ : ∃ m, m = (p :: L).length := ⟨_, rfl⟩
  have hm0 : 0 < m := by rw [hm]; simp
  rw [← hm]
  obtain ⟨T, hT⟩ : ∃ T : Array Value, T = #[.int .i64 h, .slice A' n' c', .slice E 33 cE] := ⟨_, rfl⟩
  have H0 := hid (PtW.start w T)
  rw [hT] at H0
  obtain ⟨g, o, rfl, hg, hr⟩ := (hv.below H0.out.below).leaf ho (k := 0) (by simp)
  have HR := hid (leaf_hash (show World.rangeAt _ g o (lfV p) from hr))
  have HL := hid (ho p (by simp)).2
  have HH := hid n32_length
  have c0 : decide ((m : Int) = 0) = false := by simp; omega
  have c0b : ((m : Int) == 0) = false := by simp; omega
  have c0n : decide (m = 0) = false := by simp; omega
  have c1 : (0 : Int) < (m : Int) := by omega
  have hz := noughts32
  clear hT hg hr ho hv hm
  go_enter Tryd.func61, Tryd.ntmps61
  go_wp2_with (first
    | (refine wpList_valW (by rfl) (run_loadH (.tmp 24) rfl g (o + 1) rfl p.2 HR.out HL.out) ?_)
    | (refine wpList_store_row rfl _ (.tmp 8) (.tmp 25) rfl (w.heap.size + 1) (ubs p.2).toArray rfl rfl 25 (ubs n32).toArray H0.out.r (sizeH_of HL.out) ?e5 (ubs_all _) ?e6; rotate_right))
  case e5 => simp [ubs_length, n32_length, HL.out]
  refine bodyPost_ret (results_cell_row rfl _ _ (w.heap.size + 1) 25 (ubs p.2).toArray (0, 0) _ rfl (setRow_heap _ _ (ubs n32).toArray _ _ _ H0.out.r) Tryd.underlying25 rfl (sizeH_of HL.out)) rfl ?_
  exact ⟨rfl, below_setRow H0.out.below (by omega) _⟩
/-- What part answers for a height, whatever the leaves. -/
def PartC (n : Nat) (w : World) : Prop := ∀ (pl : Nat) (L : List (Nat × List UInt8)) (h : Int) (A' E A : Option Addr) (n' c' cE c : Nat) (W : World), Below w.heap.size w W → pl < 18446744073709551616 → okL L → L.length ≤ 1000 → Lv W W.heap.size A L → Ev W W.heap.size E →
  Calls Tryd.prog 61 #[.agg #[.int .i64 h, .slice A' n' c', .slice E 33 cE], .slice A L.length c, .int .i64 (n : Int), .int .u64 (pl : Int)] W fun r w' => r = .returned (.agg (ubs (partS n pl L)).toArray) ∧ Below W.heap.size W w'
/-- What part's last region yields. -/
def ptF (k n pl pL pR : Nat) (T : Array Value) (va vb : Value) (hl hr hj : List UInt8) : Nat → Value
  | 0 => .int .i64 (n : Int)
  | 1 => .agg T
  | 2 => va
  | 3 => .int .i64 (n : Int)
  | 4 => .int .i64 (k : Int)
  | 5 => .int .u64 (pl : Int)
  | 6 => .int .u64 (pL : Int)
  | 7 => .agg (ubs hl).toArray
  | 8 => .agg T
  | 9 => vb
  | 10 => .int .i64 (n : Int)
  | 11 => .int .i64 (k : Int)
  | 12 => .int .u64 (pl : Int)
  | 13 => .int .u64 (pL : Int)
  | 14 => .int .u64 (pR : Int)
  | 15 => .agg (ubs hr).toArray
  | _ => .agg (ubs hj).toArray
set_option maxRecDepth 100000 in
set_option maxHeartbeats 4000000 in
/-- A greater height. -/
theorem part_succ (k : Nat) (hk : k < 32) (pl : Nat) (L : List (Nat × List UInt8)) (hne : L ≠ []) (h : Int) (A' E A : Option Addr) (n' c' cE c : Nat) (w : World) (ho : okL L) (hlen : L.length ≤ 1000) (hv : Lv w w.heap.size A L) (he : Ev w w.heap.size E) (IH : PartC k w) (hT : Tabr w) (hI : Tab w 1 IV.l) :
    Calls Tryd.prog 61 #[.agg #[.int .i64 h, .slice A' n' c', .slice E 33 cE], .slice A L.length c, .int .i64 ((k + 1 : Nat) : Int), .int .u64 (pl : Int)] w fun r w' => r = .returned (.agg (ubs (partS (k + 1) pl L)).toArray) ∧ Below w.heap.size w w' := by
  have HIB := hid (fun (W : World) (h : Below w.heap.size w W) => Tab.below (x := IV.a) (xs := [IV.b, IV.c, IV.d, IV.e, IV.f, IV.g, IV.h]) hI h)
  rw [partS_succ k pl hne]
  obtain ⟨pL, hpL⟩ : ∃ q, q = 2 * pl % 18446744073709551616 := ⟨_, rfl⟩
  obtain ⟨pR, hpR⟩ : ∃ q, q = (2 * pl + 1) % 18446744073709551616 := ⟨_, rfl⟩
  have HPL := hid hpL
  have mL : IntKind.u64.wrap (2 * (pl : Int)) = (pL : Int) := by simp [IntKind.wrap, IntKind.signed, IntKind.bits]; omega
  have mR : IntKind.u64.wrap ((pL : Int) + 1) = (pR : Int) := by simp [IntKind.wrap, IntKind.signed, IntKind.bits]; omega
  have ML := hid mL
  have MR := hid mR
  obtain ⟨n, hn⟩ : ∃ n, n = k + 1 := ⟨_, rfl⟩
  have nk : (n : Int) - 1 = (k : Int) := by omega
  have wk : IntKind.i64.wrap (k : Int) = (k : Int) := by simp [IntKind.wrap, IntKind.signed, IntKind.bits]; omega
  have uk : IntKind.u64.wrap (k : Int) = (k : Int) := by simp [IntKind.wrap, IntKind.signed, IntKind.bits]; omega
  have NK := hid nk
  have WK := hid wk
  have HLL := hid (fun (W : World) (A1 : Option Addr) (c1 : Nat) (b : Below w.heap.size w W) (v : Lv W W.heap.size A1 (lS k pl L)) (e : Ev W W.heap.size E) => IH pL (lS k pl L) h A' E A1 n' c' cE c1 W b (by omega) (ho.lS k pl) (Nat.le_trans (lS_le k pl L) hlen) v e)
  have HRR := hid (fun (W : World) (A1 : Option Addr) (c1 : Nat) (b : Below w.heap.size w W) (v : Lv W W.heap.size A1 (rS k pl L)) (e : Ev W W.heap.size E) => IH pR (rS k pl L) h A' E A1 n' c' cE c1 W b (by omega) (ho.rS k pl) (Nat.le_trans (rS_le k pl L) hlen) v e)
  rw [← hpL, ← hpR, ← hn]
  have L1 := hid (partS_length k pL (lS k pl L) (ho.lS k pl))
  have L2 := hid (partS_length k pR (rS k pl L) (ho.rS k pl))
  have HJ := hid (fun (W : World) (b : Below w.heap.size w W) => joinR_any n (partS k pL (lS k pl L)) (partS k pR (rS k pl L)) W L1.out L2.out (hT.below b) (HIB.out W b))
  have L3 := hid (hashL_length (joinT n (partS k pL (lS k pl L)) (partS k pR (rS k pl L))))
  generalize hashL (joinT n (partS k pL (lS k pl L)) (partS k pR (rS k pl L))) = hj at HJ L3 ⊢
  generalize partS k pL (lS k pl L) = hl at HLL HJ L1
  generalize partS k pR (rS k pl L) = hr at HRR HJ L2
  obtain ⟨T, hT'⟩ : ∃ T : Array Value, T = #[.int .i64 h, .slice A' n' c', .slice E 33 cE] := ⟨_, rfl⟩
  have TT := hid hT'
  have H0 := hid (PtW.start w T)
  have HV := hid (fun (W : World) (b : Below w.heap.size w W) => hv.below b)
  have HE := hid (fun (W : World) (b : Below w.heap.size w W) => show Ev W W.heap.size E from (Rd.below he b).mono b.size)
  have HO := hid ho
  have HLEN := hid hlen
  have HSZ := hid (show (Tryd.prog.info? 33).map (·.size) = some T.size by rw [sizeTr, hT']; rfl)
  rw [← hT'] at HLL HRR ⊢
  obtain ⟨len, hlen'⟩ : ∃ m, m = L.length := ⟨_, rfl⟩
  have hl0 : 0 < len := by
    rw [hlen']
    cases L with
    | nil => exact absurd rfl hne
    | cons q L => simp
  rw [← hlen']
  have HN := hid hlen'
  have c0 : decide ((len : Int) = 0) = false := by simp; omega
  have c0b : ((len : Int) == 0) = false := by simp; omega
  have c0n : decide (len = 0) = false := by simp; omega
  have d0 : decide ((n : Int) = 0) = false := by simp; omega
  have d0b : ((n : Int) == 0) = false := by simp; omega
  have d0n : decide (n = 0) = false := by simp; omega
  have hz := noughts32
  have HK := hid (show k ≤ 64 by omega)
  have HNK := hid hn
  clear hk hne ho hlen hv he IH hT hI HIB hpL hpR hn hT' hlen' hl0 mR
  go_enter Tryd.func61, Tryd.ntmps61
  go_wp2
  clear c0 c0b c0n d0 d0b d0n hz
  go_loopw [9, 10, 11] (fun v9 v10 v11 wr => ∃ (j : Nat) (A1 A2 : Option Addr) (c1 c2 : Nat), j ≤ len ∧ v11 = .int .i64 (j : Int) ∧ v9 = .slice A1 (lS k pl (L.take j)).length c1 ∧ v10 = .slice A2 (rS k pl (L.take j)).length c2 ∧ PtW w T (.slice A1 (lS k pl (L.take j)).length c1) (.slice A2 (rS k pl (L.take j)).length c2) (lS k pl (L.take j)) (rS k pl (L.take j)) wr) (fun _ _ v11 _ => len - (intOf v11).toNat)
  case atStart =>
    refine ⟨0, none, none, 0, 0, by omega, rfl, ?_, ?_, ?_⟩
    · rw [lS_zero]; rfl
    · rw [rS_zero]; rfl
    · rw [lS_zero, rS_zero]; exact H0.out
  case round =>
    clear H0
    obtain ⟨j, A1, A2, c1, c2, hjle, rfl, rfl, rfl, hW⟩ := hrel
    have HW := hid hW
    clear hW
    by_cases hlt : j < len
    · have hjl : j < L.length := by rw [← HN.out]; exact hlt
      have e1 : decide ((j : Int) < (len : Int)) = true := by simp; omega
      have e1' : decide (j < len) = true := by simp; omega
      have e2 : (j : Int) < (len : Int) := by omega
      obtain ⟨g, o, rfl, hg, hr0⟩ := (HV.out wr HW.out.below).leaf HO.out hjl
      have HP := hid (HO.out.get hjl)
      have hA := lS_next k pl L j hjl
      have hB := rS_next k pl L j hjl
      obtain ⟨p, hp⟩ : ∃ p, p = L[j] := ⟨_, rfl⟩
      rw [← hp] at hr0 HP hA hB
      rw [← HPL.out] at hA hB
      obtain ⟨x, hx⟩ : ∃ x, x = o + 33 * j := ⟨_, rfl⟩
      rw [← hx] at hr0
      have ex : o + j * 33 = x := by omega
      have HGW := hid (Nat.lt_of_lt_of_le hg HW.out.below.size)
      have HG := hid hg
      have HX := hid hr0
      have q0 := leaf_index hr0
      have hs := shr_u64 23 p.1 k .u64 HK.out
      obtain ⟨s, hs'⟩ : ∃ s, s = p.1 >>> k := ⟨_, rfl⟩
      rw [← hs'] at hs hA hB
      have wj : IntKind.i64.wrap ((j : Int) + 1) = ((j + 1 : Nat) : Int) := by have := HLEN.out; have := HN.out; simp [IntKind.wrap, IntKind.signed, IntKind.bits]; omega
      have HJ1 := hid (show j + 1 ≤ len by omega)
      have LL := hid (show (lS k pl (L.take j)).length ≤ 1000 from Nat.le_trans (lS_le _ _ _) (Nat.le_trans (by rw [List.length_take]; omega) HLEN.out))
      have LR := hid (show (rS k pl (L.take j)).length ≤ 1000 from Nat.le_trans (rS_le _ _ _) (Nat.le_trans (by rw [List.length_take]; omega) HLEN.out))
      have HA := hid hA
      have HB := hid hB
      obtain ⟨LA, hLA⟩ : ∃ l, l = lS k pl (L.take j) := ⟨_, rfl⟩
      obtain ⟨LB, hLB⟩ : ∃ l, l = rS k pl (L.take j) := ⟨_, rfl⟩
      rw [← hLA] at HA HW LL ⊢
      rw [← hLB] at HB HW LR ⊢
      obtain ⟨nA, hnA⟩ : ∃ m, m = LA.length := ⟨_, rfl⟩
      obtain ⟨nB, hnB⟩ : ∃ m, m = LB.length := ⟨_, rfl⟩
      rw [← hnA] at HW ⊢
      rw [← hnB] at HW ⊢
      have NA := hid hnA
      have NB := hid hnB
      clear hjl hg hr0 hp hx hA hB hs' hlt hLA hLB hnA hnB hjle
      by_cases hc : s = pL
      · have f0 : decide ((s : Int) = (pL : Int)) = true := by simp; omega
        have f0b : ((s : Int) == (pL : Int)) = true := by simp; omega
        have f0n : decide (s = pL) = true := by simp; omega
        have HA2 := hid (show lS k pl (L.take (j + 1)) = LA ++ [p] by rw [HA.out, if_pos (by simpa using hc)])
        have HB2 := hid (show rS k pl (L.take (j + 1)) = LB by rw [HB.out, if_pos (by simpa using hc)])
        clear HA HB hc
        go_wp2_with (first
          | (refine wpList_valW (by rfl) (run_loadLf (.tmp 47) rfl g x rfl p HX.out HP.out.2) ?_)
          | (refine wpList_valW (by rfl) (run_buildLf (.tmp 48) rfl p HP.out.2 rfl) ?_)
          | (refine wpList_append_lf (by rfl) (.tmp 44) (.tmp 49) rfl (w.heap.size + 2) (.slice A1 nA c1) LA rfl (HW.out.a.kept ((Below.refl _ _).alloc (Nat.le_refl _) _)) wr.heap.size p rfl (At.new _ _ _) HP.out.2 LL.out (by have := HW.out.big; simp; omega) ?_; intro A3 c3 w3 h1 h2 h3; have HW3 := hid (HW.out.pushA h1 h2 h3); clear h1 h2 h3))
        exact ⟨⟨j + 1, A3, A2, c3, c2, HJ1.out, by go_num, by rw [HA2.out, List.length_append]; rfl, by rw [HB2.out, NB.out], by rw [HA2.out, HB2.out, ← NB.out]; exact HW3.out⟩, by have := HJ1.out; simp [intOf]; omega⟩
      · have f0 : decide ((s : Int) = (pL : Int)) = false := by simp; omega
        have f0b : ((s : Int) == (pL : Int)) = false := by simp; omega
        have f0n : decide (s = pL) = false := by simp; omega
        have HA2 := hid (show lS k pl (L.take (j + 1)) = LA by rw [HA.out, if_neg (by simpa using hc)])
        have HB2 := hid (show rS k pl (L.take (j + 1)) = LB ++ [p] by rw [HB.out, if_neg (by simpa using hc)])
        clear HA HB hc
        go_wp2_with (first
          | (refine wpList_valW (by rfl) (run_loadLf (.tmp 54) rfl g x rfl p HX.out HP.out.2) ?_)
          | (refine wpList_valW (by rfl) (run_buildLf (.tmp 55) rfl p HP.out.2 rfl) ?_)
          | (refine wpList_append_lf (by rfl) (.tmp 51) (.tmp 56) rfl (w.heap.size + 2) (.slice A2 nB c2) LB rfl (HW.out.b.kept ((Below.refl _ _).alloc (Nat.le_refl _) _)) wr.heap.size p rfl (At.new _ _ _) HP.out.2 LR.out (by have := HW.out.big; simp; omega) ?_; intro A3 c3 w3 h1 h2 h3; have HW3 := hid (HW.out.pushB h1 h2 h3); clear h1 h2 h3))
        exact ⟨⟨j + 1, A1, A3, c1, c3, HJ1.out, by go_num, by rw [HA2.out, NA.out], by rw [HB2.out, List.length_append]; rfl, by rw [HA2.out, HB2.out, ← NA.out]; exact HW3.out⟩, by have := HJ1.out; simp [intOf]; omega⟩
    · obtain rfl : j = len := by omega
      have e1 : decide ((j : Int) < (j : Int)) = false := by simp
      have hall : L.take j = L := by rw [HN.out, List.take_length]
      rw [hall] at HW ⊢
      go_wp2
      try simp only [Act.put, List.setIfInBounds_toArray, List.set_cons_succ, List.set_cons_zero]
      refine wp_region_facts 17 18 [58, 59, 60, 61, 62, 63, 64, 65, 66, 67, 68, 69, 70, 71, 72, 73, 74] (fun i v _ => v = ptF k n pl pL pR T (.slice A1 (lS k pl L).length c1) (.slice A2 (rS k pl L).length c2) hl hr hj i) (PtW w T (.slice A1 (lS k pl L).length c1) (.slice A2 (rS k pl L).length c2) (lS k pl L) (rS k pl L)) (by kernel_rfl) (by kernel_rfl)
        (fun W W' h hb => h.new hb) (fun _ _ _ _ h _ => h) (HW.out.drew) ?_ ?_
      · intro i hi vals W K hB hn hK
        simp only [frm_cons, frm_nil, List.set_cons_succ, List.set_cons_zero, Nat.reduceAdd] at hK ⊢
        rcases (by omega : i = 0 ∨ i = 1 ∨ i = 2 ∨ i = 3 ∨ i = 4 ∨ i = 5 ∨ i = 6 ∨ i = 7 ∨ i = 8 ∨ i = 9 ∨ i = 10 ∨ i = 11 ∨ i = 12 ∨ i = 13 ∨ i = 14 ∨ i = 15 ∨ i = 16) with rfl | rfl | rfl | rfl | rfl | rfl | rfl | rfl | rfl | rfl | rfl | rfl | rfl | rfl | rfl | rfl | rfl
        · refine wpOp_plain rfl rfl (wp_val (w' := W) (v := .int .i64 (n : Int)) (by go_simp) ?_)
          exact hK _ _ rfl (Below.refl _ _)
        · refine wpOp_plain rfl rfl (wp_val (run_loadTr (.tmp 4) rfl w.heap.size rfl T hB.t HSZ.out) ?_)
          exact hK _ _ rfl (Below.refl _ _)
        · refine wpOp_plain rfl rfl (wp_val (w' := W) (v := .slice A1 (lS k pl L).length c1) (by go_simp) ?_)
          exact hK _ _ rfl (Below.refl _ _)
        · refine wpOp_plain rfl rfl (wp_val (w' := W) (v := .int .i64 (n : Int)) (by go_simp) ?_)
          exact hK _ _ rfl (Below.refl _ _)
        · have h3 := hn 3 (by decide +kernel)
          simp only [ptF] at h3
          simp only [h3] at hK ⊢
          have q1 := NK.out
          have q2 := WK.out
          refine wpOp_plain rfl rfl (wp_val (w' := W) (v := .int .i64 (k : Int)) (by go_simp) ?_)
          exact hK _ _ rfl (Below.refl _ _)
        · refine wpOp_plain rfl rfl (wp_val (w' := W) (v := .int .u64 (pl : Int)) (by go_simp) ?_)
          exact hK _ _ rfl (Below.refl _ _)
        · have h5 := hn 5 (by decide +kernel)
          simp only [ptF] at h5
          simp only [h5] at hK ⊢
          have q1 := ML.out
          refine wpOp_plain rfl rfl (wp_val (w' := W) (v := .int .u64 (pL : Int)) (by go_simp) ?_)
          exact hK _ _ rfl (Below.refl _ _)
        · have h1 := hn 1 (by decide +kernel)
          have h2 := hn 2 (by decide +kernel)
          have h4 := hn 4 (by decide +kernel)
          have h6 := hn 6 (by decide +kernel)
          simp only [ptF] at h1 h2 h4 h6
          simp only [h1, h2, h4, h6] at hK ⊢
          refine wpOp_plain rfl rfl ?_
          go_simp
          go_at_call 61
          refine (HLL.out W A1 c1 hB.below hB.a.lv (HE.out W hB.below)).mono ?_
          rintro e W' ⟨rfl, hb⟩
          exact hK _ _ rfl hb
        · refine wpOp_plain rfl rfl (wp_val (run_loadTr (.tmp 4) rfl w.heap.size rfl T hB.t HSZ.out) ?_)
          exact hK _ _ rfl (Below.refl _ _)
        · refine wpOp_plain rfl rfl (wp_val (w' := W) (v := .slice A2 (rS k pl L).length c2) (by go_simp) ?_)
          exact hK _ _ rfl (Below.refl _ _)
        · refine wpOp_plain rfl rfl (wp_val (w' := W) (v := .int .i64 (n : Int)) (by go_simp) ?_)
          exact hK _ _ rfl (Below.refl _ _)
        · have h10 := hn 10 (by decide +kernel)
          simp only [ptF] at h10
          simp only [h10] at hK ⊢
          have q1 := NK.out
          have q2 := WK.out
          refine wpOp_plain rfl rfl (wp_val (w' := W) (v := .int .i64 (k : Int)) (by go_simp) ?_)
          exact hK _ _ rfl (Below.refl _ _)
        · refine wpOp_plain rfl rfl (wp_val (w' := W) (v := .int .u64 (pl : Int)) (by go_simp) ?_)
          exact hK _ _ rfl (Below.refl _ _)
        · have h12 := hn 12 (by decide +kernel)
          simp only [ptF] at h12
          simp only [h12] at hK ⊢
          have q1 := ML.out
          refine wpOp_plain rfl rfl (wp_val (w' := W) (v := .int .u64 (pL : Int)) (by go_simp) ?_)
          exact hK _ _ rfl (Below.refl _ _)
        · have h13 := hn 13 (by decide +kernel)
          simp only [ptF] at h13
          simp only [h13] at hK ⊢
          have q1 := MR.out
          refine wpOp_plain rfl rfl (wp_val (w' := W) (v := .int .u64 (pR : Int)) (by go_simp) ?_)
          exact hK _ _ rfl (Below.refl _ _)
        · have h8 := hn 8 (by decide +kernel)
          have h9 := hn 9 (by decide +kernel)
          have h11 := hn 11 (by decide +kernel)
          have h14 := hn 14 (by decide +kernel)
          simp only [ptF] at h8 h9 h11 h14
          simp only [h8, h9, h11, h14] at hK ⊢
          refine wpOp_plain rfl rfl ?_
          go_simp
          go_at_call 61
          refine (HRR.out W A2 c2 hB.below hB.b.lv (HE.out W hB.below)).mono ?_
          rintro e W' ⟨rfl, hb⟩
          exact hK _ _ rfl hb
        · have h0 := hn 0 (by decide +kernel)
          have h7 := hn 7 (by decide +kernel)
          have h15 := hn 15 (by decide +kernel)
          simp only [ptF] at h0 h7 h15
          simp only [h0, h7, h15] at hK ⊢
          refine wpOp_plain rfl rfl ?_
          go_simp
          go_at_call 82
          refine (HJ.out W hB.below).mono ?_
          rintro e W' ⟨rfl, hb⟩
          exact hK _ _ rfl hb
      · intro vals W hB hF
        have h16 := hF 16 (by omega)
        simp only [ptF] at h16
        simp only [frm_cons, frm_nil, List.set_cons_succ, List.set_cons_zero, Nat.reduceAdd, h16]
        refine wpUpto_one (i := 17) rfl (by decide +kernel) rfl ?_
        intro Q0 hQ0
        refine wp_store_row 25 (.tmp 8) (.tmp 74) rfl (w.heap.size + 1) (ubs hj).toArray rfl rfl 25 (ubs n32).toArray hB.r (sizeH_of L3.out) (by simp [ubs_length, n32_length, L3.out]) (ubs_all _) ?_
        refine hQ0.out _ _ (fun _ => trivial) ?_
        clear hQ0 Q0
        refine wpUpto_done (by decide +kernel) ?_ _
        have R1 := hid (show At (W.setRow (w.heap.size + 1) (ubs hj).toArray) (w.heap.size + 1) (ubs hj).toArray 25 from setRow_heap _ _ (ubs n32).toArray _ _ _ hB.r)
        have R2 := hid (below_setRow hB.below (show w.heap.size ≤ w.heap.size + 1 by omega) (ubs hj).toArray)
        generalize W.setRow (w.heap.size + 1) (ubs hj).toArray = W9 at R1 R2 ⊢
        clear hB hF h16
        go_simp
        go_wp2
        refine bodyPost_ret (results_cell_row rfl _ _ (w.heap.size + 1) 25 (ubs hj).toArray (0, 0) _ rfl R1.out Tryd.underlying25 rfl (sizeH_of L3.out)) rfl ?_
        exact ⟨rfl, R2.out⟩
/-- part, for every height. -/
theorem partR_any : ∀ (n : Nat), n ≤ 32 → ∀ (w : World), Tabr w → Tab w 1 IV.l → PartC n w := by
  intro n
  induction n with
  | zero =>
    intro _ w hT hI pl L h A' E A n' c' cE c W hb _ ho hl hv he
    cases L with
    | nil =>
      rw [partS_nil]
      exact part_nil 0 (by omega) pl h A' E A n' c' cE c W he
    | cons p L => exact (partS_zero pl p L) ▸ part_zero p L pl h A' E A n' c' cE c W ho hv
  | succ k ih =>
    intro hk w hT hI pl L h A' E A n' c' cE c W hb _ ho hl hv he
    by_cases e : L = []
    · subst e
      rw [partS_nil]
      exact part_nil (k + 1) hk pl h A' E A n' c' cE c W he
    · have hT' := hT.below hb
      have hI' := Tab.below (x := IV.a) (xs := [IV.b, IV.c, IV.d, IV.e, IV.f, IV.g, IV.h]) hI hb
      exact part_succ k (by omega) pl L e h A' E A n' c' cE c W ho hl hv he (ih (by omega) W hT' hI') hT' hI'
end Go.Proofs.YtdegmcfcbndelaaDoor

namespace Go.Proofs.YtdegmcfcbndelaaDoor
open Go.RowKit

/-- The leaves below a node; a node. -/
def bS (n pl : Nat) (L : List (Nat × List UInt8)) : List (Nat × List UInt8) := L.filter fun p => p.1 >>> n == pl
def nodeS (n pl : Nat) (L : List (Nat × List UInt8)) : List UInt8 := partS n pl (bS n pl L)
theorem okL.bS {L : List (Nat × List UInt8)} (h : okL L) (n pl : Nat) : okL (bS n pl L) := fun p hp => h p (List.mem_filter.1 hp).1
theorem bS_le (n pl : Nat) (L : List (Nat × List UInt8)) : (bS n pl L).length ≤ L.length := List.length_filter_le _ _
theorem bS_zero (n pl : Nat) (L : List (Nat × List UInt8)) : bS n pl (L.take 0) = [] := rfl
theorem bS_next (n pl : Nat) (L : List (Nat × List UInt8)) (j : Nat) (hj : j < L.length) : bS n pl (L.take (j + 1)) = if (L[j].1 >>> n == pl) then bS n pl (L.take j) ++ [L[j]] else bS n pl (L.take j) := by
  rw [take_next L j hj]
  unfold bS
  rw [List.filter_append]
  cases h : (L[j].1 >>> n == pl) <;> simp [h]
theorem nodeS_length (n pl : Nat) (L : List (Nat × List UInt8)) (h : okL L) : (nodeS n pl L).length = 32 := partS_length _ _ _ (h.bS n pl)
attribute [irreducible] bS
set_option maxRecDepth 100000 in
set_option maxHeartbeats 2000000 in
theorem nodeR_any (n : Nat) (hn : n ≤ 32) (pl : Nat) (hpl : pl < 18446744073709551616) (L : List (Nat × List UInt8)) (h : Int) (E A : Option Addr) (cE c : Nat) (w : World) (ho : okL L) (hlen : L.length ≤ 1000) (hv : Lv w w.heap.size A L) (he : Ev w w.heap.size E) (hT : Tabr w) (hI : Tab w 1 IV.l) :
    Calls Tryd.prog 17 #[.agg #[.int .i64 h, .slice A L.length c, .slice E 33 cE], .int .i64 (n : Int), .int .u64 (pl : Int)] w fun r w' => r = .returned (.agg (ubs (nodeS n pl L)).toArray) ∧ Below w.heap.size w w' := by
  have HPC := hid (fun (W : World) (A1 : Option Addr) (c1 : Nat) (b : Below w.heap.size w W) (v : Lv W W.heap.size A1 (bS n pl L)) (e : Ev W W.heap.size E) => partR_any n hn w hT hI pl (bS n pl L) h A E A1 L.length c cE c1 W b hpl (ho.bS n pl) (Nat.le_trans (bS_le n pl L) hlen) v e)
  obtain ⟨T, hT'⟩ : ∃ T : Array Value, T = #[.int .i64 h, .slice A L.length c, .slice E 33 cE] := ⟨_, rfl⟩
  have H0 := hid (PtW.start w T)
  have HQ := hid (fun (W : World) (hA : At W w.heap.size T 33) => show W.cell? ⟨w.heap.size, 1, none⟩ = some (.slice A L.length c) by rw [hA.cell, hT']; rfl)
  have HV := hid (fun (W : World) (b : Below w.heap.size w W) => hv.below b)
  have HE := hid (fun (W : World) (b : Below w.heap.size w W) => show Ev W W.heap.size E from (Rd.below he b).mono b.size)
  have HO := hid ho
  have HLEN := hid hlen
  have HSZ := hid (show (Tryd.prog.info? 33).map (·.size) = some T.size by rw [sizeTr, hT']; rfl)
  have HR := hid (show (partS n pl (bS n pl L)).length = 32 from nodeS_length n pl L ho)
  unfold nodeS
  generalize partS n pl (bS n pl L) = hr at HPC HR ⊢
  rw [← hT'] at HPC ⊢
  obtain ⟨len, hlen'⟩ : ∃ m, m = L.length := ⟨_, rfl⟩
  rw [← hlen'] at HQ
  have HN := hid hlen'
  have un : IntKind.u64.wrap (n : Int) = (n : Int) := by simp [IntKind.wrap, IntKind.signed, IntKind.bits]; omega
  have HK := hid (show n ≤ 64 by omega)
  have hz := noughts32
  clear hn hpl ho hlen hv he hT hI hT' hlen'
  go_enter Tryd.func17, Tryd.ntmps17
  go_wp2
  clear hz
  go_loopw [7, 8] (fun v7 v8 wr => ∃ (j : Nat) (A1 : Option Addr) (c1 : Nat), j ≤ len ∧ v8 = .int .i64 (j : Int) ∧ v7 = .slice A1 (bS n pl (L.take j)).length c1 ∧ PtW w T (.slice A1 (bS n pl (L.take j)).length c1) (.slice none 0 0) (bS n pl (L.take j)) [] wr) (fun _ v8 _ => len - (intOf v8).toNat)
  case atStart =>
    refine ⟨0, none, 0, by omega, rfl, ?_, ?_⟩
    · rw [bS_zero]; rfl
    · rw [bS_zero]; exact H0.out
  case round =>
    clear H0
    obtain ⟨j, A1, c1, hjle, rfl, rfl, hW⟩ := hrel
    have HW := hid hW
    clear hW
    have q1 := HQ.out _ HW.out.t
    by_cases hlt : j < len
    · have hjl : j < L.length := by rw [← HN.out]; exact hlt
      have e1 : decide ((j : Int) < (len : Int)) = true := by simp; omega
      have e1' : decide (j < len) = true := by simp; omega
      have e2 : (j : Int) < (len : Int) := by omega
      obtain ⟨g, o, rfl, hg, hr0⟩ := (HV.out wr HW.out.below).leaf HO.out hjl
      have HP := hid (HO.out.get hjl)
      have hA := bS_next n pl L j hjl
      obtain ⟨p, hp⟩ : ∃ p, p = L[j] := ⟨_, rfl⟩
      rw [← hp] at hr0 HP hA
      obtain ⟨x, hx⟩ : ∃ x, x = o + 33 * j := ⟨_, rfl⟩
      rw [← hx] at hr0
      have ex : o + j * 33 = x := by omega
      have HX := hid hr0
      have q0 := leaf_index hr0
      have hs := shr_u64 23 p.1 n .u64 HK.out
      obtain ⟨s, hs'⟩ : ∃ s, s = p.1 >>> n := ⟨_, rfl⟩
      rw [← hs'] at hs hA
      have wj : IntKind.i64.wrap ((j : Int) + 1) = ((j + 1 : Nat) : Int) := by have := HLEN.out; have := HN.out; simp [IntKind.wrap, IntKind.signed, IntKind.bits]; omega
      have HJ1 := hid (show j + 1 ≤ len by omega)
      have LL := hid (show (bS n pl (L.take j)).length ≤ 1000 from Nat.le_trans (bS_le _ _ _) (Nat.le_trans (by rw [List.length_take]; omega) HLEN.out))
      have HA := hid hA
      obtain ⟨LA, hLA⟩ : ∃ l, l = bS n pl (L.take j) := ⟨_, rfl⟩
      rw [← hLA] at HA HW LL ⊢
      obtain ⟨nA, hnA⟩ : ∃ m, m = LA.length := ⟨_, rfl⟩
      rw [← hnA] at HW ⊢
      have NA := hid hnA
      clear hjl hg hr0 hp hx hA hs' hlt hLA hnA hjle
      by_cases hc : s = pl
      · have f0 : decide ((s : Int) = (pl : Int)) = true := by simp; omega
        have f0b : ((s : Int) == (pl : Int)) = true := by simp; omega
        have f0n : decide (s = pl) = true := by simp; omega
        have HA2 := hid (show bS n pl (L.take (j + 1)) = LA ++ [p] by rw [HA.out, if_pos (by simpa using hc)])
        clear HA hc
        go_wp2_with (first
          | (refine wpList_valW (by rfl) (run_loadLf (.tmp 31) rfl g x rfl p HX.out HP.out.2) ?_)
          | (refine wpList_valW (by rfl) (run_buildLf (.tmp 32) rfl p HP.out.2 rfl) ?_)
          | (refine wpList_append_lf (by rfl) (.tmp 27) (.tmp 33) rfl (w.heap.size + 2) (.slice A1 nA c1) LA rfl (HW.out.a.kept ((Below.refl _ _).alloc (Nat.le_refl _) _)) wr.heap.size p rfl (At.new _ _ _) HP.out.2 LL.out (by have := HW.out.big; simp; omega) ?_; intro A3 c3 w3 h1 h2 h3; have HW3 := hid (HW.out.pushA h1 h2 h3); clear h1 h2 h3))
        exact ⟨⟨j + 1, A3, c3, HJ1.out, by go_num, by rw [HA2.out, List.length_append]; rfl, by rw [HA2.out]; exact HW3.out⟩, by have := HJ1.out; simp [intOf]; omega⟩
      · have f0 : decide ((s : Int) = (pl : Int)) = false := by simp; omega
        have f0b : ((s : Int) == (pl : Int)) = false := by simp; omega
        have f0n : decide (s = pl) = false := by simp; omega
        have HA2 := hid (show bS n pl (L.take (j + 1)) = LA by rw [HA.out, if_neg (by simpa using hc)])
        clear HA hc
        go_wp2
        exact ⟨⟨j + 1, A1, c1, HJ1.out, by go_num, by rw [HA2.out, NA.out], by rw [HA2.out, ← NA.out]; exact HW.out⟩, by have := HJ1.out; simp [intOf]; omega⟩
    · obtain rfl : j = len := by omega
      have e1 : decide ((j : Int) < (j : Int)) = false := by simp
      have hall : L.take j = L := by rw [HN.out, List.take_length]
      rw [hall] at HW ⊢
      go_wp2_with (first
        | (refine wpList_valW (by rfl) (run_loadTr (.tmp 3) rfl w.heap.size rfl T HW.out.t HSZ.out) ?_)
        | (go_at_call 61; refine (HPC.out wr A1 c1 HW.out.below HW.out.a.lv (HE.out wr HW.out.below)).mono ?_; rintro r5 w5 ⟨rfl, hb5⟩; have HW5 := hid (HW.out.new hb5); clear hb5)
        | (refine wpList_store_row rfl _ (.tmp 6) (.tmp 39) rfl (w.heap.size + 1) (ubs hr).toArray rfl rfl 25 (ubs n32).toArray HW5.out.r (sizeH_of HR.out) ?e5 (ubs_all _) ?e6; rotate_right))
      case e5 => simp [ubs_length, n32_length, HR.out]
      refine bodyPost_ret (results_cell_row rfl _ _ (w.heap.size + 1) 25 (ubs hr).toArray (0, 0) _ rfl (setRow_heap _ _ (ubs n32).toArray _ _ _ HW5.out.r) Tryd.underlying25 rfl (sizeH_of HR.out)) rfl ?_
      exact ⟨rfl, below_setRow HW5.out.below (by omega) _⟩
end Go.Proofs.YtdegmcfcbndelaaDoor

namespace Go.Proofs.YtdegmcfcbndelaaDoor
open Go.RowKit

/-- A slice of hashes of the call's own, one behind the other. -/
def Ah (W : World) (base : Nat) (v : Value) (n : Nat) (bs : List UInt8) : Prop := W.ownsRow base 25 32 v n (ubs bs)
theorem Ah.nil (W : World) (base : Nat) : Ah W base (.slice none 0 0) 0 [] := World.ownsRow_nil _ _ _ _
theorem Ah.form {W : World} {base n : Nat} {v : Value} {bs : List UInt8} (h : Ah W base v n bs) : ∃ A c, v = .slice A n c := by
  rcases h.2 with ⟨h1, h2⟩ | ⟨g, cap, cur, e, -⟩
  · rw [h1, h2]
    exact ⟨_, _, rfl⟩
  · exact ⟨_, _, e⟩
theorem Ah.kept {W W' : World} {base n : Nat} {v : Value} {bs : List UInt8} (h : Ah W base v n bs) (hb : Below W.heap.size W W') : Ah W' base v n bs := by
  refine ⟨h.1, ?_⟩
  rcases h.2 with h2 | ⟨g, cap, cur, rfl, hb1, hh, r⟩
  · exact .inl h2
  · exact .inr ⟨g, cap, cur, rfl, hb1, (hb.block g (lt_of_block hh)).trans hh, r⟩
theorem Ah.lt {W : World} {base n : Nat} {v : Value} {bs : List UInt8} (h : Ah W base v n bs) : ∀ k, v.ownBlock = some k → base ≤ k ∧ k < W.heap.size := World.ownsRow.lt h
theorem Ah.rd {W : World} {base n c : Nat} {A : Option Addr} {bs : List UInt8} (h : Ah W base (.slice A n c) n bs) : Rd W W.heap.size A (ubs bs) := fun hne => by
  rcases h.2 with ⟨h1, h2⟩ | ⟨g, cap, cur, e, hb, hh, -⟩
  · refine absurd ?_ hne
    exact List.eq_nil_of_length_eq_zero (by have := h.1; rw [h2] at this; omega)
  · obtain rfl : A = some ⟨g, 0, none⟩ := by cases e; rfl
    refine ⟨g, 0, rfl, lt_of_block hh, fun j u hu => ?_⟩
    have := World.ownsRow.cells h (g := g) rfl j u hu
    rwa [add_plain] at this
/-- A hash is appended. -/
theorem wpList_append_h {ops : Array Oper} {rest : List Oper} {o : Oper} {a : Go.Act} {W : World} {Q : Exit → Go.Act → World → Prop} (hw : Region.wanted o (yielded ops a.tmps) = true) (s x : Operand)
    (ho : o.op = .call { callee := .builtin .append, args := #[s, x], argTypes := #[31, 31] })
    (base : Nat) (v : Value) (n : Nat) (bs : List UInt8) (hs : a.eval s = v) (hown : Ah W base v n bs) (q : Nat) (l : List UInt8) (hx : a.eval x = .slice (some ⟨q, 0, none⟩) 1 1) (hq : At W q (ubs l).toArray 25) (hp : l.length = 32) (hl : n ≤ 1000) (hbase : base ≤ W.heap.size)
    (h : ∀ A c w', Ah w' base (.slice A (n + 1) c) (n + 1) (bs ++ l) → W.grownBy w' v.ownBlock → wpList Tryd.prog ops Q rest (a.put o.dst (.slice A (n + 1) c)) w') :
    wpList Tryd.prog ops Q (o :: rest) a W :=
  BigFrame.wpList_want hw fun K hK => by
    obtain ⟨i, hi, hz, hsz, hby⟩ := info_parts infoH
    obtain ⟨v', w', hr, h2, h3, -, -⟩ := run_append_own_at (P := Tryd.prog) W base 31 o.type 25 i _ 32 32 Tryd.underlying31 hi hz hsz hby (by show (ubs n32).toArray.size = 32; rw [List.size_toArray, ubs_length]; exact n32_length) (by omega) v n (ubs bs) hown ⟨q, 0, none⟩ 1 1 (ubs l) (by rw [ubs_length, hp])
      (fun j u hu => by rw [add_plain, Nat.zero_add, hq.cell j, List.getElem?_toArray]; exact hu) (ubs_one l) (by unfold maxLen; omega) (by omega) hbase
    have h6 : Ah w' base v' (n + 1) (bs ++ l) := by
      unfold Ah
      rw [ubs_append]
      exact h2
    obtain ⟨A, c, rfl⟩ := h6.form
    unfold Oper.wp execOp
    simp only [ho, resolve, invoke, builtin, Sem.run_bind, Sem.run_pure, Result.andThen_ok, List.map_toArray, List.map_cons, List.map_nil, hs, hx, hr]
    exact hK _ _ (h A c w' h6 h3)
/-- The node beside that above an index, on a level; all of them, one behind the other. -/
def sibN (k i : Nat) : Nat := if (i >>> k) % 2 = 0 then i >>> k + 1 else i >>> k - 1
def pathS (L : List (Nat × List UInt8)) (i : Nat) : Nat → List UInt8
  | 0 => []
  | k + 1 => pathS L i k ++ nodeS k (sibN k i) L
theorem pathS_succ (L : List (Nat × List UInt8)) (i k : Nat) : pathS L i (k + 1) = pathS L i k ++ nodeS k (sibN k i) L := rfl
theorem sibN_lt {k i : Nat} (hi : i < 18446744073709551616) : sibN k i < 18446744073709551616 := by
  have h : i >>> k ≤ i := by rw [Nat.shiftRight_eq_div_pow]; exact Nat.div_le_self _ _
  unfold sibN
  split <;> omega
attribute [irreducible] pathS
/-- What holds in Path. -/
structure PhW (w : World) (T : Array Value) (v : Value) (n : Nat) (bs : List UInt8) (W : World) : Prop where
  t : At W w.heap.size T 33
  a : Ah W (w.heap.size + 1) v n bs
  below : Below w.heap.size w W
section
variable {w W W' : World} {T : Array Value} {v v' : Value} {n : Nat} {bs l : List UInt8}
theorem PhW.new (h : PhW w T v n bs W) (hb : Below W.heap.size W W') : PhW w T v n bs W' := ⟨h.t.new_ hb, h.a.kept hb, h.below.trans (hb.mono h.below.size)⟩
theorem PhW.start (w : World) (T : Array Value) : PhW w T (.slice none 0 0) 0 [] (w.alloc (.cells T 33)) := ⟨At.new _ _ _, Ah.nil _ _, (Below.refl w.heap.size w).alloc (Nat.le_refl _) _⟩
theorem PhW.big (h : PhW w T v n bs W) : w.heap.size + 1 ≤ W.heap.size := by have := h.t.lt; omega
theorem PhW.push {o : Obj} (h : PhW w T v n bs W) (ha : Ah W' (w.heap.size + 1) v' (n + 1) (bs ++ l)) (hg : (W.alloc o).grownBy W' v.ownBlock) : PhW w T v' (n + 1) (bs ++ l) W' := by
  have hn := h.new ((Below.refl W.heap.size W).alloc (Nat.le_refl _) o)
  refine ⟨hn.t.grown hg (fun e => ?_), ha, hn.below.grown hg hn.below.size (fun k hk => by have := (h.a.lt k hk).1; omega)⟩
  have := (h.a.lt _ e).1
  omega
end
set_option maxRecDepth 100000 in
set_option maxHeartbeats 2000000 in
theorem pathR_any (h : Nat) (hh : h ≤ 32) (i : Nat) (hi : i < 18446744073709551616) (L : List (Nat × List UInt8)) (E A : Option Addr) (cE c : Nat) (w : World) (ho : okL L) (hlen : L.length ≤ 1000) (hv : Lv w w.heap.size A L) (he : Ev w w.heap.size E) (hT : Tabr w) (hI : Tab w 1 IV.l) :
    Calls Tryd.prog 21 #[.agg #[.int .i64 (h : Int), .slice A L.length c, .slice E 33 cE], .int .u64 (i : Int)] w fun r w' => ∃ A1 c1, r = .returned (.slice A1 h c1) ∧ Rd w' w'.heap.size A1 (ubs (pathS L i h)) ∧ Below w.heap.size w w' := by
  obtain ⟨T, hT'⟩ : ∃ T : Array Value, T = #[.int .i64 (h : Int), .slice A L.length c, .slice E 33 cE] := ⟨_, rfl⟩
  have H0 := hid (PhW.start w T)
  have HQ := hid (fun (W : World) (hA : At W w.heap.size T 33) => show W.cell? ⟨w.heap.size, 0, none⟩ = some (.int .i64 (h : Int)) by rw [hA.cell, hT']; rfl)
  have HN := hid (fun (W : World) (k : Nat) (hk : k < h) (b : Below w.heap.size w W) => nodeR_any k (by omega) (sibN k i) (sibN_lt hi) L h E A cE c W ho hlen ((hv.below b).mono b.size) ((Rd.below he b).mono b.size) (hT.below b) (Tab.below (x := IV.a) (xs := [IV.b, IV.c, IV.d, IV.e, IV.f, IV.g, IV.h]) hI b))
  have HSZ := hid (show (Tryd.prog.info? 33).map (·.size) = some T.size by rw [sizeTr, hT']; rfl)
  have HL := hid (fun k pl => nodeS_length k pl L ho)
  have HI := hid hi
  have HH := hid hh
  rw [← hT'] at HN ⊢
  clear hh hi ho hlen hv he hT hI hT'
  go_enter Tryd.func21, Tryd.ntmps21
  go_wp2
  go_loopw [5, 6, 7] (fun v5 v6 _ wr => ∃ (k : Nat) (A1 : Option Addr) (c1 : Nat), k ≤ h ∧ v6 = .int .i64 (k : Int) ∧ v5 = .slice A1 k c1 ∧ PhW w T (.slice A1 k c1) k (pathS L i k) wr) (fun _ v6 _ _ => h - (intOf v6).toNat)
  case atStart => exact ⟨0, none, 0, by omega, rfl, rfl, by unfold pathS; exact H0.out⟩
  case round =>
    clear H0
    obtain ⟨k, A1, c1, hk, rfl, rfl, hW⟩ := hrel
    have HW := hid hW
    clear hW
    have q0 := HQ.out _ HW.out.t
    by_cases hlt : k < h
    · have e1 : decide ((k : Int) < (h : Int)) = true := by simp; omega
      have e1' : decide (k < h) = true := by simp; omega
      have uk : IntKind.u64.wrap (k : Int) = (k : Int) := by have := HH.out; simp [IntKind.wrap, IntKind.signed, IntKind.bits]; omega
      have wk : IntKind.i64.wrap ((k : Int) + 1) = ((k + 1 : Nat) : Int) := by have := HH.out; simp [IntKind.wrap, IntKind.signed, IntKind.bits]; omega
      have hs := shr_u64 23 i k .u64 (by have := HH.out; omega)
      have HNK := hid (fun W b => HN.out W k hlt b)
      have HLK := hid (HL.out k (sibN k i))
      have hsl : i >>> k < 18446744073709551616 := by
        have h1 : i >>> k ≤ i := by rw [Nat.shiftRight_eq_div_pow]; exact Nat.div_le_self _ _
        have := HI.out
        omega
      have hsib : sibN k i = if (i >>> k) % 2 = 0 then i >>> k + 1 else i >>> k - 1 := rfl
      have HPS := hid (pathS_succ L i k)
      generalize nodeS k (sibN k i) L = nk at HNK HLK HPS
      generalize sibN k i = sb at HNK hsib
      generalize i >>> k = s at hs hsl hsib
      have HK1 := hid (show k + 1 ≤ h by omega)
      have hm : ((s : Int)).tmod 2 = ((s % 2 : Nat) : Int) := by rw [Int.tmod_eq_emod_of_nonneg (by omega)]; omega
      obtain ⟨b, hb⟩ : ∃ b, b = s % 2 := ⟨_, rfl⟩
      rw [← hb] at hm hsib
      have hK : k ≤ 1000 := by have := HH.out; omega
      have HKK := hid hK
      by_cases hc : b = 0
      · have f0 : decide ((b : Int) = 0) = true := by simp; omega
        have f0b : ((b : Int) == 0) = true := by simp; omega
        have f0n : decide (b = 0) = true := by simp; omega
        rw [if_pos hc] at hsib
        have ws : IntKind.u64.wrap ((s : Int) + 1) = (sb : Int) := by simp [IntKind.wrap, IntKind.signed, IntKind.bits]; omega
        clear hsl hsib hb hc hk hlt hK
        go_wp2_with (first
          | (refine wpList_valW (by rfl) (run_loadTr (.tmp 2) rfl w.heap.size rfl T HW.out.t HSZ.out) ?_)
          | (go_at_call 17; refine (HNK.out _ HW.out.below).mono ?_; rintro r5 w5 ⟨rfl, hb5⟩; have HW5 := hid (HW.out.new hb5); clear hb5)
          | (refine wpList_valW (by rfl) (run_buildH (.tmp 29) rfl nk HLK.out rfl) ?_)
          | (refine wpList_append_h (by rfl) (.tmp 25) (.tmp 30) rfl (w.heap.size + 1) (.slice A1 k c1) k (pathS L i k) rfl (HW5.out.a.kept ((Below.refl _ _).alloc (Nat.le_refl _) _)) w5.heap.size nk rfl (At.new _ _ _) HLK.out HKK.out (by have := HW5.out.big; simp; omega) ?_; intro A3 c3 w3 h1 h2; have HW3 := hid (HW5.out.push h1 h2); clear h1 h2))
        exact ⟨⟨k + 1, A3, c3, HK1.out, by go_num, by go_num, by rw [HPS.out]; exact HW3.out⟩, by have := HK1.out; simp [intOf]; omega⟩
      · have f0 : decide ((b : Int) = 0) = false := by simp; omega
        have f0b : ((b : Int) == 0) = false := by simp; omega
        have f0n : decide (b = 0) = false := by simp; omega
        rw [if_neg hc] at hsib
        have ws : IntKind.u64.wrap ((s : Int) - 1) = (sb : Int) := by simp [IntKind.wrap, IntKind.signed, IntKind.bits]; omega
        clear hsl hsib hb hc hk hlt hK
        go_wp2_with (first
          | (refine wpList_valW (by rfl) (run_loadTr (.tmp 2) rfl w.heap.size rfl T HW.out.t HSZ.out) ?_)
          | (go_at_call 17; refine (HNK.out _ HW.out.below).mono ?_; rintro r5 w5 ⟨rfl, hb5⟩; have HW5 := hid (HW.out.new hb5); clear hb5)
          | (refine wpList_valW (by rfl) (run_buildH (.tmp 29) rfl nk HLK.out rfl) ?_)
          | (refine wpList_append_h (by rfl) (.tmp 25) (.tmp 30) rfl (w.heap.size + 1) (.slice A1 k c1) k (pathS L i k) rfl (HW5.out.a.kept ((Below.refl _ _).alloc (Nat.le_refl _) _)) w5.heap.size nk rfl (At.new _ _ _) HLK.out HKK.out (by have := HW5.out.big; simp; omega) ?_; intro A3 c3 w3 h1 h2; have HW3 := hid (HW5.out.push h1 h2); clear h1 h2))
        exact ⟨⟨k + 1, A3, c3, HK1.out, by go_num, by go_num, by rw [HPS.out]; exact HW3.out⟩, by have := HK1.out; simp [intOf]; omega⟩
    · obtain rfl : k = h := by omega
      have e1 : decide ((k : Int) < (k : Int)) = false := by simp
      clear hk hlt
      go_wp2
      go_ret
      exact ⟨A1, c1, rfl, HW.out.a.rd, HW.out.below⟩
end Go.Proofs.YtdegmcfcbndelaaDoor

namespace Go.Proofs.YtdegmcfcbndelaaDoor
open Go.RowKit

/-- A leaf is appended. -/
theorem wp_append_lf {o : Oper} {a : Go.Act} {W : World} {K : Go.Act → World → Prop} {Q : Exit → Go.Act → World → Prop} (s x : Operand)
    (ho : o.op = .call { callee := .builtin .append, args := #[s, x], argTypes := #[30, 30] })
    (base : Nat) (v : Value) (L : List (Nat × List UInt8)) (hs : a.eval s = v) (hown : Al W base v L) (q : Nat) (p : Nat × List UInt8) (hx : a.eval x = .slice (some ⟨q, 0, none⟩) 1 1) (hq : At W q (lfV p).toArray 107) (hp : p.2.length = 32) (hl : L.length ≤ 1000) (hbase : base ≤ W.heap.size)
    (h : ∀ A c w', Al w' base (.slice A (L ++ [p]).length c) (L ++ [p]) → W.grownBy w' v.ownBlock → K (a.put o.dst (.slice A (L ++ [p]).length c)) w') :
    o.wp Tryd.prog a W K Q := by
  obtain ⟨i, hi, hz, hsz, hby⟩ := infoLf_parts
  obtain ⟨v', w', hr, h2, h3, -, h5⟩ := run_append_own_at (P := Tryd.prog) W base 30 o.type 107 i _ 33 40 Tryd.underlying30 hi hz hsz hby (by show (lfV (0, n32)).toArray.size = 33; rw [List.size_toArray]; exact lfV_length (p := (0, n32)) n32_length) (by omega) v L.length (lrow L) hown ⟨q, 0, none⟩ 1 1 (lfV p) (by rw [lfV_length hp])
    (fun j u hu => by rw [add_plain, Nat.zero_add, hq.cell j, List.getElem?_toArray]; exact hu) (lfV_one p) (by unfold maxLen; omega) (by omega) hbase
  have h6 : Al w' base v' (L ++ [p]) := by
    unfold Al
    rw [lrow_append, lrow_one, List.length_append]
    exact h2
  obtain ⟨A, c, rfl⟩ := h6.form
  unfold Oper.wp execOp
  simp only [ho, resolve, invoke, builtin, Sem.run_bind, Sem.run_pure, Result.andThen_ok, List.map_toArray, List.map_cons, List.map_nil, hs, hx, hr]
  exact h A c w' h6 h3
theorem Al.setCell {W : World} {base : Nat} {v u : Value} {L : List (Nat × List UInt8)} {p : Addr} (h : Al W base v L) (hp : p.block < base) : Al (W.setCell p u) base v L := by
  refine ⟨h.1, ?_⟩
  rcases h.2 with h2 | ⟨g, cap, cur, rfl, hb1, hh, r⟩
  · exact .inl h2
  · exact .inr ⟨g, cap, cur, rfl, hb1, (Below.heap_setCell W p u g (by omega)).trans hh, r⟩
/-- A tree whose leaves grow, in block X; blocks ahead of it. -/
structure OtW (w : World) (F : List (Nat × Array Value × TypeId)) (X : Nat) (h : Int) (E : Option Addr) (cE : Nat) (va : Value) (LA : List (Nat × List UInt8)) (W : World) : Prop where
  f : ∀ q ∈ F, At W q.1 q.2.1 q.2.2 ∧ q.1 < X
  o : At W X #[.int .i64 h, va, .slice E 33 cE] 33
  a : Al W (X + 1) va LA
  lo : w.heap.size ≤ X
  below : Below w.heap.size w W
section
variable {w W W' : World} {F : List (Nat × Array Value × TypeId)} {X cE : Nat} {h : Int} {E : Option Addr} {va v : Value} {LA : List (Nat × List UInt8)} {p : Nat × List UInt8}
theorem OtW.new (k : OtW w F X h E cE va LA W) (hb : Below W.heap.size W W') : OtW w F X h E cE va LA W' := ⟨fun q hq => ⟨(k.f q hq).1.new_ hb, (k.f q hq).2⟩, k.o.new_ hb, k.a.kept hb, k.lo, k.below.trans (hb.mono k.below.size)⟩
theorem OtW.drew (k : OtW w F X h E cE va LA W) : OtW w F X h E cE va LA W.drew := ⟨k.f, k.o, k.a, k.lo, k.below.drew⟩
theorem OtW.big (k : OtW w F X h E cE va LA W) : X + 1 ≤ W.heap.size := k.o.lt
theorem OtW.cell (k : OtW w F X h E cE va LA W) : W.cell? ⟨X, 1, none⟩ = some va := by rw [k.o.cell]; rfl
/-- A leaf went in. -/
theorem OtW.push (k : OtW w F X h E cE va LA W) (ha : Al W' (X + 1) v (LA ++ [p])) (hg : W.grownBy W' va.ownBlock) : OtW w F X h E cE v (LA ++ [p]) (W'.setCell ⟨X, 1, none⟩ v) := by
  have hne : ∀ g, g ≤ X → va.ownBlock ≠ some g := fun g hg' e => by
    have := (k.a.lt _ e).1
    omega
  have hX : At W' X #[.int .i64 h, va, .slice E 33 cE] 33 := k.o.grown hg (hne X (Nat.le_refl _))
  refine ⟨fun q hq => ?_, hX.put 1 v, ha.setCell (by show X < X + 1; omega), k.lo, (k.below.grown hg k.below.size (fun j hj => ?_)).setCell (p := ⟨X, 1, none⟩) k.lo v⟩
  · obtain ⟨h1, h2⟩ := k.f q hq
    exact ⟨(h1.grown hg (hne _ (by omega))).far (p := ⟨X, 1, none⟩) (by show q.1 ≠ X; omega) v, h2⟩
  · have := (k.a.lt _ hj).1
    have := k.lo
    omega
end
/-- The leaves of few enough indices. -/
def cutS (b : Nat) (L : List (Nat × List UInt8)) : List (Nat × List UInt8) := L.filter fun p => decide (p.1 < b)
theorem okL.cutS {L : List (Nat × List UInt8)} (h : okL L) (b : Nat) : okL (cutS b L) := fun p hp => h p (List.mem_filter.1 hp).1
attribute [irreducible] cutS
/-- What the growing region yields. -/
def rzF (w0 X g x j len c : Nat) (A : Option Addr) (va lf : Value) (p : Nat × List UInt8) (i : Nat) (v : Value) (W : World) : Prop :=
  match i with
  | 0 => v = .pointer (some ⟨X, 1, none⟩)
  | 1 => v = va
  | 2 => v = .pointer (some ⟨w0, 1, none⟩)
  | 3 => v = .slice A len c
  | 4 => v = .int .i64 (j : Int)
  | 5 => v = .pointer (some ⟨g, x, none⟩)
  | 6 => v = lf
  | _ => ∃ q, v = .slice (some ⟨q, 0, none⟩) 1 1 ∧ At W q (lfV p).toArray 107
theorem rzF_new {w0 X g x j len c : Nat} {A : Option Addr} {va lf : Value} {p : Nat × List UInt8} {i : Nat} {v : Value} {W W' : World} (h : rzF w0 X g x j len c A va lf p i v W) (hb : Below W.heap.size W W') : rzF w0 X g x j len c A va lf p i v W' := by
  rcases i with _ | _ | _ | _ | _ | _ | _ | i
  iterate 7 exact h
  obtain ⟨q, e, r⟩ := h
  exact ⟨q, e, r.new_ hb⟩
end Go.Proofs.YtdegmcfcbndelaaDoor

namespace Go.Proofs.YtdegmcfcbndelaaDoor
open Go.RowKit

/-- A hash of a row of them. -/
def hpart (bs : List UInt8) (j : Nat) : List UInt8 := (bs.drop (32 * j)).take 32
theorem hpart_length {bs : List UInt8} {n j : Nat} (hb : bs.length = 32 * n) (hj : j < n) : (hpart bs j).length = 32 := by
  rw [hpart, List.length_take, List.length_drop]
  omega
theorem hpart_range {W : World} {B n j : Nat} {A : Option Addr} {bs : List UInt8} (h : Rd W B A (ubs bs)) (hb : bs.length = 32 * n) (hj : j < n) : ∃ g o, A = some ⟨g, o, none⟩ ∧ g < B ∧ W.rangeAt g (o + 32 * j) (ubs (hpart bs j)) := by
  obtain ⟨g, o, rfl, hg, hc⟩ := h (fun e => by have := congrArg List.length e; rw [ubs_length, hb] at this; simp only [List.length_nil] at this; omega)
  refine ⟨g, o, rfl, hg, fun q u hq => ?_⟩
  have hq2 : q < 32 := by
    have := (List.getElem?_eq_some_iff.1 hq).1
    rw [ubs_length, hpart_length hb hj] at this
    exact this
  have := hc (32 * j + q) u (by
    unfold ubs at hq ⊢
    rw [List.getElem?_map] at hq ⊢
    unfold hpart at hq
    rwa [List.getElem?_take_of_lt hq2, List.getElem?_drop] at hq)
  rwa [← Nat.add_assoc] at this
theorem take_part (bs : List UInt8) (j : Nat) : bs.take (32 * (j + 1)) = bs.take (32 * j) ++ hpart bs j := by
  unfold hpart
  rw [show 32 * (j + 1) = 32 * j + 32 by omega, List.take_add]
theorem hpart_eq {bs cs : List UInt8} (j : Nat) (h : bs = cs) : hpart bs j = hpart cs j := by rw [h]
def hhF (A C : Value) (i x y g q : Nat) (P Q : List UInt8) (r : Bool) : Nat → Value
  | 0 => A
  | 1 => .int .i64 (i : Int)
  | 2 => .pointer (some ⟨g, x, none⟩)
  | 3 => .agg (ubs P).toArray
  | 4 => C
  | 5 => .int .i64 (i : Int)
  | 6 => .pointer (some ⟨q, y, none⟩)
  | 7 => .agg (ubs Q).toArray
  | _ => .bool r
set_option maxRecDepth 100000 in
set_option maxHeartbeats 2000000 in
theorem hashes_any (n : Nat) (bs cs : List UInt8) (A C : Option Addr) (c d : Nat) (w : World) (hb : bs.length = 32 * n) (hc : cs.length = 32 * n) (ha : Rd w w.heap.size A (ubs bs)) (hd : Rd w w.heap.size C (ubs cs)) (hn : n ≤ 100000) :
    Calls Tryd.prog 20 #[.slice A n c, .slice C n d] w fun r w' => r = .returned (.bool (decide (bs = cs))) ∧ Below w.heap.size w w' := by
  have HA := hid (fun (V : World) (k : Below w.heap.size w V) => (show Rd V w.heap.size A (ubs bs) from Rd.below ha k))
  have HD := hid (fun (V : World) (k : Below w.heap.size w V) => (show Rd V w.heap.size C (ubs cs) from Rd.below hd k))
  have HB := hid hb
  have HC := hid hc
  have HN := hid hn
  obtain ⟨R, hR⟩ : ∃ R, R = decide (bs = cs) := ⟨_, rfl⟩
  rw [← hR]
  have HR := hid hR
  have cn : ((n : Int) != (n : Int)) = false := by simp
  have cn2 : ((n : Int) == (n : Int)) = true := by simp
  clear ha hd hb hc hn hR
  go_enter Tryd.func20, Tryd.ntmps20
  go_wp2
  go_loopw [13] (fun v wr => ∃ j : Nat, j ≤ n ∧ v = .int .i64 (j : Int) ∧ bs.take (32 * j) = cs.take (32 * j) ∧ Below w.heap.size w wr) (fun v _ => n - (intOf v).toNat)
  case atStart => exact ⟨0, by omega, rfl, by simp, Below.refl _ _⟩
  case round =>
    obtain ⟨j, hj, rfl, ht, hw⟩ := hrel
    by_cases hlt : j < n
    · have hdj : decide ((j : Int) < (n : Int)) = true := by simp; omega
      obtain ⟨g, o, eA, hg, hra⟩ := hpart_range (HA.out wr hw) HB.out hlt
      obtain ⟨q, p, eC, hq, hrc⟩ := hpart_range (HD.out wr hw) HC.out hlt
      have HPL := hid (hpart_length HB.out hlt)
      have HQL := hid (hpart_length HC.out hlt)
      have hs := hw.size
      have HRA := hid (fun (V : World) (k : Below wr.heap.size wr V) => show V.rangeAt g (o + 32 * j) (ubs (hpart bs j)) from fun i u hu => (k.cell (p := ⟨g, o + 32 * j + i, none⟩) (Nat.lt_of_lt_of_le hg hs)).trans (hra i u hu))
      have HRC := hid (fun (V : World) (k : Below wr.heap.size wr V) => show V.rangeAt q (p + 32 * j) (ubs (hpart cs j)) from fun i u hu => (k.cell (p := ⟨q, p + 32 * j + i, none⟩) (Nat.lt_of_lt_of_le hq hs)).trans (hrc i u hu))
      have HT1 := hid (fun h : hpart bs j = hpart cs j => show bs.take (32 * (j + 1)) = cs.take (32 * (j + 1)) by rw [take_part, take_part, ht, h])
      have HRF := hid (fun h : hpart bs j ≠ hpart cs j => show R = false by rw [HR.out]; exact decide_eq_false fun e => h (hpart_eq j e))
      obtain ⟨x, hx⟩ : ∃ x, x = o + 32 * j := ⟨_, rfl⟩
      obtain ⟨y, hy⟩ : ∃ y, y = p + 32 * j := ⟨_, rfl⟩
      rw [← hx] at HRA
      rw [← hy] at HRC
      obtain ⟨j1, hj1⟩ : ∃ m, m = j + 1 := ⟨_, rfl⟩
      rw [← hj1] at HT1
      have HJL := hid (show j1 ≤ n by omega)
      have HMS := hid (show n - j1 < n - j by omega)
      have e2 : (j : Int) + 1 = (j1 : Int) := by omega
      have ew : IntKind.i64.wrap (j1 : Int) = (j1 : Int) := by rw [IntKind.wrap_i64] <;> have := HN.out <;> omega
      have EK := hid (show (j : Int) < (n : Int) by omega)
      have ik : (j : Int) < (n : Int) := by omega
      have EX := hid (show o + j * 32 = x by rw [hx]; omega)
      have EY := hid (show p + j * 32 = y by rw [hy]; omega)
      have HW := hid hw
      generalize hpart bs j = P at HRA HPL HT1 HRF
      generalize hpart cs j = Q at HRC HQL HT1 HRF
      subst eA
      subst eC
      clear hra hrc hx hy hj1 hg hq hs ht hw hlt hj
      go_upto_region 6 with (fail)
      try simp only [Act.put, List.setIfInBounds_toArray, List.set_cons_succ, List.set_cons_zero]
      by_cases hpq : P = Q
      · have HPQ := hid (show (P == Q) = !false by simp [hpq])
        have HT2 := hid (HT1.out hpq)
        clear hpq HT1 HRF
        refine wp_region_facts 9 9 [16, 17, 18, 19, 20, 21, 22, 23, 24] (fun k z _ => z = hhF (.slice (some ⟨g, o, none⟩) n c) (.slice (some ⟨q, p, none⟩) n d) j x y g q P Q false k) (fun V => Below wr.heap.size wr V) (by kernel_rfl) (by kernel_rfl)
          (fun V V' h hb => h.trans (hb.mono h.size)) (fun _ _ _ _ h _ => h) ((Below.refl _ _).drew) ?_ ?_
        · intro i hi vals W K hB hn hK
          simp only [frm_cons, frm_nil, List.set_cons_succ, List.set_cons_zero, Nat.reduceAdd] at hK ⊢
          rcases (by omega : i = 0 ∨ i = 1 ∨ i = 2 ∨ i = 3 ∨ i = 4 ∨ i = 5 ∨ i = 6 ∨ i = 7 ∨ i = 8) with rfl | rfl | rfl | rfl | rfl | rfl | rfl | rfl | rfl
          · refine wpOp_plain rfl rfl (wp_val (w' := W) (v := .slice (some ⟨g, o, none⟩) n c) (by go_simp) ?_)
            exact hK _ _ rfl (Below.refl _ _)
          · refine wpOp_plain rfl rfl (wp_val (w' := W) (v := .int .i64 (j : Int)) (by go_simp) ?_)
            exact hK _ _ rfl (Below.refl _ _)
          · have h0 := hn 0 (by decide +kernel)
            have h1 := hn 1 (by decide +kernel)
            simp only [hhF] at h0 h1
            simp only [h0, h1] at hK ⊢
            have x1 := EX.out
            have x2 := EK.out
            refine wpOp_plain rfl rfl (wp_val (w' := W) (v := .pointer (some ⟨g, x, none⟩)) (by go_simp) ?_)
            exact hK _ _ rfl (Below.refl _ _)
          · have h2 := hn 2 (by decide +kernel)
            simp only [hhF] at h2
            simp only [h2] at hK ⊢
            refine wpOp_plain rfl rfl (wp_val (run_loadH (.tmp 18) rfl g x rfl P (HRA.out W hB) HPL.out) ?_)
            exact hK _ _ rfl (Below.refl _ _)
          · refine wpOp_plain rfl rfl (wp_val (w' := W) (v := .slice (some ⟨q, p, none⟩) n d) (by go_simp) ?_)
            exact hK _ _ rfl (Below.refl _ _)
          · refine wpOp_plain rfl rfl (wp_val (w' := W) (v := .int .i64 (j : Int)) (by go_simp) ?_)
            exact hK _ _ rfl (Below.refl _ _)
          · have h4 := hn 4 (by decide +kernel)
            have h5 := hn 5 (by decide +kernel)
            simp only [hhF] at h4 h5
            simp only [h4, h5] at hK ⊢
            have x1 := EY.out
            have x2 := EK.out
            refine wpOp_plain rfl rfl (wp_val (w' := W) (v := .pointer (some ⟨q, y, none⟩)) (by go_simp) ?_)
            exact hK _ _ rfl (Below.refl _ _)
          · have h6 := hn 6 (by decide +kernel)
            simp only [hhF] at h6
            simp only [h6] at hK ⊢
            refine wpOp_plain rfl rfl (wp_val (run_loadH (.tmp 22) rfl q y rfl Q (HRC.out W hB) HQL.out) ?_)
            exact hK _ _ rfl (Below.refl _ _)
          · have h3 := hn 3 (by decide +kernel)
            have h7 := hn 7 (by decide +kernel)
            simp only [hhF] at h3 h7
            simp only [h3, h7] at hK ⊢
            refine wpOp_plain rfl rfl (wp_val (run_neqH _ (.tmp 19) (.tmp 23) rfl P Q HPL.out HQL.out rfl rfl false HPQ.out W) ?_)
            exact hK _ _ rfl (Below.refl _ _)
        · intro vals W hB hF
          have h8 := hF 8 (by omega)
          simp only [hhF] at h8
          simp only [frm_cons, frm_nil, List.set_cons_succ, List.set_cons_zero, Nat.reduceAdd, h8]
          refine wpUpto_done (by decide +kernel) ?_ _
          have HBV := hid hB
          clear hB hF h8
          go_simp
          go_wp2
          go_roundw
          case rel => exact ⟨j1, HJL.out, rfl, HT2.out, HW.out.trans (HBV.out.mono HW.out.size)⟩
          case measure =>
            show n - ((j1 : Int)).toNat < n - (j : Int).toNat
            rw [Int.toNat_natCast, Int.toNat_natCast]
            exact HMS.out
      · have HPQ := hid (show (P == Q) = !true by simpa using hpq)
        have HF2 := hid (HRF.out hpq)
        clear hpq HT1 HRF
        refine wp_region_facts 9 9 [16, 17, 18, 19, 20, 21, 22, 23, 24] (fun k z _ => z = hhF (.slice (some ⟨g, o, none⟩) n c) (.slice (some ⟨q, p, none⟩) n d) j x y g q P Q true k) (fun V => Below wr.heap.size wr V) (by kernel_rfl) (by kernel_rfl)
          (fun V V' h hb => h.trans (hb.mono h.size)) (fun _ _ _ _ h _ => h) ((Below.refl _ _).drew) ?_ ?_
        · intro i hi vals W K hB hn hK
          simp only [frm_cons, frm_nil, List.set_cons_succ, List.set_cons_zero, Nat.reduceAdd] at hK ⊢
          rcases (by omega : i = 0 ∨ i = 1 ∨ i = 2 ∨ i = 3 ∨ i = 4 ∨ i = 5 ∨ i = 6 ∨ i = 7 ∨ i = 8) with rfl | rfl | rfl | rfl | rfl | rfl | rfl | rfl | rfl
          · refine wpOp_plain rfl rfl (wp_val (w' := W) (v := .slice (some ⟨g, o, none⟩) n c) (by go_simp) ?_)
            exact hK _ _ rfl (Below.refl _ _)
          · refine wpOp_plain rfl rfl (wp_val (w' := W) (v := .int .i64 (j : Int)) (by go_simp) ?_)
            exact hK _ _ rfl (Below.refl _ _)
          · have h0 := hn 0 (by decide +kernel)
            have h1 := hn 1 (by decide +kernel)
            simp only [hhF] at h0 h1
            simp only [h0, h1] at hK ⊢
            have x1 := EX.out
            have x2 := EK.out
            refine wpOp_plain rfl rfl (wp_val (w' := W) (v := .pointer (some ⟨g, x, none⟩)) (by go_simp) ?_)
            exact hK _ _ rfl (Below.refl _ _)
          · have h2 := hn 2 (by decide +kernel)
            simp only [hhF] at h2
            simp only [h2] at hK ⊢
            refine wpOp_plain rfl rfl (wp_val (run_loadH (.tmp 18) rfl g x rfl P (HRA.out W hB) HPL.out) ?_)
            exact hK _ _ rfl (Below.refl _ _)
          · refine wpOp_plain rfl rfl (wp_val (w' := W) (v := .slice (some ⟨q, p, none⟩) n d) (by go_simp) ?_)
            exact hK _ _ rfl (Below.refl _ _)
          · refine wpOp_plain rfl rfl (wp_val (w' := W) (v := .int .i64 (j : Int)) (by go_simp) ?_)
            exact hK _ _ rfl (Below.refl _ _)
          · have h4 := hn 4 (by decide +kernel)
            have h5 := hn 5 (by decide +kernel)
            simp only [hhF] at h4 h5
            simp only [h4, h5] at hK ⊢
            have x1 := EY.out
            have x2 := EK.out
            refine wpOp_plain rfl rfl (wp_val (w' := W) (v := .pointer (some ⟨q, y, none⟩)) (by go_simp) ?_)
            exact hK _ _ rfl (Below.refl _ _)
          · have h6 := hn 6 (by decide +kernel)
            simp only [hhF] at h6
            simp only [h6] at hK ⊢
            refine wpOp_plain rfl rfl (wp_val (run_loadH (.tmp 22) rfl q y rfl Q (HRC.out W hB) HQL.out) ?_)
            exact hK _ _ rfl (Below.refl _ _)
          · have h3 := hn 3 (by decide +kernel)
            have h7 := hn 7 (by decide +kernel)
            simp only [hhF] at h3 h7
            simp only [h3, h7] at hK ⊢
            refine wpOp_plain rfl rfl (wp_val (run_neqH _ (.tmp 19) (.tmp 23) rfl P Q HPL.out HQL.out rfl rfl true HPQ.out W) ?_)
            exact hK _ _ rfl (Below.refl _ _)
        · intro vals W hB hF
          have h8 := hF 8 (by omega)
          simp only [hhF] at h8
          simp only [frm_cons, frm_nil, List.set_cons_succ, List.set_cons_zero, Nat.reduceAdd, h8]
          refine wpUpto_done (by decide +kernel) ?_ _
          have HBV := hid hB
          clear hB hF h8
          go_simp
          go_wp2
          go_ret
          exact ⟨by rw [HF2.out]; rfl, HW.out.trans (HBV.out.mono HW.out.size)⟩
    · obtain rfl : j = n := by omega
      have hdj : decide ((j : Int) < (j : Int)) = false := by simp
      have HRT := hid (show R = true by
        rw [HR.out]
        refine decide_eq_true ?_
        rwa [List.take_of_length_le (by rw [HB.out]; exact Nat.le_refl _), List.take_of_length_le (by rw [HC.out]; exact Nat.le_refl _)] at ht)
      have HW := hid hw
      clear ht hw hlt hj
      go_wp2
      go_ret
      exact ⟨by rw [HRT.out]; rfl, HW.out⟩
end Go.Proofs.YtdegmcfcbndelaaDoor
