/-
  CtrCounters, walked.
-/
import Derived.Test.YtenlidbgllahhaaGk
import Derived.Test.YtenlidbgllahhaaFt
namespace Go.Proofs.Ytenlidbgllahhaa
open Go.RowKit

/-- What the law's region yields. -/
def ctF (c : List UInt8) (n : Nat) : Nat → Value
  | 0 => .agg (ubs c).toArray
  | 1 => .int .u64 (n : Int)
  | 2 => .agg (ubs (nextL c n)).toArray
  | 3 => .agg (ubs c).toArray
  | 4 => .int .u64 (n : Int)
  | 5 => .agg (ubs (nextL c n)).toArray
  | _ => .bool false
set_option maxRecDepth 100000 in
set_option maxHeartbeats 1000000 in
theorem counters_law (c : List UInt8) (n : Nat) (many : Int) (w : World) (hc : c.length = 16) (hn : n < 18446744073709551616) :
    Calls Try.prog 6 #[.agg (ubs c).toArray, .int .u64 (n : Int), .int .i64 many] w fun e w' => e = .returned (.bool true) ∧ Below w.heap.size w w' := by
  have HA := hid (fun W => alive5_any W)
  have HAT := hid (At.new w (ubs c).toArray 26)
  have HB0 := hid ((Below.refl w.heap.size w).alloc (Nat.le_refl _) (.cells (ubs c).toArray 26))
  have HPN := hid (fun W => pnext_any c n W hc hn)
  have HRN := hid (fun W => nextR_any c n W hc hn)
  have HCL := hid hc
  have HNL := hid (nextL_length c n)
  go_enter Try.func6, Try.ntmps6
  go_upto_region 3 with (go_at_call 21; refine (HA.out _).mono ?_; rintro e w1 ⟨rfl, hb1⟩; have B1 := hid (HB0.out.trans (hb1.mono HB0.out.size)); have A1 := hid (HAT.out.new_ hb1); clear hb1)
  refine wp_region_facts 7 7 [11, 12, 13, 14, 15, 16, 17] (fun i v _ => v = ctF c n i) (fun W => At W w.heap.size (ubs c).toArray 26 ∧ Below w.heap.size w W) (by kernel_rfl) (by kernel_rfl)
    (fun W W' h hb => ⟨h.1.new_ hb, h.2.trans (hb.mono h.2.size)⟩) (fun _ _ _ _ h _ => h) ⟨A1.out, B1.out.drew⟩ ?_ ?_
  · intro i hi vals W K hB hn hK
    simp only [frm_cons, frm_nil, List.set_cons_succ, List.set_cons_zero, Nat.reduceAdd] at hK ⊢
    rcases (by omega : i = 0 ∨ i = 1 ∨ i = 2 ∨ i = 3 ∨ i = 4 ∨ i = 5 ∨ i = 6) with rfl | rfl | rfl | rfl | rfl | rfl | rfl
    · refine wpOp_plain rfl rfl (wp_val (run_load_16 (.tmp 3) rfl w.heap.size rfl c HCL.out hB.1) ?_)
      exact hK _ _ rfl (Below.refl _ _)
    · refine wpOp_plain rfl rfl (wp_val (w' := W) (v := .int .u64 (n : Int)) (by go_simp) ?_)
      exact hK _ _ rfl (Below.refl _ _)
    · have h0 := hn 0 (by decide +kernel)
      have h1 := hn 1 (by decide +kernel)
      simp only [ctF] at h0 h1
      simp only [h0, h1] at hK ⊢
      refine wpOp_plain rfl rfl ?_
      go_simp
      go_at_call 26
      refine (HPN.out W).mono ?_
      rintro e W' ⟨rfl, hb⟩
      exact hK _ _ rfl hb
    · refine wpOp_plain rfl rfl (wp_val (run_load_16 (.tmp 3) rfl w.heap.size rfl c HCL.out hB.1) ?_)
      exact hK _ _ rfl (Below.refl _ _)
    · refine wpOp_plain rfl rfl (wp_val (w' := W) (v := .int .u64 (n : Int)) (by go_simp) ?_)
      exact hK _ _ rfl (Below.refl _ _)
    · have h3 := hn 3 (by decide +kernel)
      have h4 := hn 4 (by decide +kernel)
      simp only [ctF] at h3 h4
      simp only [h3, h4] at hK ⊢
      refine wpOp_plain rfl rfl ?_
      go_simp
      go_at_call 27
      refine (HRN.out W).mono ?_
      rintro e W' ⟨rfl, hb⟩
      exact hK _ _ rfl hb
    · have h2 := hn 2 (by decide +kernel)
      have h5 := hn 5 (by decide +kernel)
      simp only [ctF] at h2 h5
      simp only [h2, h5] at hK ⊢
      refine wpOp_plain rfl rfl (wp_val (run_neq_blocks _ (.tmp 13) (.tmp 16) rfl (nextL c n) HNL.out rfl rfl W) ?_)
      exact hK _ _ rfl (Below.refl _ _)
  · intro vals W hB hF
    have h0 := hF 0 (by omega)
    have h1 := hF 1 (by omega)
    have h2 := hF 2 (by omega)
    have h3 := hF 3 (by omega)
    have h4 := hF 4 (by omega)
    have h5 := hF 5 (by omega)
    have h6 := hF 6 (by omega)
    simp only [ctF] at h0 h1 h2 h3 h4 h5 h6
    simp only [frm_cons, frm_nil, List.set_cons_succ, List.set_cons_zero, Nat.reduceAdd, h0, h1, h2, h3, h4, h5, h6]
    refine wpUpto_done (by decide +kernel) ?_ _
    go_simp
    have HBW := hid hB
    clear hB hF h0 h1 h2 h3 h4 h5 h6
    have HS := hid (fun (k : Nat) (hk : k ≤ 65536) => pstream_any n16 c none k W n16_length HCL.out (Cip.nil W) hk)
    have HSO := hid (fun hk => pstream_out none c many W hk)
    have HI := hid is_any
    by_cases h1 : many < 0
    · have c1 : decide (500 < many) = false := by simp; omega
      have c2 : decide (many < 0) = true := by simp; omega
      have HSO2 := hid (HSO.out (.inl h1))
      clear HSO HS h1
      go_wp2_with (first
        | (refine wpList_load_row rfl _ (.tmp 3) rfl w.heap.size rfl 26 (ubs c).toArray (0, 0) _ HBW.out.1 Try.underlying26 rfl (size16_of HCL.out) ?_)
        | (go_at_call 22; refine HSO2.out.mono ?_; rintro e w2 ⟨rfl, hb2⟩; have B2 := hid (HBW.out.2.trans (hb2.mono HBW.out.2.size)); clear hb2)
        | (go_at_call 18; refine (HI.out _).mono ?_; rintro e w6 ⟨rfl, hw⟩; rw [hw]; clear hw))
      go_ret
      exact ⟨rfl, B2.out⟩
    · by_cases h2 : 65536 < many
      · have c1 : decide (500 < many) = true := by simp; omega
        have c2 : decide (many < 0) = false := by simp; omega
        have c3 : decide (many ≤ 65536) = false := by simp; omega
        have c4 : decide (65536 < many) = true := by simp; omega
        have HSO2 := hid (HSO.out (.inr h2))
        clear HSO HS h1 h2
        go_wp2_with (first
          | (refine wpList_load_row rfl _ (.tmp 3) rfl w.heap.size rfl 26 (ubs c).toArray (0, 0) _ HBW.out.1 Try.underlying26 rfl (size16_of HCL.out) ?_)
          | (go_at_call 22; refine HSO2.out.mono ?_; rintro e w2 ⟨rfl, hb2⟩; have B2 := hid (HBW.out.2.trans (hb2.mono HBW.out.2.size)); clear hb2)
          | (go_at_call 18; refine (HI.out _).mono ?_; rintro e w6 ⟨rfl, hw⟩; rw [hw]; clear hw))
        go_ret
        exact ⟨rfl, B2.out⟩
      · by_cases h3 : 500 < many
        · have c1 : decide (500 < many) = true := by simp; omega
          have c3 : decide (many ≤ 65536) = true := by simp; omega
          clear HSO HS h1 h2 h3
          go_wp2
          go_ret
          exact ⟨rfl, HBW.out.2⟩
        · obtain ⟨k, rfl⟩ : ∃ k : Nat, many = (k : Int) := ⟨many.toNat, by omega⟩
          have c1 : decide (500 < (k : Int)) = false := by simp; omega
          have c2 : decide ((k : Int) < 0) = false := by simp
          have c4 : decide (65536 < (k : Int)) = false := by simp; omega
          have HS2 := hid (HS.out k (by omega))
          clear HSO HS h1 h2 h3
          go_wp2_with (first
            | (refine wpList_load_row rfl _ (.tmp 3) rfl w.heap.size rfl 26 (ubs c).toArray (0, 0) _ HBW.out.1 Try.underlying26 rfl (size16_of HCL.out) ?_)
            | (go_at_call 22; refine HS2.out.mono ?_; rintro e w2 ⟨g, rfl, -, -, hb2⟩; have B2 := hid (HBW.out.2.trans (hb2.mono HBW.out.2.size)); clear hb2))
          go_ret
          exact ⟨rfl, B2.out⟩
end Go.Proofs.Ytenlidbgllahhaa
