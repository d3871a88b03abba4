/-
  CtrTwice, walked.
-/
import Derived.Test.YtenlidbgllahhaaGk
import Derived.Test.YtenlidbgllahhaaFt
namespace Go.Proofs.Ytenlidbgllahhaa
open Go.RowKit

theorem turnL_get (keys c b : List UInt8) (i : Nat) (h : i < b.length) : (turnL keys c b).getD i 0 = xr ((streamL keys c b.length).getD i 0) (b.getD i 0) := by
  simp [turnL, trL, trF, streamL_length, h]
theorem turn_twice (keys c b : List UInt8) : turnL keys c (turnL keys c b) = b := by
  have hl : (turnL keys c (turnL keys c b)).length = b.length := by rw [turnL_length, turnL_length]
  refine List.ext_getElem hl fun i h1 h2 => ?_
  have h3 : (turnL keys c (turnL keys c b)).getD i 0 = b.getD i 0 := by
    rw [turnL_get _ _ _ _ (by rw [turnL_length]; exact h2), turnL_get _ _ _ _ h2, turnL_length]
    unfold xr
    rw [← UInt8.xor_assoc, UInt8.xor_self, UInt8.zero_xor]
  simpa [List.getD_eq_getElem?_getD, h1, h2] using h3
theorem rem62 (t : TypeId) (q : Nat) : binOp .rem t (.int .u64 (q : Int)) (.int .u64 4611686018427387904) = pure (.int .u64 ((q % 4611686018427387904 : Nat) : Int)) := by
  simp [binOp, Op.intDiv, Int.tmod_eq_emod_of_nonneg]
/-- What the law's first region yields. -/
def twF (g : Nat) (c d e : List UInt8) (a b x y z : Nat) : Nat → Value
  | 0 => .agg (ubs c).toArray
  | 1 => .pointer (some ⟨g, 0, none⟩)
  | 2 => .int .u64 (a : Int)
  | 3 => .int .u64 (x : Int)
  | 4 => .agg (ubs d).toArray
  | 5 => .pointer (some ⟨g, 1, none⟩)
  | 6 => .int .u64 (b : Int)
  | 7 => .int .u64 (y : Int)
  | 8 => .agg (ubs e).toArray
  | 9 => .agg (ubs c).toArray
  | 10 => .pointer (some ⟨g, 0, none⟩)
  | 11 => .int .u64 (a : Int)
  | 12 => .int .u64 (x : Int)
  | 13 => .pointer (some ⟨g, 1, none⟩)
  | 14 => .int .u64 (b : Int)
  | 15 => .int .u64 (y : Int)
  | 16 => .int .u64 (z : Int)
  | 17 => .agg (ubs e).toArray
  | _ => .bool false
/-- What holds while the law goes on. -/
structure TwB (w : World) (c : List UInt8) (a b : Nat) (W : World) : Prop where
  ctr : At W w.heap.size (ubs c).toArray 26
  two : At W (w.heap.size + 1) #[.int .u64 (a : Int), .int .u64 (b : Int)] 54
  below : Below w.heap.size w W
theorem TwB.new {w W W' : World} {c : List UInt8} {a b : Nat} (h : TwB w c a b W) (hb : Below W.heap.size W W') : TwB w c a b W' := ⟨h.ctr.new_ hb, h.two.new_ hb, h.below.trans (hb.mono h.below.size)⟩
theorem TwB.drew {w W : World} {c : List UInt8} {a b : Nat} (h : TwB w c a b W) : TwB w c a b W.drew := ⟨h.ctr, h.two, h.below.drew⟩
set_option maxRecDepth 100000 in
set_option maxHeartbeats 1000000 in
theorem twice_law (c b : List UInt8) (B : Option Addr) (cb a0 a1 : Nat) (w : World) (hc : c.length = 16) (hb : Rb w w.heap.size B b) (hlen : b.length ≤ 140737488351232) :
    Calls Try.prog 8 #[.agg (ubs c).toArray, .slice B b.length cb, .agg #[.int .u64 (a0 : Int), .int .u64 (a1 : Int)]] w fun e w' => e = .returned (.bool true) ∧ Below w.heap.size w w' := by
  have HA := hid (fun W => alive5_any W)
  have HT := hid (show TwB w c a0 a1 ((w.alloc (.cells (ubs c).toArray 26)).alloc (.cells #[.int .u64 (a0 : Int), .int .u64 (a1 : Int)] 54)) from ⟨(At.new _ _ _).alloc _, At.new_at (by simp), ((Below.refl _ _).alloc (Nat.le_refl _) _).alloc (by simp) _⟩)
  have HBR := hid hb
  have HCL := hid hc
  obtain ⟨L, hL⟩ : ∃ L, L = b.length := ⟨_, rfl⟩
  have HL := hid hL
  rw [← hL] at hlen ⊢
  by_cases hbig : 300 < L
  · have c0 : decide (300 < (L : Int)) = true := by simp; omega
    clear hb hc hL hbig
    go_enter Try.func8, Try.ntmps8
    go_wp2_with (go_at_call 21; refine (HA.out _).mono ?_; rintro e w1 ⟨rfl, hb1⟩; have T1 := hid (HT.out.new hb1); clear hb1)
    go_ret
    exact ⟨rfl, T1.out.below⟩
  obtain ⟨x, hx⟩ : ∃ x, x = a0 % 4611686018427387904 := ⟨_, rfl⟩
  obtain ⟨y, hy⟩ : ∃ y, y = a1 % 4611686018427387904 := ⟨_, rfl⟩
  obtain ⟨z, hz⟩ : ∃ z, z = x + y := ⟨_, rfl⟩
  obtain ⟨d, hd⟩ : ∃ d, d = nextL c x := ⟨_, rfl⟩
  obtain ⟨f, hf⟩ : ∃ f, f = nextL c z := ⟨_, rfl⟩
  have HN1 := hid (fun W => pnext_any c x W hc (by omega))
  have HDL := hid (show d.length = 16 by rw [hd]; exact nextL_length _ _)
  have HN2 := hid (fun W => pnext_any d y W HDL.out (by omega))
  rw [show nextL d y = f by rw [hd, hf, hz]; exact nextL_add c x y] at HN2
  have HN3 := hid (fun W => pnext_any c z W hc (by omega))
  rw [← hd] at HN1
  rw [← hf] at HN3
  have HFL := hid (show f.length = 16 by rw [hf]; exact nextL_length _ _)
  have R0 := rem62 46 a0
  have R1 := rem62 46 a1
  rw [← hx] at R0
  rw [← hy] at R1
  have ez : (x : Int) + (y : Int) = (z : Int) := by omega
  have wz := wrap64 z (by omega)
  have c0 : decide (300 < (L : Int)) = false := by simp; omega
  have hTurn := hid (fun (W : World) (hB : Below w.heap.size w W) => pturn_any n16 c b none B cb W n16_length hc (Cip.nil W) ((hb.below hB).mono hB.size) (by omega))
  have hTurn2 := hid (fun (W : World) (g : Nat) (hA : At W g (ubs (turnL (rks n16 11) c b)).toArray 5) => pturn_any n16 c (turnL (rks n16 11) c b) none (some ⟨g, 0, none⟩) L W n16_length hc (Cip.nil W) (rb_at hA) (by rw [turnL_length]; omega))
  rw [turnL_length, turn_twice, ← hL] at hTurn2
  rw [← hL] at hTurn
  have hBytes := hid (fun (W : World) (g : Nat) (hB : Below w.heap.size w W) (hA : At W g (ubs b).toArray 5) => bytes_any b b (some ⟨g, 0, none⟩) B L cb W (rb_at hA) ((hb.below hB).mono hB.size))
  rw [← hL] at hBytes
  clear hb hc hL hbig hd hf hz hx hy
  go_enter Try.func8, Try.ntmps8
  go_upto_region 5 with (go_at_call 21; refine (HA.out _).mono ?_; rintro e w1 ⟨rfl, hb1⟩; have T1 := hid (HT.out.new hb1); clear hb1)
  refine wp_region_facts 19 19 [12, 13, 14, 15, 16, 17, 18, 19, 20, 21, 22, 23, 24, 25, 26, 27, 28, 29, 30] (fun i v _ => v = twF (w.heap.size + 1) c d f a0 a1 x y z i) (TwB w c a0 a1) (by kernel_rfl) (by kernel_rfl)
    (fun W W' h hb => h.new hb) (fun _ _ _ _ h _ => h) (T1.out.drew) ?_ ?_
  · intro i hi vals W K hB hn hK
    simp only [frm_cons, frm_nil, List.set_cons_succ, List.set_cons_zero, Nat.reduceAdd] at hK ⊢
    rcases (by omega : i = 0 ∨ i = 1 ∨ i = 2 ∨ i = 3 ∨ i = 4 ∨ i = 5 ∨ i = 6 ∨ i = 7 ∨ i = 8 ∨ i = 9 ∨ i = 10 ∨ i = 11 ∨ i = 12 ∨ i = 13 ∨ i = 14 ∨ i = 15 ∨ i = 16 ∨ i = 17 ∨ i = 18) with rfl | rfl | rfl | rfl | rfl | rfl | rfl | rfl | rfl | rfl | rfl | rfl | rfl | rfl | rfl | rfl | rfl | rfl | rfl
    · refine wpOp_plain rfl rfl (wp_val (run_load_16 (.tmp 3) rfl w.heap.size rfl c HCL.out hB.ctr) ?_)
      exact hK _ _ rfl (Below.refl _ _)
    · refine wpOp_plain rfl rfl (wp_val (w' := W) (v := .pointer (some ⟨w.heap.size + 1, 0, none⟩)) (by go_simp) ?_)
      exact hK _ _ rfl (Below.refl _ _)
    · have h1 := hn 1 (by decide +kernel)
      simp only [twF] at h1
      simp only [h1] at hK ⊢
      have q := hB.two.cell 0
      refine wpOp_plain rfl rfl (wp_val (w' := W) (v := .int .u64 (a0 : Int)) (by go_simp) ?_)
      exact hK _ _ rfl (Below.refl _ _)
    · have h2 := hn 2 (by decide +kernel)
      simp only [twF] at h2
      simp only [h2] at hK ⊢
      refine wpOp_plain rfl rfl (wp_val (w' := W) (v := .int .u64 (x : Int)) (by go_simp) ?_)
      exact hK _ _ rfl (Below.refl _ _)
    · have h0 := hn 0 (by decide +kernel)
      have h3 := hn 3 (by decide +kernel)
      simp only [twF] at h0 h3
      simp only [h0, h3] at hK ⊢
      refine wpOp_plain rfl rfl ?_
      go_simp
      go_at_call 26
      refine (HN1.out W).mono ?_
      rintro e W' ⟨rfl, hb⟩
      exact hK _ _ rfl hb
    · refine wpOp_plain rfl rfl (wp_val (w' := W) (v := .pointer (some ⟨w.heap.size + 1, 1, none⟩)) (by go_simp) ?_)
      exact hK _ _ rfl (Below.refl _ _)
    · have h5 := hn 5 (by decide +kernel)
      simp only [twF] at h5
      simp only [h5] at hK ⊢
      have q := hB.two.cell 1
      refine wpOp_plain rfl rfl (wp_val (w' := W) (v := .int .u64 (a1 : Int)) (by go_simp) ?_)
      exact hK _ _ rfl (Below.refl _ _)
    · have h6 := hn 6 (by decide +kernel)
      simp only [twF] at h6
      simp only [h6] at hK ⊢
      refine wpOp_plain rfl rfl (wp_val (w' := W) (v := .int .u64 (y : Int)) (by go_simp) ?_)
      exact hK _ _ rfl (Below.refl _ _)
    · have h4 := hn 4 (by decide +kernel)
      have h7 := hn 7 (by decide +kernel)
      simp only [twF] at h4 h7
      simp only [h4, h7] at hK ⊢
      refine wpOp_plain rfl rfl ?_
      go_simp
      go_at_call 26
      refine (HN2.out W).mono ?_
      rintro e W' ⟨rfl, hb⟩
      exact hK _ _ rfl hb
    · refine wpOp_plain rfl rfl (wp_val (run_load_16 (.tmp 3) rfl w.heap.size rfl c HCL.out hB.ctr) ?_)
      exact hK _ _ rfl (Below.refl _ _)
    · refine wpOp_plain rfl rfl (wp_val (w' := W) (v := .pointer (some ⟨w.heap.size + 1, 0, none⟩)) (by go_simp) ?_)
      exact hK _ _ rfl (Below.refl _ _)
    · have h10 := hn 10 (by decide +kernel)
      simp only [twF] at h10
      simp only [h10] at hK ⊢
      have q := hB.two.cell 0
      refine wpOp_plain rfl rfl (wp_val (w' := W) (v := .int .u64 (a0 : Int)) (by go_simp) ?_)
      exact hK _ _ rfl (Below.refl _ _)
    · have h11 := hn 11 (by decide +kernel)
      simp only [twF] at h11
      simp only [h11] at hK ⊢
      refine wpOp_plain rfl rfl (wp_val (w' := W) (v := .int .u64 (x : Int)) (by go_simp) ?_)
      exact hK _ _ rfl (Below.refl _ _)
    · refine wpOp_plain rfl rfl (wp_val (w' := W) (v := .pointer (some ⟨w.heap.size + 1, 1, none⟩)) (by go_simp) ?_)
      exact hK _ _ rfl (Below.refl _ _)
    · have h13 := hn 13 (by decide +kernel)
      simp only [twF] at h13
      simp only [h13] at hK ⊢
      have q := hB.two.cell 1
      refine wpOp_plain rfl rfl (wp_val (w' := W) (v := .int .u64 (a1 : Int)) (by go_simp) ?_)
      exact hK _ _ rfl (Below.refl _ _)
    · have h14 := hn 14 (by decide +kernel)
      simp only [twF] at h14
      simp only [h14] at hK ⊢
      refine wpOp_plain rfl rfl (wp_val (w' := W) (v := .int .u64 (y : Int)) (by go_simp) ?_)
      exact hK _ _ rfl (Below.refl _ _)
    · have h12 := hn 12 (by decide +kernel)
      have h15 := hn 15 (by decide +kernel)
      simp only [twF] at h12 h15
      simp only [h12, h15] at hK ⊢
      refine wpOp_plain rfl rfl (wp_val (w' := W) (v := .int .u64 (z : Int)) (by go_simp) ?_)
      exact hK _ _ rfl (Below.refl _ _)
    · have h9 := hn 9 (by decide +kernel)
      have h16 := hn 16 (by decide +kernel)
      simp only [twF] at h9 h16
      simp only [h9, h16] at hK ⊢
      refine wpOp_plain rfl rfl ?_
      go_simp
      go_at_call 26
      refine (HN3.out W).mono ?_
      rintro e W' ⟨rfl, hb⟩
      exact hK _ _ rfl hb
    · have h8 := hn 8 (by decide +kernel)
      have h17 := hn 17 (by decide +kernel)
      simp only [twF] at h8 h17
      simp only [h8, h17] at hK ⊢
      refine wpOp_plain rfl rfl (wp_val (run_neq_blocks _ (.tmp 20) (.tmp 29) rfl f HFL.out rfl rfl W) ?_)
      exact hK _ _ rfl (Below.refl _ _)
  · intro vals W hB hF
    have h0 := hF 0 (by omega)
    have h1 := hF 1 (by omega)
    have h2 := hF 2 (by omega)
    have h3 := hF 3 (by omega)
    have h4 := hF 4 (by omega)
    have h5 := hF 5 (by omega)
    have h6 := hF 6 (by omega)
    have h7 := hF 7 (by omega)
    have h8 := hF 8 (by omega)
    have h9 := hF 9 (by omega)
    have h10 := hF 10 (by omega)
    have h11 := hF 11 (by omega)
    have h12 := hF 12 (by omega)
    have h13 := hF 13 (by omega)
    have h14 := hF 14 (by omega)
    have h15 := hF 15 (by omega)
    have h16 := hF 16 (by omega)
    have h17 := hF 17 (by omega)
    have h18 := hF 18 (by omega)
    simp only [twF] at h0 h1 h2 h3 h4 h5 h6 h7 h8 h9 h10 h11 h12 h13 h14 h15 h16 h17 h18
    simp only [frm_cons, frm_nil, List.set_cons_succ, List.set_cons_zero, Nat.reduceAdd, h0, h1, h2, h3, h4, h5, h6, h7, h8, h9, h10, h11, h12, h13, h14, h15, h16, h17, h18]
    refine wpUpto_done (by decide +kernel) ?_ _
    go_simp
    have T2 := hid hB
    clear hB hF h0 h1 h2 h3 h4 h5 h6 h7 h8 h9 h10 h11 h12 h13 h14 h15 h16 h17 h18 T1 HT
    go_upto_region 7 with (fail)
    refine wp_region_facts 8 8 [31, 32, 33, 34, 35, 36, 37, 6] (fun i v W => match i with | 0 => v = .agg (ubs c).toArray | 1 => v = .agg (ubs c).toArray | 2 => v = .slice B L cb | 3 => ∃ g, v = .slice (some ⟨g, 0, none⟩) L L ∧ At W g (ubs (turnL (rks n16 11) c b)).toArray 5 | 4 => ∃ g, v = .slice (some ⟨g, 0, none⟩) L L ∧ At W g (ubs b).toArray 5 | 5 => v = .slice B L cb | _ => v = .bool true) (TwB w c a0 a1) (by kernel_rfl) (by kernel_rfl)
      (fun W W' h hb => h.new hb) (by
      intro i v W W' h hb
      rcases i with _ | _ | _ | _ | _ | _ | _ | i
      · exact h
      · exact h
      · exact h
      · obtain ⟨g, e, h⟩ := h
        exact ⟨g, e, h.new_ hb⟩
      · obtain ⟨g, e, h⟩ := h
        exact ⟨g, e, h.new_ hb⟩
      · exact h
      · exact h
      · exact h) (T2.out.drew) ?_ ?_
    · intro i hi vals W K hB hn hK
      simp only [frm_cons, frm_nil, List.set_cons_succ, List.set_cons_zero, Nat.reduceAdd] at hK ⊢
      rcases (by omega : i = 0 ∨ i = 1 ∨ i = 2 ∨ i = 3 ∨ i = 4 ∨ i = 5 ∨ i = 6 ∨ i = 7) with rfl | rfl | rfl | rfl | rfl | rfl | rfl | rfl
      · refine wpOp_plain rfl rfl (wp_val (run_load_16 (.tmp 3) rfl w.heap.size rfl c HCL.out hB.ctr) ?_)
        exact hK _ _ rfl (Below.refl _ _)
      · refine wpOp_plain rfl rfl (wp_val (run_load_16 (.tmp 3) rfl w.heap.size rfl c HCL.out hB.ctr) ?_)
        exact hK _ _ rfl (Below.refl _ _)
      · refine wpOp_plain rfl rfl (wp_val (w' := W) (v := .slice B L cb) (by go_simp) ?_)
        exact hK _ _ rfl (Below.refl _ _)
      · have h1 := hn 1 (by decide +kernel)
        have h2 := hn 2 (by decide +kernel)
        simp only [] at h1 h2
        simp only [h1, h2] at hK ⊢
        refine wpOp_plain rfl rfl ?_
        go_simp
        go_at_call 24
        refine (hTurn.out W hB.below).mono ?_
        rintro e W' ⟨g, rfl, -, hA, hb⟩
        exact hK _ _ ⟨g, rfl, hA⟩ hb
      · have h0 := hn 0 (by decide +kernel)
        have h3 := hn 3 (by decide +kernel)
        simp only [] at h0
        obtain ⟨g3, e3, A3⟩ := h3
        simp only [h0, e3] at hK ⊢
        refine wpOp_plain rfl rfl ?_
        go_simp
        go_at_call 24
        refine (hTurn2.out W g3 A3).mono ?_
        rintro e W' ⟨g, rfl, -, hA, hb⟩
        exact hK _ _ ⟨g, rfl, hA⟩ hb
      · refine wpOp_plain rfl rfl (wp_val (w' := W) (v := .slice B L cb) (by go_simp) ?_)
        exact hK _ _ rfl (Below.refl _ _)
      · have h4 := hn 4 (by decide +kernel)
        have h5 := hn 5 (by decide +kernel)
        simp only [] at h5
        obtain ⟨g4, e4, A4⟩ := h4
        simp only [e4, h5] at hK ⊢
        refine wpOp_plain rfl rfl ?_
        go_simp
        go_at_call 19
        refine (hBytes.out W g4 hB.below A4).mono ?_
        rintro e W' ⟨rfl, rfl⟩
        exact hK _ _ (by simp) (Below.refl _ _)
      · have h6 := hn 6 (by decide +kernel)
        simp only [] at h6
        simp only [h6] at hK ⊢
        refine wpOp_plain rfl rfl (wp_val (w' := W) (v := .bool true) (by go_simp) ?_)
        exact hK _ _ rfl (Below.refl _ _)
    · intro vals W hB hF
      have h0 := hF 0 (by omega)
      have h1 := hF 1 (by omega)
      have h2 := hF 2 (by omega)
      have h3 := hF 3 (by omega)
      have h4 := hF 4 (by omega)
      have h5 := hF 5 (by omega)
      have h6 := hF 6 (by omega)
      have h7 := hF 7 (by omega)
      simp only [] at h0 h1 h2 h5 h6 h7
      obtain ⟨g3, e3, A3⟩ := h3
      obtain ⟨g4, e4, A4⟩ := h4
      simp only [frm_cons, frm_nil, List.set_cons_succ, List.set_cons_zero, Nat.reduceAdd, h0, h1, h2, e3, e4, h5, h6, h7]
      refine wpUpto_done (by decide +kernel) ?_ _
      go_simp
      have HE := hid hB.below
      clear hB hF h0 h1 h2 h5 h6 h7 e3 e4 A3 A4
      go_wp2
      go_ret
      exact ⟨rfl, HE.out⟩
end Go.Proofs.Ytenlidbgllahhaa
