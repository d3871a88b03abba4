/-
  CtrStreams, walked.
-/
import Derived.Test.YtenlidbgllahhaaGk
import Derived.Test.YtenlidbgllahhaaFt
namespace Go.Proofs.Ytenlidbgllahhaa
open Go.RowKit

/-- What holds while the law goes on: the key, the counter, the bytes that came in. -/
structure StB (w : World) (key c b : List UInt8) (B : Option Addr) (W : World) : Prop where
  key : At W w.heap.size (ubs key).toArray 27
  ctr : At W (w.heap.size + 1) (ubs c).toArray 26
  arg : Rb W W.heap.size B b
  below : Below w.heap.size w W
theorem rb_new {W W' : World} {A : Option Addr} {l : List UInt8} (h : Rb W W.heap.size A l) (hb : Below W.heap.size W W') : Rb W' W'.heap.size A l := (h.below hb).mono hb.size
theorem StB.new {w W W' : World} {key c b : List UInt8} {B : Option Addr} (h : StB w key c b B W) (hb : Below W.heap.size W W') : StB w key c b B W' := ⟨h.key.new_ hb, h.ctr.new_ hb, rb_new h.arg hb, h.below.trans (hb.mono h.below.size)⟩
/-- And its cipher, the document's round keys, the copy, the stream. -/
structure StC (w : World) (key c b s : List UInt8) (B : Option Addr) (C gk : Nat) (Ao : Option Addr) (gs : Nat) (W : World) : Prop where
  base : StB w key c b B W
  ciph : At W C (ubs (rks key 11)).toArray 58
  keys : Rb W W.heap.size (some ⟨gk, 0, none⟩) (rks key 11)
  own : Rb W W.heap.size Ao b
  str : At W gs (ubs s).toArray 5
theorem StC.new {w W W' : World} {key c b s : List UInt8} {B Ao : Option Addr} {C gk gs : Nat} (h : StC w key c b s B C gk Ao gs W) (hb : Below W.heap.size W W') : StC w key c b s B C gk Ao gs W' := ⟨h.base.new hb, h.ciph.new_ hb, rb_new h.keys hb, rb_new h.own hb, h.str.new_ hb⟩
theorem rb_drew {W : World} {A : Option Addr} {l : List UInt8} (h : Rb W W.heap.size A l) : Rb W.drew W.drew.heap.size A l := rb_new h ((Below.refl _ _).drew)
theorem StC.drew {w W : World} {key c b s : List UInt8} {B Ao : Option Addr} {C gk gs : Nat} (h : StC w key c b s B C gk Ao gs W) : StC w key c b s B C gk Ao gs W.drew := h.new ((Below.refl _ _).drew)
set_option maxRecDepth 100000 in
set_option maxHeartbeats 1000000 in
theorem streams_law (key c b : List UInt8) (B : Option Addr) (cb : Nat) (w : World) (hk : key.length = 16) (hc : c.length = 16) (hb : Rb w w.heap.size B b) (hlen : b.length ≤ 140737488351232) :
    Calls Try.prog 5 #[.agg (ubs key).toArray, .agg (ubs c).toArray, .slice B b.length cb] w fun e w' => e = .returned (.bool true) ∧ Below w.heap.size w w' := by
  obtain ⟨i0, hi, hz0, hz1, hz2⟩ := info_parts infoB
  have HA := hid (fun W => alive5_any W)
  have hbel : Below w.heap.size w ((w.alloc (.cells (ubs key).toArray 27)).alloc (.cells (ubs c).toArray 26)) := ((Below.refl _ _).alloc (Nat.le_refl _) _).alloc (by simp) _
  have HT := hid (show StB w key c b B ((w.alloc (.cells (ubs key).toArray 27)).alloc (.cells (ubs c).toArray 26)) from ⟨(At.new _ _ _).alloc _, At.new_at (by simp), rb_new hb hbel, hbel⟩)
  have HCL := hid hc
  have HKL := hid hk
  obtain ⟨L, hL⟩ : ∃ L, L = b.length := ⟨_, rfl⟩
  have HL := hid hL
  rw [← hL] at hlen ⊢
  by_cases hbig : 300 < L
  · have c0 : decide (300 < (L : Int)) = true := by simp; omega
    clear hb hc hL hbig hbel hi hz0 hz1 hz2
    go_enter Try.func5, Try.ntmps5
    go_wp2_with (go_at_call 21; refine (HA.out _).mono ?_; rintro e w1 ⟨rfl, hb1⟩; have T1 := hid (HT.out.new hb1); clear hb1)
    go_ret
    exact ⟨rfl, T1.out.below⟩
  have c0 : decide (300 < (L : Int)) = false := by simp; omega
  obtain ⟨ks, hks⟩ : ∃ ks, ks = rks key 11 := ⟨_, rfl⟩
  obtain ⟨s, hs⟩ : ∃ s, s = streamL ks c L := ⟨_, rfl⟩
  obtain ⟨t, ht⟩ : ∃ t, t = turnL ks c b := ⟨_, rfl⟩
  have HSL := hid (show s.length = L by rw [hs]; exact streamL_length _ _ _)
  have HTL := hid (show t.length = L by rw [ht, hL]; exact turnL_length _ _ _)
  have HN := hid (fun W => new_any key W hk)
  have HKR := hid (fun W => keysR_row key W hk)
  have HO := hid own_start
  have hS := hid (fun (W : World) (C : Nat) (h : At W C (ubs (rks key 11)).toArray 58) => pstream_any key c (some ⟨C, 0, none⟩) L W hk hc (.inr ⟨C, rfl, h⟩) (by omega))
  have hSR := hid (fun (W : World) (gk cap : Nat) (h : Rb W W.heap.size (some ⟨gk, 0, none⟩) (rks key 11)) => streamR_any (rks key 11) c (some ⟨gk, 0, none⟩) cap L W hc (by rw [rks_length key hk]) h (by omega))
  have hT := hid (fun (W : World) (C : Nat) (Ao : Option Addr) (co : Nat) (h : At W C (ubs (rks key 11)).toArray 58) (hb : Rb W W.heap.size Ao b) => pturn_any key c b (some ⟨C, 0, none⟩) Ao co W hk hc (.inr ⟨C, rfl, h⟩) hb (by omega))
  have hTR := hid (fun (W : World) (gk cap : Nat) (h : Rb W W.heap.size (some ⟨gk, 0, none⟩) (rks key 11)) (hb : Rb W W.heap.size B b) => turnR_any (rks key 11) c b (some ⟨gk, 0, none⟩) B cap cb W hc (by rw [rks_length key hk]) h hb (by omega))
  rw [← hks] at hS hSR hT hTR
  rw [← hs] at hS hSR
  rw [← ht, ← hL] at hT hTR
  rw [hks] at hS hSR hT hTR
  have hB1 := hid (bytes_same s L HSL.out)
  have hB2 := hid (bytes_same t L HTL.out)
  have hB3 := hid (bytes_same b L hL.symm)
  have hmax : L ≤ 300 := by omega
  clear hb hc hk hL hbig hks hs ht hlen hbel
  go_enter Try.func5, Try.ntmps5
  go_upto_region 9 with (first
    | (go_at_call 21; refine (HA.out _).mono ?_; rintro e w1 ⟨rfl, hb1⟩; have T1 := hid (HT.out.new hb1); clear hb1)
    | (refine wpList_load_row rfl _ (.tmp 3) rfl w.heap.size rfl 27 (ubs key).toArray (0, 0) _ T1.out.key Try.underlying27 rfl (sizeKey_of HKL.out) ?_)
    | (go_at_call 16; refine (HN.out _).mono ?_; rintro e w2 ⟨C, rfl, -, hC, hb2⟩; have T2 := hid (T1.out.new hb2); have C2 := hid hC; clear hb2 hC)
    | (refine wpList_load_row rfl _ (.tmp 3) rfl w.heap.size rfl 27 (ubs key).toArray (0, 0) _ T2.out.key Try.underlying27 rfl (sizeKey_of HKL.out) ?_)
    | (go_at_call 20; refine (HKR.out w2).mono ?_; rintro e w3 ⟨gk, cap, rfl, -, hR3, hb3⟩; have T3 := hid (T2.out.new hb3); have C3 := hid (C2.out.new_ hb3); have K3 := hid hR3; clear hb3 hR3)
    | (at_builtin; refine wpList_append_rd rfl (.tmp 21) (.tmp 22) _ rfl w3.heap.size 5 i0 (.int .u8 0) 1 Try.underlying37 hi hz0 hz1 hz2 rfl (.slice (some ⟨w3.heap.size, 0, none⟩) 0 0) 0 (ubs []) rfl (HO.out w3).own _ B L cb (ubs b) rfl (by rw [ubs_length]; exact HL.out.symm) (Rd.alloc T3.out.arg _) (ubs_one _) (by unfold maxLen; omega) (by omega) (by simp) ?_; intro v4 w4 hown hgr _; replace hown := hid ((HO.out w3).more hown HL.out hgr); clear hgr; rw [List.nil_append, Nat.zero_add] at hown; (have hf4 := own_form hown.out.own); obtain ⟨Ao, co, rfl, -⟩ := hf4; have T4 := hid (T3.out.new hown.out.below); have C4 := hid (C3.out.new_ hown.out.below); have K4 := hid (rb_new K3.out hown.out.below); have O4 := hid (Rd.of_own hown.out.own); clear hown)
    | (refine wpList_load_row rfl _ (.tmp 4) rfl (w.heap.size + 1) rfl 26 (ubs c).toArray (0, 0) _ T4.out.ctr Try.underlying26 rfl (size16_of HCL.out) ?_)
    | (go_at_call 22; refine (hS.out w4 C C4.out).mono ?_; rintro e w5 ⟨gs, rfl, -, hA5, hb5⟩; have T5 := hid (show StC w key c b s B C gk Ao gs w5 from ⟨T4.out.new hb5, C4.out.new_ hb5, rb_new K4.out hb5, rb_new O4.out hb5, hA5⟩); clear hb5 hA5))
  clear hi hz0 hz1 hz2
  refine wp_region_facts 28 28 [32, 33, 34, 35, 36, 37, 38, 39, 40, 41, 42, 43, 44, 45, 46, 47, 48, 49, 50, 51, 52, 53, 54, 55, 56, 57, 58, 6] (fun i v W => match i with | 0 => v = .nilIface | 1 => v = .bool true | 2 => v = .bool true | 3 => v = .slice (some ⟨gs, 0, none⟩) L L | 4 => v = .slice (some ⟨gk, 0, none⟩) 176 cap | 5 => v = .agg (ubs c).toArray | 6 => v = .slice B L cb | 7 => v = .int .i64 (L : Int) | 8 => ∃ A' c', v = .slice A' L c' ∧ Rb W W.heap.size A' s | 9 => v = .bool true | 10 => v = .bool true | 11 => v = .bool true | 12 => v = .pointer (some ⟨C, 0, none⟩) | 13 => v = .agg (ubs c).toArray | 14 => v = .slice Ao L co | 15 => ∃ g, v = .slice (some ⟨g, 0, none⟩) L L ∧ At W g (ubs t).toArray 5 | 16 => v = .slice (some ⟨gk, 0, none⟩) 176 cap | 17 => v = .agg (ubs c).toArray | 18 => v = .slice B L cb | 19 => ∃ A' c', v = .slice A' L c' ∧ Rb W W.heap.size A' t | 20 => v = .bool true | 21 => v = .bool true | 22 => v = .bool true | 23 => v = .slice Ao L co | 24 => v = .slice B L cb | 25 => v = .bool true | 26 => v = .bool true | _ => v = .bool true) (StC w key c b s B C gk Ao gs) (by kernel_rfl) (by kernel_rfl)
    (fun W W' h hb => h.new hb) (by
      intro i v W W' h hb
      rcases i with _ | _ | _ | _ | _ | _ | _ | _ | _ | _ | _ | _ | _ | _ | _ | _ | _ | _ | _ | _ | _ | _ | _ | _ | _ | _ | _ | i
      · exact h
      · exact h
      · exact h
      · exact h
      · exact h
      · exact h
      · exact h
      · exact h
      · obtain ⟨A, c', e, h⟩ := h
        exact ⟨A, c', e, rb_new h hb⟩
      · exact h
      · exact h
      · exact h
      · exact h
      · exact h
      · exact h
      · obtain ⟨g, e, h⟩ := h
        exact ⟨g, e, h.new_ hb⟩
      · exact h
      · exact h
      · exact h
      · obtain ⟨A, c', e, h⟩ := h
        exact ⟨A, c', e, rb_new h hb⟩
      · exact h
      · exact h
      · exact h
      · exact h
      · exact h
      · exact h
      · exact h
      · exact h) (T5.out.drew) ?_ ?_
  · intro i hi vals W K hB hn hK
    simp only [frm_cons, frm_nil, List.set_cons_succ, List.set_cons_zero, Nat.reduceAdd] at hK ⊢
    rcases (by omega : i = 0 ∨ i = 1 ∨ i = 2 ∨ i = 3 ∨ i = 4 ∨ i = 5 ∨ i = 6 ∨ i = 7 ∨ i = 8 ∨ i = 9 ∨ i = 10 ∨ i = 11 ∨ i = 12 ∨ i = 13 ∨ i = 14 ∨ i = 15 ∨ i = 16 ∨ i = 17 ∨ i = 18 ∨ i = 19 ∨ i = 20 ∨ i = 21 ∨ i = 22 ∨ i = 23 ∨ i = 24 ∨ i = 25 ∨ i = 26 ∨ i = 27) with rfl | rfl | rfl | rfl | rfl | rfl | rfl | rfl | rfl | rfl | rfl | rfl | rfl | rfl | rfl | rfl | rfl | rfl | rfl | rfl | rfl | rfl | rfl | rfl | rfl | rfl | rfl | rfl
    · refine wpOp_plain rfl rfl (wp_val (w' := W) (v := .nilIface) (by go_simp) ?_)
      exact hK _ _ rfl (Below.refl _ _)
    · have h0 := hn 0 (by decide +kernel)
      simp only [] at h0
      simp only [h0] at hK ⊢
      refine wpOp_plain rfl rfl (wp_val (w' := W) (v := .bool true) (by go_simp) ?_)
      exact hK _ _ rfl (Below.refl _ _)
    · have h1 := hn 1 (by decide +kernel)
      simp only [] at h1
      simp only [h1] at hK ⊢
      refine wpOp_plain rfl rfl (wp_val (w' := W) (v := .bool true) (by go_simp) ?_)
      exact hK _ _ rfl (Below.refl _ _)
    · have h2 := hn 2 (by decide +kernel)
      simp only [] at h2
      simp only [h2] at hK ⊢
      refine wpOp_on rfl (by rfl) (wp_val (w' := W) (v := .slice (some ⟨gs, 0, none⟩) L L) (by go_simp) ?_)
      exact hK _ _ rfl (Below.refl _ _)
    · have h2 := hn 2 (by decide +kernel)
      simp only [] at h2
      simp only [h2] at hK ⊢
      refine wpOp_on rfl (by rfl) (wp_val (w' := W) (v := .slice (some ⟨gk, 0, none⟩) 176 cap) (by go_simp) ?_)
      exact hK _ _ rfl (Below.refl _ _)
    · have h2 := hn 2 (by decide +kernel)
      simp only [] at h2
      simp only [h2] at hK ⊢
      refine wpOp_on rfl (by rfl) (wp_val (run_load_16 (.tmp 4) rfl (w.heap.size + 1) rfl c HCL.out hB.base.ctr) ?_)
      exact hK _ _ rfl (Below.refl _ _)
    · have h2 := hn 2 (by decide +kernel)
      simp only [] at h2
      simp only [h2] at hK ⊢
      refine wpOp_on rfl (by rfl) (wp_val (w' := W) (v := .slice B L cb) (by go_simp) ?_)
      exact hK _ _ rfl (Below.refl _ _)
    · have h2 := hn 2 (by decide +kernel)
      have h6 := hn 6 (by decide +kernel)
      simp only [] at h2 h6
      simp only [h2, h6] at hK ⊢
      refine wpOp_on rfl (by rfl) (wp_val (w' := W) (v := .int .i64 (L : Int)) (by go_simp) ?_)
      exact hK _ _ rfl (Below.refl _ _)
    · have h2 := hn 2 (by decide +kernel)
      have h4 := hn 4 (by decide +kernel)
      have h5 := hn 5 (by decide +kernel)
      have h7 := hn 7 (by decide +kernel)
      simp only [] at h2 h4 h5 h7
      simp only [h2, h4, h5, h7] at hK ⊢
      refine wpOp_on rfl (by rfl) ?_
      go_simp
      go_at_call 23
      refine (hSR.out W gk cap hB.keys).mono ?_
      rintro e W' ⟨A', c', rfl, hO⟩
      exact hK _ _ ⟨A', c', rfl, Rd.of_own hO.own⟩ hO.below
    · have h2 := hn 2 (by decide +kernel)
      have h3 := hn 3 (by decide +kernel)
      have h8 := hn 8 (by decide +kernel)
      simp only [] at h2 h3
      obtain ⟨A8, c8, e8, R8⟩ := h8
      simp only [h2, h3, e8] at hK ⊢
      refine wpOp_on rfl (by rfl) ?_
      go_simp
      go_at_call 19
      refine (hB1.out _ A8 L c8 W (rb_at hB.str) R8).mono ?_
      rintro e W' ⟨rfl, rfl⟩
      exact hK _ _ rfl (Below.refl _ _)
    · have h2 := hn 2 (by decide +kernel)
      have h9 := hn 9 (by decide +kernel)
      simp only [] at h2 h9
      simp only [h2, h9] at hK ⊢
      refine wpOp_plain rfl rfl (wp_val (w' := W) (v := .bool true) (by go_simp) ?_)
      exact hK _ _ rfl (Below.refl _ _)
    · have h10 := hn 10 (by decide +kernel)
      simp only [] at h10
      simp only [h10] at hK ⊢
      refine wpOp_plain rfl rfl (wp_val (w' := W) (v := .bool true) (by go_simp) ?_)
      exact hK _ _ rfl (Below.refl _ _)
    · have h11 := hn 11 (by decide +kernel)
      simp only [] at h11
      simp only [h11] at hK ⊢
      refine wpOp_on rfl (by rfl) (wp_val (w' := W) (v := .pointer (some ⟨C, 0, none⟩)) (by go_simp) ?_)
      exact hK _ _ rfl (Below.refl _ _)
    · have h11 := hn 11 (by decide +kernel)
      simp only [] at h11
      simp only [h11] at hK ⊢
      refine wpOp_on rfl (by rfl) (wp_val (run_load_16 (.tmp 4) rfl (w.heap.size + 1) rfl c HCL.out hB.base.ctr) ?_)
      exact hK _ _ rfl (Below.refl _ _)
    · have h11 := hn 11 (by decide +kernel)
      simp only [] at h11
      simp only [h11] at hK ⊢
      refine wpOp_on rfl (by rfl) (wp_val (w' := W) (v := .slice Ao L co) (by go_simp) ?_)
      exact hK _ _ rfl (Below.refl _ _)
    · have h11 := hn 11 (by decide +kernel)
      have h12 := hn 12 (by decide +kernel)
      have h13 := hn 13 (by decide +kernel)
      have h14 := hn 14 (by decide +kernel)
      simp only [] at h11 h12 h13 h14
      simp only [h11, h12, h13, h14] at hK ⊢
      refine wpOp_on rfl (by rfl) ?_
      go_simp
      go_at_call 24
      refine (hT.out W C Ao co hB.ciph hB.own).mono ?_
      rintro e W' ⟨g, rfl, -, hA, hb⟩
      exact hK _ _ ⟨g, rfl, hA⟩ hb
    · have h11 := hn 11 (by decide +kernel)
      simp only [] at h11
      simp only [h11] at hK ⊢
      refine wpOp_on rfl (by rfl) (wp_val (w' := W) (v := .slice (some ⟨gk, 0, none⟩) 176 cap) (by go_simp) ?_)
      exact hK _ _ rfl (Below.refl _ _)
    · have h11 := hn 11 (by decide +kernel)
      simp only [] at h11
      simp only [h11] at hK ⊢
      refine wpOp_on rfl (by rfl) (wp_val (run_load_16 (.tmp 4) rfl (w.heap.size + 1) rfl c HCL.out hB.base.ctr) ?_)
      exact hK _ _ rfl (Below.refl _ _)
    · have h11 := hn 11 (by decide +kernel)
      simp only [] at h11
      simp only [h11] at hK ⊢
      refine wpOp_on rfl (by rfl) (wp_val (w' := W) (v := .slice B L cb) (by go_simp) ?_)
      exact hK _ _ rfl (Below.refl _ _)
    · have h11 := hn 11 (by decide +kernel)
      have h16 := hn 16 (by decide +kernel)
      have h17 := hn 17 (by decide +kernel)
      have h18 := hn 18 (by decide +kernel)
      simp only [] at h11 h16 h17 h18
      simp only [h11, h16, h17, h18] at hK ⊢
      refine wpOp_on rfl (by rfl) ?_
      go_simp
      go_at_call 25
      refine (hTR.out W gk cap hB.keys hB.base.arg).mono ?_
      rintro e W' ⟨A', c', rfl, hO⟩
      exact hK _ _ ⟨A', c', rfl, Rd.of_own hO.own⟩ hO.below
    · have h11 := hn 11 (by decide +kernel)
      have h15 := hn 15 (by decide +kernel)
      have h19 := hn 19 (by decide +kernel)
      simp only [] at h11
      obtain ⟨g15, e15, A15⟩ := h15
      obtain ⟨A19, c19, e19, R19⟩ := h19
      simp only [h11, e15, e19] at hK ⊢
      refine wpOp_on rfl (by rfl) ?_
      go_simp
      go_at_call 19
      refine (hB2.out _ A19 L c19 W (rb_at A15) R19).mono ?_
      rintro e W' ⟨rfl, rfl⟩
      exact hK _ _ rfl (Below.refl _ _)
    · have h11 := hn 11 (by decide +kernel)
      have h20 := hn 20 (by decide +kernel)
      simp only [] at h11 h20
      simp only [h11, h20] at hK ⊢
      refine wpOp_plain rfl rfl (wp_val (w' := W) (v := .bool true) (by go_simp) ?_)
      exact hK _ _ rfl (Below.refl _ _)
    · have h21 := hn 21 (by decide +kernel)
      simp only [] at h21
      simp only [h21] at hK ⊢
      refine wpOp_plain rfl rfl (wp_val (w' := W) (v := .bool true) (by go_simp) ?_)
      exact hK _ _ rfl (Below.refl _ _)
    · have h22 := hn 22 (by decide +kernel)
      simp only [] at h22
      simp only [h22] at hK ⊢
      refine wpOp_on rfl (by rfl) (wp_val (w' := W) (v := .slice Ao L co) (by go_simp) ?_)
      exact hK _ _ rfl (Below.refl _ _)
    · have h22 := hn 22 (by decide +kernel)
      simp only [] at h22
      simp only [h22] at hK ⊢
      refine wpOp_on rfl (by rfl) (wp_val (w' := W) (v := .slice B L cb) (by go_simp) ?_)
      exact hK _ _ rfl (Below.refl _ _)
    · have h22 := hn 22 (by decide +kernel)
      have h23 := hn 23 (by decide +kernel)
      have h24 := hn 24 (by decide +kernel)
      simp only [] at h22 h23 h24
      simp only [h22, h23, h24] at hK ⊢
      refine wpOp_on rfl (by rfl) ?_
      go_simp
      go_at_call 19
      refine (hB3.out Ao B co cb W hB.own hB.base.arg).mono ?_
      rintro e W' ⟨rfl, rfl⟩
      exact hK _ _ rfl (Below.refl _ _)
    · have h22 := hn 22 (by decide +kernel)
      have h25 := hn 25 (by decide +kernel)
      simp only [] at h22 h25
      simp only [h22, h25] at hK ⊢
      refine wpOp_plain rfl rfl (wp_val (w' := W) (v := .bool true) (by go_simp) ?_)
      exact hK _ _ rfl (Below.refl _ _)
    · have h26 := hn 26 (by decide +kernel)
      simp only [] at h26
      simp only [h26] at hK ⊢
      refine wpOp_plain rfl rfl (wp_val (w' := W) (v := .bool true) (by go_simp) ?_)
      exact hK _ _ rfl (Below.refl _ _)
  · intro vals W hB hF
    have h0 := hF 0 (by omega)
    have h1 := hF 1 (by omega)
    have h2 := hF 2 (by omega)
    have h3 := hF 3 (by omega)
    have h4 := hF 4 (by omega)
    have h5 := hF 5 (by omega)
    have h6 := hF 6 (by omega)
    have h7 := hF 7 (by omega)
    have h8 := hF 8 (by omega)
    have h9 := hF 9 (by omega)
    have h10 := hF 10 (by omega)
    have h11 := hF 11 (by omega)
    have h12 := hF 12 (by omega)
    have h13 := hF 13 (by omega)
    have h14 := hF 14 (by omega)
    have h15 := hF 15 (by omega)
    have h16 := hF 16 (by omega)
    have h17 := hF 17 (by omega)
    have h18 := hF 18 (by omega)
    have h19 := hF 19 (by omega)
    have h20 := hF 20 (by omega)
    have h21 := hF 21 (by omega)
    have h22 := hF 22 (by omega)
    have h23 := hF 23 (by omega)
    have h24 := hF 24 (by omega)
    have h25 := hF 25 (by omega)
    have h26 := hF 26 (by omega)
    have h27 := hF 27 (by omega)
    simp only [] at h0 h1 h2 h3 h4 h5 h6 h7 h9 h10 h11 h12 h13 h14 h16 h17 h18 h20 h21 h22 h23 h24 h25 h26 h27
    obtain ⟨A8, c8, e8, R8⟩ := h8
    obtain ⟨g15, e15, A15⟩ := h15
    obtain ⟨A19, c19, e19, R19⟩ := h19
    simp only [frm_cons, frm_nil, List.set_cons_succ, List.set_cons_zero, Nat.reduceAdd, h0, h1, h2, h3, h4, h5, h6, h7, e8, h9, h10, h11, h12, h13, h14, e15, h16, h17, h18, e19, h20, h21, h22, h23, h24, h25, h26, h27]
    refine wpUpto_done (by decide +kernel) ?_ _
    go_simp
    have HE := hid hB.base.below
    clear hB hF R8 A15 R19 e8 e15 e19 h0 h1 h2 h3 h4 h5 h6 h7 h9 h10 h11 h12 h13 h14 h16 h17 h18 h20 h21 h22 h23 h24 h25 h26 h27
    go_wp2
    go_ret
    exact ⟨rfl, HE.out⟩
end Go.Proofs.Ytenlidbgllahhaa
