/-
  NodeKinds, walked.
-/
import Derived.Test.YthbppiobadcbkaaDoorNl0
namespace Go.Proofs.YthbppiobadcbkaaDoor
open Go.RowKit

def n1056 : List UInt8 := List.replicate 1056 0
theorem zeroE33 : (Tryd.prog.info? 54).bind (·.zero) = some (.agg (ubs n1056).toArray) := by kernel_rfl
theorem sizeE33 : (Tryd.prog.info? 54).map (·.size) = some 1056 := by kernel_rfl
theorem n1056_length : n1056.length = 1056 := List.length_replicate
attribute [irreducible] n1056
theorem e33_stored (w : World) (s : List UInt8) : At ((w.alloc (.cells (ubs n1056).toArray 54)).setRow w.heap.size (ubs s).toArray) w.heap.size (ubs s).toArray 54 := setRow_heap _ _ (ubs n1056).toArray _ _ _ (At.new _ _ _)
theorem e33_below (w : World) (s : List UInt8) : Below w.heap.size w ((w.alloc (.cells (ubs n1056).toArray 54)).setRow w.heap.size (ubs s).toArray) := below_setRow ((Below.refl _ _).alloc (Nat.le_refl _) _) (Nat.le_refl _) _
theorem e33_range {W : World} {P k : Nat} (h : At W P (ubs (eRow 33)).toArray 54) (hk : k < 33) : W.rangeAt P (32 * k) (ubs (emptyL k)) := by
  obtain ⟨z, hz⟩ := eRow_at 33 k hk
  have := range_at h hz
  rwa [eRow_length] at this
/-- What holds in the law: the text; all empty hashes of the program, and of the document. -/
structure NqW (w : World) (A : Option Addr) (b : List UInt8) (P B g c : Nat) (W : World) : Prop where
  b : Rb W W.heap.size A b
  p : At W P (ubs (eRow 33)).toArray 54
  e : Hw W B (.slice (some ⟨g, 0, none⟩) 33 c) 33 (eRow 33)
  below : Below w.heap.size w W
section
variable {w W W' : World} {A : Option Addr} {b : List UInt8} {P B g c : Nat}
theorem NqW.new (h : NqW w A b P B g c W) (hb : Below W.heap.size W W') : NqW w A b P B g c W' := ⟨(h.b.below hb).mono hb.size, h.p.new_ hb, h.e.new hb, h.below.trans (hb.mono h.below.size)⟩
theorem NqW.drew (h : NqW w A b P B g c W) : NqW w A b P B g c W.drew := ⟨h.b, h.p, h.e, h.below.drew⟩
end
/-- What the loop's region yields. -/
def nq10 (P g c j : Nat) (ej : List UInt8) : Nat → Value
  | 0 => .int .i64 (j : Int)
  | 1 => .pointer (some ⟨P, 32 * j, none⟩)
  | 2 => .agg (ubs ej).toArray
  | 3 => .slice (some ⟨g, 0, none⟩) 33 c
  | 4 => .int .i64 (j : Int)
  | 5 => .pointer (some ⟨g, 32 * j, none⟩)
  | 6 => .agg (ubs ej).toArray
  | _ => .bool false
/-- What the last region yields. -/
def nqF (A : Option Addr) (n c P kn : Nat) (e0 : List UInt8) (j : Nat) (v : Value) (W : World) : Prop :=
  match j with
  | 0 => v = .slice A n c
  | 1 => v = .int .i64 (kn : Int)
  | 2 => v = .slice A n c
  | 3 => v = .int .i64 (kn : Int)
  | 6 => ∃ q, v = .slice (some ⟨q, 0, none⟩) 1 1 ∧ At W q #[.int .u8 0] 5
  | 7 => v = .agg (ubs e0).toArray
  | 8 => v = .pointer (some ⟨P, 0, none⟩)
  | 9 => v = .agg (ubs e0).toArray
  | _ => v = .bool true
theorem nqF_new {A : Option Addr} {n c P kn : Nat} {e0 : List UInt8} {j : Nat} {v : Value} {W W' : World} (h : nqF A n c P kn e0 j v W) (hb : Below W.heap.size W W') : nqF A n c P kn e0 j v W' := by
  by_cases e : j = 6
  · subst e
    obtain ⟨q, e, r⟩ := h
    exact ⟨q, e, r.new_ hb⟩
  · unfold nqF at h ⊢
    split <;> simp_all
set_option maxRecDepth 100000 in
set_option maxHeartbeats 4000000 in
theorem nodeKinds_law (b : List UInt8) (A : Option Addr) (c : Nat) (w : World) (hb : Rb w w.heap.size A b) (hbl : b.length ≤ 140737488351232) (hAL : Alive8C w) (hES : EmptiesC w) (hKI : KindC w) (hR : Tabr w) (hI : Tab w 0 IV.l) :
    Calls Tryd.prog 5 #[.slice A b.length c] w fun e w' => e = .returned (.bool true) ∧ Below w.heap.size w w' := by
  have HAL := hid hAL
  have HIB := hid (fun (W : World) (h : Below w.heap.size w W) => Tab.below (x := IV.a) (xs := [IV.b, IV.c, IV.d, IV.e, IV.f, IV.g, IV.h]) hI h)
  have HBB := hid (fun (W : World) (h : Below w.heap.size w W) => (hb.below h).mono h.size)
  have HB0 := hid (Below.refl w.heap.size w)
  obtain ⟨n, hn⟩ : ∃ n, n = b.length := ⟨_, rfl⟩
  rw [← hn]
  by_cases hbig : 500 < n
  · have c0 : decide (500 < (n : Int)) = true := by simp; omega
    clear hb hbl hAL hES hKI hR hI HIB HBB hn hbig
    go_enter Tryd.func5, Tryd.ntmps5
    go_wp2_with (go_at_call 7; refine (HAL.out _ HB0.out).mono ?_; rintro r1 w1 ⟨rfl, hb1⟩; have B1 := hid hb1; clear hb1)
    go_ret
    exact ⟨rfl, B1.out⟩
  · have c0 : decide (500 < (n : Int)) = false := by simp; omega
    have HES := hid hES
    have HRE := hid (fun (W : World) (b : Below w.heap.size w W) => emptiesR_any W (hR.below b) (HIB.out W b))
    have HKI := hid (fun (W : World) (h : Below w.heap.size w W) (r : Rb W W.heap.size A b) => show Calls Tryd.prog 15 #[.slice A n c] W (fun r w' => r = .returned (.int .i64 (kindN b : Int)) ∧ Below W.heap.size W w') from by
      have := hKI W b A c h r (by omega)
      rwa [← hn] at this)
    have HKR := hid (fun (W : World) (r : Rb W W.heap.size A b) => show Calls Tryd.prog 23 #[.slice A n c] W (fun e w' => e = .returned (.int .i64 (kindN b : Int)) ∧ W = w') from by
      have := kindR_any b A c W r
      rwa [← hn] at this)
    have HSU := hid (fun (W : World) (q : Nat) (h : Below w.heap.size w W) (hq : At W q #[.int .u8 0] 5) => show Calls Tryd.prog 24 #[.slice (some ⟨q, 0, none⟩) 1 1] W (fun e w' => e = .returned (.agg (ubs (emptyL 0)).toArray) ∧ Below W.heap.size W w') from by
      have := sumR_any [0] (some ⟨q, 0, none⟩) 1 W (rb_at (bs := [0]) hq) (by simp) (hR.below h) (HIB.out W h)
      rwa [← emptyL_zero] at this)
    have HAE := hid (fun (o : Oper) (a : Go.Act) (W : World) (h : o.op = .alloc 54) => run_alloc_of (o := o) (a := a) (W := W) _ h _ zeroE33)
    have HSZ := hid (show (Tryd.prog.info? 54).map (·.size) = some (ubs (eRow 33)).toArray.size by rw [sizeE33]; simp [ubs_length, eRow_length])
    have HE0 := hid (emptyL_length 0)
    have HEL := hid (fun k => emptyL_length k)
    have HER := hid (show (ubs n1056).toArray.size = (ubs (eRow 33)).toArray.size by simp [ubs_length, eRow_length, n1056_length])
    have HR0 := hid (fun (W : World) (P : Nat) (h : At W P (ubs (eRow 33)).toArray 54) => e33_range h (k := 0) (by omega))
    generalize kindN b = kn at HKI HKR
    clear hb hbl hAL hES hKI hR hI HIB hn hbig
    go_enter Tryd.func5, Tryd.ntmps5
    go_wp2_with (first
      | (go_at_call 7; refine (HAL.out _ HB0.out).mono ?_; rintro r1 w1 ⟨rfl, hb1⟩; have B1 := hid hb1; clear hb1)
      | (go_at_call 22; refine (HES.out w1 B1.out).mono ?_; rintro r2 w2 ⟨rfl, hb2⟩; have B2 := hid (B1.out.trans (hb2.mono B1.out.size)); clear hb2)
      | (refine Great.wpList_allocTo rfl _ rfl _ _ (HAE.out _ _ _ rfl) ?_)
      | (refine wpList_store_row rfl _ (.tmp 3) (.tmp 11) rfl w2.heap.size (ubs (eRow 33)).toArray rfl rfl 54 (ubs n1056).toArray (heap_alloc_new _ _) HSZ.out HER.out (ubs_all _) ?_; have B3 := hid (B2.out.trans ((e33_below w2 (eRow 33)).mono B2.out.size)); have P3 := hid (e33_stored w2 (eRow 33)); generalize ((w2.alloc (.cells (ubs n1056).toArray 54)).setRow w2.heap.size (ubs (eRow 33)).toArray) = w3 at B3 P3 ⊢; generalize w2.heap.size = P at P3 ⊢)
      | (go_at_call 19; refine (HRE.out w3 B3.out).mono ?_; rintro r4 w4 ⟨g, c3, rfl, he4, hb4⟩; have H4 := hid (show NqW w A b P w3.heap.size g c3 w4 from ⟨HBB.out w4 (B3.out.trans (hb4.mono B3.out.size)), P3.out.new_ hb4, he4, B3.out.trans (hb4.mono B3.out.size)⟩); generalize w3.heap.size = B at H4; clear hb4 he4))
    clear B1 B2 B3 P3
    go_loopw [5, 13] (fun v5 v13 wr => ∃ j : Nat, j ≤ 33 ∧ v13 = .int .i64 (j : Int) ∧ NqW w A b P B g c3 wr) (fun _ v13 _ => 33 - (intOf v13).toNat)
    case atStart => exact ⟨0, by omega, rfl, H4.out⟩
    case round =>
      clear H4
      obtain ⟨j, hj, rfl, hW⟩ := hrel
      have HW := hid hW
      clear hW
      by_cases hlt : j < 33
      · have c1 : decide ((j : Int) < 33) = true := by simp; omega
        have HJ := hid (show (j : Int) < 33 by omega)
        have RG := hid (fun (W : World) (h : Hw W B (.slice (some ⟨g, 0, none⟩) 33 c3) 33 (eRow 33)) => h.range hlt)
        have RP := hid (fun (W : World) (h : At W P (ubs (eRow 33)).toArray 54) => e33_range h hlt)
        have EL := hid (HEL.out j)
        generalize emptyL j = ej at RG RP EL
        have wj : IntKind.i64.wrap ((j : Int) + 1) = ((j + 1 : Nat) : Int) := by simp [IntKind.wrap, IntKind.signed, IntKind.bits]; omega
        go_wp2
        try simp only [Act.put, List.setIfInBounds_toArray, List.set_cons_succ, List.set_cons_zero]
        refine wp_region_facts 8 8 [16, 17, 18, 19, 20, 21, 22, 23] (fun k v _ => v = nq10 P g c3 j ej k) (NqW w A b P B g c3) (by kernel_rfl) (by kernel_rfl)
          (fun W W' h hb => h.new hb) (fun _ _ _ _ h _ => h) (HW.out.drew) ?_ ?_
        · intro i hi vals W K hB hn hK
          simp only [frm_cons, frm_nil, List.set_cons_succ, List.set_cons_zero, Nat.reduceAdd] at hK ⊢
          rcases (by omega : i = 0 ∨ i = 1 ∨ i = 2 ∨ i = 3 ∨ i = 4 ∨ i = 5 ∨ i = 6 ∨ i = 7) with rfl | rfl | rfl | rfl | rfl | rfl | rfl | rfl
          · refine wpOp_plain rfl rfl (wp_val (w' := W) (v := .int .i64 (j : Int)) (by go_simp) ?_)
            exact hK _ _ rfl (Below.refl _ _)
          · have h0 := hn 0 (by decide +kernel)
            simp only [nq10] at h0
            simp only [h0] at hK ⊢
            have hj3 := HJ.out
            refine wpOp_plain rfl rfl (wp_val (w' := W) (v := .pointer (some ⟨P, 32 * j, none⟩)) (by go_simp) ?_)
            exact hK _ _ rfl (Below.refl _ _)
          · have h1 := hn 1 (by decide +kernel)
            simp only [nq10] at h1
            simp only [h1] at hK ⊢
            refine wpOp_plain rfl rfl (wp_val (run_loadH (.tmp 17) rfl P (32 * j) rfl ej (RP.out W hB.p) EL.out) ?_)
            exact hK _ _ rfl (Below.refl _ _)
          · refine wpOp_plain rfl rfl (wp_val (w' := W) (v := .slice (some ⟨g, 0, none⟩) 33 c3) (by go_simp) ?_)
            exact hK _ _ rfl (Below.refl _ _)
          · refine wpOp_plain rfl rfl (wp_val (w' := W) (v := .int .i64 (j : Int)) (by go_simp) ?_)
            exact hK _ _ rfl (Below.refl _ _)
          · have h3 := hn 3 (by decide +kernel)
            have h4 := hn 4 (by decide +kernel)
            simp only [nq10] at h3 h4
            simp only [h3, h4] at hK ⊢
            have hj3 := HJ.out
            refine wpOp_plain rfl rfl (wp_val (w' := W) (v := .pointer (some ⟨g, 32 * j, none⟩)) (by go_simp) ?_)
            exact hK _ _ rfl (Below.refl _ _)
          · have h5 := hn 5 (by decide +kernel)
            simp only [nq10] at h5
            simp only [h5] at hK ⊢
            refine wpOp_plain rfl rfl (wp_val (run_loadH (.tmp 21) rfl g (32 * j) rfl ej (RG.out W hB.e) EL.out) ?_)
            exact hK _ _ rfl (Below.refl _ _)
          · have h2 := hn 2 (by decide +kernel)
            have h6 := hn 6 (by decide +kernel)
            simp only [nq10] at h2 h6
            simp only [h2, h6] at hK ⊢
            refine wpOp_plain rfl rfl (wp_val (run_neqH _ (.tmp 18) (.tmp 22) rfl ej ej EL.out EL.out rfl rfl false (by simp) W) ?_)
            exact hK _ _ rfl (Below.refl _ _)
        · intro vals W hB hF
          have h7 := hF 7 (by omega)
          simp only [nq10] at h7
          simp only [frm_cons, frm_nil, List.set_cons_succ, List.set_cons_zero, Nat.reduceAdd, h7]
          refine wpUpto_done (by decide +kernel) ?_ _
          have H5 := hid hB
          clear hB hF h7
          go_simp
          go_wp2
          exact ⟨⟨j + 1, by omega, by go_num, H5.out⟩, by simp [intOf]; omega⟩
      · obtain rfl : j = 33 := by omega
        have c1 : decide (((33 : Nat) : Int) < 33) = false := by decide
        go_wp2
        try simp only [Act.put, List.setIfInBounds_toArray, List.set_cons_succ, List.set_cons_zero]
        refine wp_region_facts 13 13 [25, 26, 27, 28, 29, 30, 31, 32, 33, 34, 35, 36, 2] (nqF A n c P kn (emptyL 0)) (NqW w A b P B g c3) (by kernel_rfl) (by kernel_rfl)
          (fun W W' h hb => h.new hb) (fun _ _ _ _ h hb => nqF_new h hb) (HW.out.drew) ?_ ?_
        · intro i hi vals W K hB hn hK
          simp only [frm_cons, frm_nil, List.set_cons_succ, List.set_cons_zero, Nat.reduceAdd] at hK ⊢
          rcases (by omega : i = 0 ∨ i = 1 ∨ i = 2 ∨ i = 3 ∨ i = 4 ∨ i = 5 ∨ i = 6 ∨ i = 7 ∨ i = 8 ∨ i = 9 ∨ i = 10 ∨ i = 11 ∨ i = 12) with rfl | rfl | rfl | rfl | rfl | rfl | rfl | rfl | rfl | rfl | rfl | rfl | rfl
          · refine wpOp_plain rfl rfl (wp_val (w' := W) (v := .slice A n c) (by go_simp) ?_)
            exact hK _ _ rfl (Below.refl _ _)
          · have h0 := hn 0 (by decide +kernel)
            simp only [nqF] at h0
            simp only [h0] at hK ⊢
            refine wpOp_plain rfl rfl ?_
            go_simp
            go_at_call 15
            refine (HKI.out W hB.below hB.b).mono ?_
            rintro e W' ⟨rfl, hb⟩
            exact hK _ _ rfl hb
          · refine wpOp_plain rfl rfl (wp_val (w' := W) (v := .slice A n c) (by go_simp) ?_)
            exact hK _ _ rfl (Below.refl _ _)
          · have h2 := hn 2 (by decide +kernel)
            simp only [nqF] at h2
            simp only [h2] at hK ⊢
            refine wpOp_plain rfl rfl ?_
            go_simp
            go_at_call 23
            refine (HKR.out W hB.b).mono ?_
            rintro e W' ⟨rfl, rfl⟩
            exact hK _ _ rfl (Below.refl _ _)
          · have h1 := hn 1 (by decide +kernel)
            have h3 := hn 3 (by decide +kernel)
            simp only [nqF] at h1 h3
            simp only [h1, h3] at hK ⊢
            refine wpOp_plain rfl rfl (wp_val (w' := W) (v := .bool true) (by go_simp) ?_)
            exact hK _ _ rfl (Below.refl _ _)
          · have h4 := hn 4 (by decide +kernel)
            simp only [nqF] at h4
            simp only [h4] at hK ⊢
            refine wpOp_plain rfl rfl (wp_val (w' := W) (v := .bool true) (by go_simp) ?_)
            exact hK _ _ rfl (Below.refl _ _)
          · have h5 := hn 5 (by decide +kernel)
            simp only [nqF] at h5
            simp only [h5] at hK ⊢
            refine wpOp_on rfl (by rfl) ?_
            go_simp
            exact hK _ _ ⟨_, rfl, At.new _ _ _⟩ ((Below.refl _ _).alloc (Nat.le_refl _) _)
          · have h5 := hn 5 (by decide +kernel)
            have h6 := hn 6 (by decide +kernel)
            simp only [nqF] at h5
            obtain ⟨q6, e6, A6⟩ := h6
            simp only [h5, e6] at hK ⊢
            refine wpOp_on rfl (by rfl) ?_
            go_simp
            go_at_call 24
            refine (HSU.out W q6 hB.below A6).mono ?_
            rintro e W' ⟨rfl, hb⟩
            exact hK _ _ rfl hb
          · have h5 := hn 5 (by decide +kernel)
            simp only [nqF] at h5
            simp only [h5] at hK ⊢
            refine wpOp_on rfl (by rfl) (wp_val (w' := W) (v := .pointer (some ⟨P, 0, none⟩)) (by go_simp) ?_)
            exact hK _ _ rfl (Below.refl _ _)
          · have h5 := hn 5 (by decide +kernel)
            have h8 := hn 8 (by decide +kernel)
            simp only [nqF] at h5 h8
            simp only [h5, h8] at hK ⊢
            refine wpOp_on rfl (by rfl) (wp_val (run_loadH (.tmp 33) rfl P 0 rfl (emptyL 0) (HR0.out W P hB.p) HE0.out) ?_)
            exact hK _ _ rfl (Below.refl _ _)
          · have h5 := hn 5 (by decide +kernel)
            have h7 := hn 7 (by decide +kernel)
            have h9 := hn 9 (by decide +kernel)
            simp only [nqF] at h5 h7 h9
            simp only [h5, h7, h9] at hK ⊢
            refine wpOp_on rfl (by rfl) (wp_val (run_eqlH _ (.tmp 32) (.tmp 34) rfl (emptyL 0) (emptyL 0) HE0.out HE0.out rfl rfl true (by simp) W) ?_)
            exact hK _ _ rfl (Below.refl _ _)
          · have h5 := hn 5 (by decide +kernel)
            have h10 := hn 10 (by decide +kernel)
            simp only [nqF] at h5 h10
            simp only [h5, h10] at hK ⊢
            refine wpOp_plain rfl rfl (wp_val (w' := W) (v := .bool true) (by go_simp) ?_)
            exact hK _ _ rfl (Below.refl _ _)
          · have h11 := hn 11 (by decide +kernel)
            simp only [nqF] at h11
            simp only [h11] at hK ⊢
            refine wpOp_plain rfl rfl (wp_val (w' := W) (v := .bool true) (by go_simp) ?_)
            exact hK _ _ rfl (Below.refl _ _)
        · intro vals W hB hF
          have h12 := hF 12 (by omega)
          simp only [nqF] at h12
          simp only [frm_cons, frm_nil, List.set_cons_succ, List.set_cons_zero, Nat.reduceAdd, h12]
          refine wpUpto_done (by decide +kernel) ?_ _
          have HE := hid hB.below
          clear hB hF h12
          go_simp
          go_wp2
          go_ret
          exact ⟨rfl, HE.out⟩
end Go.Proofs.YthbppiobadcbkaaDoor
