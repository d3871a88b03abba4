/-
  The program's Stream of layer 5.
-/
import Derived.Test.YtenlidbgllahhaaGi
namespace Go.Proofs.Ytenlidbgllahhaa
open Go.RowKit

theorem turn_zeros (keys c : List UInt8) (n : Nat) : turnL keys c (List.replicate n 0) = streamL keys c n := by
  have hl : (turnL keys c (List.replicate n 0)).length = (streamL keys c n).length := by rw [turnL_length, streamL_length, List.length_replicate]
  refine List.ext_getElem hl fun i h1 h2 => ?_
  rw [streamL_length] at h2
  have h3 : (List.replicate n (0 : UInt8)).getD i 0 = 0 := by simp [List.getD_eq_getElem?_getD, List.getElem?_replicate]; split <;> rfl
  simp only [turnL, trL, streamL_length, List.length_replicate, List.getElem_map, List.getElem_range, trF, h3]
  unfold xr
  rw [UInt8.xor_zero]
  simp [List.getD_eq_getElem?_getD, streamL_length, h2]
theorem pstream_out (p : Option Addr) (c : List UInt8) (n : Int) (w : World) (hn : n < 0 ∨ 65536 < n) :
    Calls Try.prog 22 #[.pointer p, .agg (ubs c).toArray, .int .i64 n] w fun e w' => e = .returned (.tuple #[.slice none 0 0, .iface 35 (.int .i64 1)]) ∧ Below w.heap.size w w' := by
  by_cases h0 : n < 0
  · have c0 : decide (n < 0) = true := by simp; omega
    clear hn
    go_enter Try.func22, Try.ntmps22
    go_wp2
    go_ret2
    exact ⟨rfl, (Below.refl _ _).alloc (Nat.le_refl _) _⟩
  · have c0 : decide (n < 0) = false := by simpa using h0
    have c1 : decide (65536 < n) = true := by simp; omega
    clear hn
    go_enter Try.func22, Try.ntmps22
    go_wp2
    go_ret2
    exact ⟨rfl, (Below.refl _ _).alloc (Nat.le_refl _) _⟩
set_option maxRecDepth 100000 in
set_option maxHeartbeats 1000000 in
theorem pstream_any (key c : List UInt8) (p : Option Addr) (n : Nat) (w : World) (hk : key.length = 16) (hc : c.length = 16) (hci : Cip w key p) (hn : n ≤ 65536) :
    Calls Try.prog 22 #[.pointer p, .agg (ubs c).toArray, .int .i64 (n : Int)] w fun e w' => ∃ g, e = .returned (.tuple #[.slice (some ⟨g, 0, none⟩) n n, .nilIface]) ∧ w.heap.size ≤ g ∧ At w' g (ubs (streamL (rks key 11) c n)).toArray 5 ∧ Below w.heap.size w w' := by
  have H0 := hid (show At ((w.alloc (.cells (ubs c).toArray 26)).drew) w.heap.size (ubs c).toArray 26 ∧ Below w.heap.size w ((w.alloc (.cells (ubs c).toArray 26)).drew) from ⟨(At.new _ _ _).drew, ((Below.refl _ _).alloc (Nat.le_refl _) _).drew⟩)
  have HT := hid (fun (W : World) (B : Option Addr) (hB : Below w.heap.size w W) (hr : Rb W W.heap.size B (List.replicate n 0)) => pturn_any key c (List.replicate n 0) p B n W hk hc (hci.below hB) hr (by rw [List.length_replicate]; omega))
  rw [List.length_replicate, turn_zeros] at HT
  have HCL := hid hc
  have hmk := run_makeB n (by omega)
  have c0 : decide ((n : Int) < 0) = false := by simp
  have c1 : decide (65536 < (n : Int)) = false := by simp; omega
  clear hk hc hci
  go_enter Try.func22, Try.ntmps22
  go_upto_region 3 with (fail)
  refine wp_region_upto (fun W => At W w.heap.size (ubs c).toArray 26 ∧ Below w.heap.size w W) 7 7 (by kernel_rfl) (by kernel_rfl) ?_
  generalize (w.alloc (.cells (ubs c).toArray 26)).drew = V0 at H0 ⊢
  refine wpUpto_takeL (i := 0) (v := .pointer p) rfl rfl (by decide +kernel) (by decide +kernel) (by decide +kernel) (by decide +kernel) (by decide) (fun _ _ _ h => h) (Or.inl ⟨by rfl, ?_⟩) H0.out ?_
  · (intro W hSW; go_simp)
  simp only [List.set_cons_succ, List.set_cons_zero]
  refine wpUpto_takeL (i := 1) (v := .agg (ubs c).toArray) rfl rfl (by decide +kernel) (by decide +kernel) (by decide +kernel) (by decide +kernel) (by decide) (fun _ _ _ h => h) (Or.inl ⟨by rfl, ?_⟩) H0.out ?_
  · (intro W hSW; exact run_load_part 26 (.tmp 4) rfl w.heap.size 0 rfl (ubs c) _ (range_at (a := []) (m := c) (z := []) hSW.1 (by simp)) Try.underlying26 rfl (by rw [size16, ubs_length, HCL.out]))
  simp only [List.set_cons_succ, List.set_cons_zero]
  refine wpUpto_takeL (i := 2) (v := .int .i64 (n : Int)) rfl rfl (by decide +kernel) (by decide +kernel) (by decide +kernel) (by decide +kernel) (by decide) (fun _ _ _ h => h) (Or.inl ⟨by rfl, ?_⟩) H0.out ?_
  · (intro W hSW; go_simp)
  simp only [List.set_cons_succ, List.set_cons_zero]
  refine wpUpto_one (i := 3) rfl (by decide +kernel) rfl ?_
  intro Q0 hQ0
  go_simp
  have H1 := hid (show At (V0.alloc (.cells (ubs (List.replicate n 0)).toArray 5)) w.heap.size (ubs c).toArray 26 ∧ Below w.heap.size w (V0.alloc (.cells (ubs (List.replicate n 0)).toArray 5)) from ⟨H0.out.1.alloc _, H0.out.2.alloc H0.out.2.size _⟩)
  have R1 := hid (At.new V0 (ubs (List.replicate n 0)).toArray 5)
  refine hQ0.out _ _ (fun _ => H1.out) ?_
  clear hQ0 Q0
  generalize (V0.alloc (.cells (ubs (List.replicate n 0)).toArray 5)) = V1 at H1 R1 ⊢
  refine wpUpto_one (i := 4) rfl (by decide +kernel) rfl ?_
  intro Q0 hQ0
  go_simp
  go_at_call 24
  refine (HT.out V1 _ H1.out.2 (rb_at R1.out)).mono ?_
  rintro e2 w2 ⟨g, rfl, hg, hA, hb2⟩
  have H2 := hid (show w.heap.size ≤ g ∧ At w2 g (ubs (streamL (rks key 11) c n)).toArray 5 ∧ Below w.heap.size w w2 from ⟨Nat.le_trans H1.out.2.size hg, hA, H1.out.2.trans (hb2.mono H1.out.2.size)⟩)
  have H3 := hid (show At w2 w.heap.size (ubs c).toArray 26 from H1.out.1.new_ hb2)
  clear hg hA hb2
  refine hQ0.out _ _ (fun _ => ⟨H3.out, H2.out.2.2⟩) ?_
  clear hQ0 Q0
  refine wpUpto_one (i := 5) rfl (by decide +kernel) rfl ?_
  intro Q0 hQ0
  go_simp
  refine hQ0.out _ _ (fun _ => ⟨H3.out, H2.out.2.2⟩) ?_
  clear hQ0 Q0
  refine wpUpto_one (i := 6) rfl (by decide +kernel) rfl ?_
  intro Q0 hQ0
  go_simp
  refine hQ0.out _ _ (fun _ => ⟨H3.out, H2.out.2.2⟩) ?_
  clear hQ0 Q0
  refine wpUpto_done (by decide +kernel) ?_ _
  go_simp
  go_wp2
  go_ret2
  exact ⟨g, rfl, H2.out⟩
end Go.Proofs.Ytenlidbgllahhaa
