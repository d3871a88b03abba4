/-
  The program's layer 7: Put.
-/
import Derived.Test.YtfmbpdjcoopaeaaDoorV4
import Derived.Test.YtfmbpdjcoopaeaaDoorY1
namespace Go.Proofs.YtfmbpdjcoopaeaaDoor
open Go.RowKit

def putL7 (e : Nat) (d t : List UInt8) : List UInt8 := toBE 8 e ++ d ++ t
theorem putL7_length (e : Nat) (d t : List UInt8) (hd : d.length = 32) (ht : t.length = 16) : (putL7 e d t).length = 56 := by simp [putL7, toBE_length, hd, ht]
/-- A row that is owned, as a block. -/
theorem ow_row {W : World} {base n c : Nat} {A : Option Addr} {bs : List UInt8} (h : Ow W base (.slice A (n + 1) c) bs) (hl : bs.length = n + 1) : ∃ g cur, A = some ⟨g, 0, none⟩ ∧ base ≤ g ∧ At W g cur 5 ∧ cur.toList.take (n + 1) = ubs bs := by
  rcases h.2 with ⟨h1, h2⟩ | ⟨g, cap, cur, h1, hg, hh, _, _, h5, h6⟩
  · obtain ⟨-, e2, -⟩ := Value.slice.inj h1
    omega
  · obtain ⟨e1, -, -⟩ := Value.slice.inj h1
    exact ⟨g, cur, e1, hg, hh, by simpa [hl] using h6⟩
/-- Only new memory has turned since. -/
def WB (w W : World) : Prop := True ∧ Below w.heap.size w W
set_option maxRecDepth 100000 in
set_option maxHeartbeats 2000000 in
theorem pput_any (d t : List UInt8) (e : Nat) (w : World) (hd : d.length = 32) (ht : t.length = 16) (he : e < 18446744073709551616) :
    Calls Tryd.prog 29 #[.agg (sv e d t).toArray] w fun r w' => ∃ g c cur, r = .returned (.slice (some ⟨g, 0, none⟩) 56 c) ∧ w.heap.size ≤ g ∧ At w' g cur 5 ∧ cur.toList.take 56 = ubs (putL7 e d t) ∧ Below w.heap.size w w' := by
  obtain ⟨w0, hw0⟩ : ∃ w0, w0 = w.alloc (.cells (sv e d t).toArray 37) := ⟨_, rfl⟩
  have hx0 : At w0 w.heap.size (sv e d t).toArray 37 := by rw [hw0]; exact At.new _ _ _
  have hb0 : Below w.heap.size w w0 := by rw [hw0]; exact (Below.refl _ _).alloc (Nat.le_refl _) _
  have hz0 : w0.heap.size = w.heap.size + 1 := by rw [hw0]; simp
  have HX := hid (fun (W : World) (h : Below w0.heap.size w0 W) => hx0.new_ h)
  have HB0 := hid hb0
  have E0 := hid (fun (W : World) (h : At W w.heap.size (sv e d t).toArray 37) => sv_epoch h)
  have H8 := hid (fun (W : World) (h : WN w0 [] W) => show Calls Tryd.prog 87 #[.pointer (some ⟨w0.heap.size, 0, none⟩), .int .u64 (e : Int), .int .i64 8] W (fun e' w' => e' = .returned (.pointer (some ⟨w0.heap.size, 0, none⟩)) ∧ WN w0 (toBE 8 e) w') from by
    have := wn_num h e 8 (by unfold Sz; omega) (by omega) (by simp)
    rw [List.nil_append] at this
    exact this)
  have HD := hid (fun (W : World) (h : WN w0 (toBE 8 e) W) => show Calls Tryd.prog 88 #[.pointer (some ⟨w0.heap.size, 0, none⟩), .slice (some ⟨w.heap.size, 1, none⟩) 32 32] W (fun e' w' => e' = .returned (.pointer (some ⟨w0.heap.size, 0, none⟩)) ∧ WN w0 (toBE 8 e ++ d) w') from by
    have := wn_raw 32 h (sv_rb_data (hx0.new_ h.2)) (by rw [toBE_length]; omega)
    rw [hd] at this
    exact this)
  have HT := hid (fun (W : World) (h : WN w0 (toBE 8 e ++ d) W) => show Calls Tryd.prog 88 #[.pointer (some ⟨w0.heap.size, 0, none⟩), .slice (some ⟨w.heap.size, 33, none⟩) 16 16] W (fun e' w' => e' = .returned (.pointer (some ⟨w0.heap.size, 0, none⟩)) ∧ WN w0 (putL7 e d t) w') from by
    have := wn_raw 16 h (sv_rb_tag (hx0.new_ h.2) hd) (by rw [List.length_append, toBE_length]; omega)
    rw [ht] at this
    exact this)
  have HDN := hid (fun (W : World) (h : WN w0 (putL7 e d t) W) => by
    have := wn_done h (by rw [putL7_length e d t hd ht]; omega)
    rw [putL7_length e d t hd ht] at this
    exact this)
  have HBG := hid (WN.begin w0)
  have HPL := hid (putL7_length e d t hd ht)
  generalize putL7 e d t = pl at HT HDN HPL ⊢
  have HZ0 := hid hz0
  generalize sv e d t = x at hw0 HX E0 ⊢
  clear hx0 hb0 hz0 hd ht he
  go_enter Tryd.func29, Tryd.ntmps29
  go_upto_region 1 with (fail)
  rw [← hw0]
  clear hw0
  try simp only [Act.put, List.setIfInBounds_toArray, List.set_cons_succ, List.set_cons_zero]
  refine wp_region_upto (fun W => At W w.heap.size x.toArray 37) 16 16 (by kernel_rfl) (by kernel_rfl) ?_
  have AT := hid (show WB w0 w0.drew from ⟨trivial, (Below.refl _ _).drew⟩)
  refine wpUpto_takeL (i := 1) (v := .pointer (some ⟨w.heap.size, 0, none⟩)) rfl rfl (by decide +kernel) (by decide +kernel) (by decide +kernel) (by decide +kernel) (by decide) (fun _ _ _ h => h) (Or.inl ⟨by rfl, ?_⟩) (HX.out _ AT.out.2) ?_
  · (intro W hSW; go_simp)
  simp only [List.set_cons_succ, List.set_cons_zero]
  refine wpUpto_takeL (i := 4) (v := .pointer (some ⟨w.heap.size, 1, none⟩)) rfl rfl (by decide +kernel) (by decide +kernel) (by decide +kernel) (by decide +kernel) (by decide) (fun _ _ _ h => h) (Or.inl ⟨by rfl, ?_⟩) (HX.out _ AT.out.2) ?_
  · (intro W hSW; go_simp)
  simp only [List.set_cons_succ, List.set_cons_zero]
  refine wpUpto_takeL (i := 5) (v := .slice (some ⟨w.heap.size, 1, none⟩) 32 32) rfl rfl (by decide +kernel) (by decide +kernel) (by decide +kernel) (by decide +kernel) (by decide) (fun _ _ _ h => h) (Or.inl ⟨by rfl, ?_⟩) (HX.out _ AT.out.2) ?_
  · (intro W hSW; go_simp)
  simp only [List.set_cons_succ, List.set_cons_zero]
  refine wpUpto_takeL (i := 7) (v := .pointer (some ⟨w.heap.size, 33, none⟩)) rfl rfl (by decide +kernel) (by decide +kernel) (by decide +kernel) (by decide +kernel) (by decide) (fun _ _ _ h => h) (Or.inl ⟨by rfl, ?_⟩) (HX.out _ AT.out.2) ?_
  · (intro W hSW; go_simp)
  simp only [List.set_cons_succ, List.set_cons_zero]
  refine wpUpto_takeL (i := 8) (v := .slice (some ⟨w.heap.size, 33, none⟩) 16 16) rfl rfl (by decide +kernel) (by decide +kernel) (by decide +kernel) (by decide +kernel) (by decide) (fun _ _ _ h => h) (Or.inl ⟨by rfl, ?_⟩) (HX.out _ AT.out.2) ?_
  · (intro W hSW; go_simp)
  simp only [List.set_cons_succ, List.set_cons_zero]
  refine wpUpto_takeL (i := 2) (v := .int .u64 (e : Int)) rfl rfl (by decide +kernel) (by decide +kernel) (by decide +kernel) (by decide +kernel) (by decide) (fun _ _ _ h => h) (Or.inl ⟨by rfl, ?_⟩) (HX.out _ AT.out.2) ?_
  · (intro W hSW; have q := E0.out W hSW; go_simp)
  simp only [List.set_cons_succ, List.set_cons_zero]
  refine wpUpto_one (i := 0) rfl (by decide +kernel) rfl ?_
  intro Q0 hQ0
  go_simp
  have W1 := hid (show WN w0 [] (w0.alloc (.cells #[.nilIface, .slice none 0 0] 154)).drew from HBG.out.drew)
  generalize (w0.alloc (.cells #[.nilIface, .slice none 0 0] 154)).drew = v1 at W1 ⊢
  refine hQ0.out _ _ (fun _ => HX.out _ W1.out.2) ?_
  clear hQ0 Q0 AT
  refine wpUpto_one (i := 3) rfl (by decide +kernel) rfl ?_
  intro Q0 hQ0
  go_simp
  go_at_call 87
  refine (H8.out v1 W1.out).mono ?_
  rintro e1 v2 ⟨rfl, h2⟩
  have W2 := hid h2
  clear h2
  refine hQ0.out _ _ (fun _ => HX.out _ W2.out.2) ?_
  clear hQ0 Q0
  refine wpUpto_one (i := 6) rfl (by decide +kernel) rfl ?_
  intro Q0 hQ0
  go_simp
  go_at_call 88
  refine (HD.out v2 W2.out).mono ?_
  rintro e1 v3 ⟨rfl, h3⟩
  have W3 := hid h3
  clear h3
  refine hQ0.out _ _ (fun _ => HX.out _ W3.out.2) ?_
  clear hQ0 Q0
  refine wpUpto_one (i := 9) rfl (by decide +kernel) rfl ?_
  intro Q0 hQ0
  go_simp
  go_at_call 88
  refine (HT.out v3 W3.out).mono ?_
  rintro e1 v4 ⟨rfl, h4⟩
  have W4 := hid h4
  clear h4
  refine hQ0.out _ _ (fun _ => HX.out _ W4.out.2) ?_
  clear hQ0 Q0
  refine wpUpto_one (i := 10) rfl (by decide +kernel) rfl ?_
  intro Q0 hQ0
  go_simp
  go_at_call 89
  refine (HDN.out v4 W4.out).mono ?_
  rintro e1 v5 ⟨A, c, rfl, h5⟩
  have AT := hid (show WB w0 v5 from ⟨trivial, h5.2.2⟩)
  have W5 := hid h5
  clear h5
  refine hQ0.out _ _ (fun _ => HX.out _ AT.out.2) ?_
  clear hQ0 Q0
  try simp only [Act.put, List.setIfInBounds_toArray, List.set_cons_succ, List.set_cons_zero]
  refine wpUpto_takeL (i := 11) (v := .tuple #[.slice A 56 c, .nilIface]) rfl rfl (by decide +kernel) (by decide +kernel) (by decide +kernel) (by decide +kernel) (by decide) (fun _ _ _ h => h) (Or.inl ⟨by rfl, ?_⟩) (HX.out _ AT.out.2) ?_
  · (intro W hSW; go_simp)
  simp only [List.set_cons_succ, List.set_cons_zero]
  refine wpUpto_takeL (i := 12) (v := .slice A 56 c) rfl rfl (by decide +kernel) (by decide +kernel) (by decide +kernel) (by decide +kernel) (by decide) (fun _ _ _ h => h) (Or.inl ⟨by rfl, ?_⟩) (HX.out _ AT.out.2) ?_
  · (intro W hSW; go_simp)
  simp only [List.set_cons_succ, List.set_cons_zero]
  refine wpUpto_takeL (i := 13) (v := .nilIface) rfl rfl (by decide +kernel) (by decide +kernel) (by decide +kernel) (by decide +kernel) (by decide) (fun _ _ _ h => h) (Or.inl ⟨by rfl, ?_⟩) (HX.out _ AT.out.2) ?_
  · (intro W hSW; go_simp)
  simp only [List.set_cons_succ, List.set_cons_zero]
  refine wpUpto_takeL (i := 14) (v := .slice A 56 c) rfl rfl (by decide +kernel) (by decide +kernel) (by decide +kernel) (by decide +kernel) (by decide) (fun _ _ _ h => h) (Or.inl ⟨by rfl, ?_⟩) (HX.out _ AT.out.2) ?_
  · (intro W hSW; go_simp)
  simp only [List.set_cons_succ, List.set_cons_zero]
  refine wpUpto_takeL (i := 15) (v := .nilIface) rfl rfl (by decide +kernel) (by decide +kernel) (by decide +kernel) (by decide +kernel) (by decide) (fun _ _ _ h => h) (Or.inl ⟨by rfl, ?_⟩) (HX.out _ AT.out.2) ?_
  · (intro W hSW; go_simp)
  simp only [List.set_cons_succ, List.set_cons_zero]
  refine wpUpto_done (by decide +kernel) ?_ _
  go_simp
  go_wp2
  go_ret
  obtain ⟨g, cur, rfl, hg, hA, hc⟩ := ow_row W5.out.1 HPL.out
  exact ⟨g, c, cur, rfl, Nat.le_trans HB0.out.size hg, hA, hc, HB0.out.trans (AT.out.2.mono HB0.out.size)⟩
end Go.Proofs.YtfmbpdjcoopaeaaDoor
