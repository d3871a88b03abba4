/-
  The document's own reader: hashes.
-/
import Derived.Test.YtmgdngpdgjdicaaQf
import Derived.Test.YtmgdngpdgjdicaaR4
import Derived.Test.YtmgdngpdgjdicaaReg
import Derived.Deep.Cut
namespace Go.Proofs.Ytmgdngpdgjdicaa
open Go.RowKit

set_option maxHeartbeats 1000000 in
theorem qhash_of (B k k' : Nat) (ms xs ms' h : List UInt8) (A : Option Addr) (c : Nat) (hx : (xs = [] ∧ h = z32) ∨ (xs.length = 32 ∧ h = xs)) (w : World) (hB : B ≤ w.heap.size)
    (ht : ∀ W, Below w.heap.size w W → Calls Try.prog 28 #[wv A ms.length c k, .int .i64 32] W fun e w' => ∃ x, e = .returned x ∧ QOut B k' xs ms' W x w') :
    Calls Try.prog 30 #[wv A ms.length c k] w fun e w' => ∃ x, e = .returned x ∧ QV B k' (hv h) ms' w x w' := by
  have hsp : splice (ubs z32) 0 ((ubs xs).take 32) = ubs h := by
    rcases hx with ⟨rfl, rfl⟩ | ⟨hl, rfl⟩
    · rw [ubs_nil, List.take_nil, splice_nil]
    · rw [List.take_of_length_le (by rw [ubs_length, hl]; exact Nat.le_refl _), splice_full _ hl]
  have hhl : h.length = 32 := by
    rcases hx with ⟨rfl, rfl⟩ | ⟨hl, rfl⟩
    · exact z32_length
    · exact hl
  have hxl : xs.length ≤ 32 := by
    rcases hx with ⟨rfl, rfl⟩ | ⟨hl, rfl⟩
    · simp
    · omega
  obtain ⟨W0, hW0⟩ : ∃ W0, W0 = ((w.alloc (.cells #[.slice A ms.length c, .int .i64 k] 57)).alloc (.cells (ubs z32).toArray 44)).alloc (.cells #[.slice none 0 0, .int .i64 0] 57) := ⟨_, rfl⟩
  have hb0 : Below w.heap.size w W0 := by rw [hW0]; exact (((Below.refl _ _).alloc (Nat.le_refl _) _).alloc (by simp) _).alloc (by simp; omega) _
  have ha0 : At W0 w.heap.size #[.slice A ms.length c, .int .i64 k] 57 := by rw [hW0]; exact ((At.new _ _ _).alloc _).alloc _
  have hq0 : At W0 (w.heap.size + 1) (ubs z32).toArray 44 := by
    rw [hW0]
    exact At.alloc (heap_alloc2_new _ _ _) _
  have hr0 : At W0 (w.heap.size + 2) #[.slice none 0 0, .int .i64 0] 57 := by
    rw [hW0]
    have := At.new ((w.alloc (.cells #[.slice A ms.length c, .int .i64 k] 57)).alloc (.cells (ubs z32).toArray 44)) #[.slice none 0 0, .int .i64 0] 57
    simpa using this
  have hs0 : W0.heap.size = w.heap.size + 3 := by rw [hW0]; simp
  have HT := hid (ht W0 hb0)
  unfold wv at HT ⊢
  have HB0 := hid hb0
  have HA0 := hid ha0
  have HR0 := hid hr0
  have HQ0 := hid hq0
  have HSP := hid hsp
  have HHL := hid hhl
  have HS0 := hid hs0
  clear ht hb0 ha0 hr0 hq0 hsp hhl hs0
  subst hW0
  have hz := hashZ
  go_enter Try.func30, Try.ntmps30
  go_upto_region 3 with (go_at_call 28; refine HT.out.mono ?_; rintro e w1 ⟨x, rfl, A1, c1, A2, c2, rfl, h1⟩; unfold wv; have a1 := HA0.out.new_ h1.2.2.2; have d0 := a1.cell 0; have d1 := a1.cell 1; have f0 := a1.frozen 0; have f1 := a1.frozen 1; simp at d0 d1; replace h1 := hid h1; replace a1 := hid a1)
  obtain ⟨Wc, hWc⟩ : ∃ Wc, Wc = ((w1.setCell ⟨w.heap.size, 0, none⟩ (.slice A2 ms'.length c2)).setCell ⟨w.heap.size, 1, none⟩ (.int .i64 k')).alloc (.cells (ubs z32).toArray 44) := ⟨_, rfl⟩
  have hsz1 : w.heap.size + 3 ≤ w1.heap.size := by have := h1.out.2.2.2.size; have := HS0.out; omega
  have hfc : Fr (fun k => k = w.heap.size) w1 Wc := by rw [hWc]; exact (((Fr.refl (fun k => k = w.heap.size) w1).setCell (p := ⟨w.heap.size, 0, none⟩) (.inr rfl) _).setCell (p := ⟨w.heap.size, 1, none⟩) (.inr rfl) _).alloc _
  have hac : At Wc w.heap.size #[.slice A2 ms'.length c2, .int .i64 k'] 57 := by rw [hWc]; exact ((a1.out.put 0 (.slice A2 ms'.length c2)).put 1 (.int .i64 k')).alloc _
  have hnc : At Wc w1.heap.size (ubs z32).toArray 44 := by
    rw [hWc]
    have := At.new ((w1.setCell ⟨w.heap.size, 0, none⟩ (.slice A2 ms'.length c2)).setCell ⟨w.heap.size, 1, none⟩ (.int .i64 k')) (ubs z32).toArray 44
    simpa using this
  have hqc := (HQ0.out.new_ h1.out.2.2.2).fr hfc (by omega)
  have hrc := (HR0.out.new_ h1.out.2.2.2).fr hfc (by omega)
  have hxc := h1.out.1.frB hfc (fun k hk he => by omega)
  have hmc := h1.out.2.1.frB hfc (fun k hk he => by omega)
  have HFC := hid hfc
  have HAC := hid hac
  have HNC := hid hnc
  have HQC := hid hqc
  have HRC := hid hrc
  have HXC := hid hxc
  have HMC := hid hmc
  have HS1 := hid hsz1
  clear d0 d1 f0 f1 hfc hac hnc hqc hrc hxc hmc hsz1 a1
  rw [← hWc]
  clear hWc
  go_wp2_with (refine wpList_copy_rd rfl (.tmp 11) (.tmp 12) _ _ rfl 5 Try.underlying30 sizeB w1.heap.size 0 32 32 B A1 xs.length c1 rfl rfl (ubs z32) 44 HNC.out (ubs xs) HXC.out (ubs_length _) (by rw [ubs_length, z32_length]; omega) (ubs_one _) ?_; intro w2 hg2 hb2; rw [HSP.out] at hg2; replace hb2 := hid hb2; replace hg2 := hid hg2)
  have hac2 := HAC.out.fr hb2.out (by have := HS1.out; omega)
  have hqc2 := HQC.out.fr hb2.out (by have := HS1.out; omega)
  have hrc2 := HRC.out.fr hb2.out (by have := HS1.out; omega)
  have d0 := hac2.cell 0
  have d1 := hac2.cell 1
  have e0 := hrc2.cell 0
  have e1 := hrc2.cell 1
  have g0 := hrc2.frozen 0
  have g1 := hrc2.frozen 1
  simp at d0 d1 e0 e1
  replace hac2 := hid hac2
  replace hqc2 := hid hqc2
  replace hrc2 := hid hrc2
  have hne1 : w1.heap.size ≠ w.heap.size + 1 := by have := HS1.out; omega
  have SH := hid (by simpa [ubs_length, HHL.out] using sizeH : (Try.prog.info? 44).map (·.size) = some (ubs h).toArray.size)
  have hS : Hid ((fun W : World => W.cell? ⟨w.heap.size, 0, none⟩ = some (.slice A2 ms'.length c2) ∧ W.cell? ⟨w.heap.size, 1, none⟩ = some (.int .i64 k') ∧ At W w1.heap.size (ubs h).toArray 44) w2.drew) := hid ⟨hac2.out.cell 0, hac2.out.cell 1, hg2.out⟩
  refine wp_region_upto (fun W : World => W.cell? ⟨w.heap.size, 0, none⟩ = some (.slice A2 ms'.length c2) ∧ W.cell? ⟨w.heap.size, 1, none⟩ = some (.int .i64 k') ∧ At W w1.heap.size (ubs h).toArray 44) 3 4 (by kernel_rfl) (by kernel_rfl) ?_
  simp only [Act.put, List.setIfInBounds_toArray]
  refine wpUpto_take (i := 0) (v := .agg (ubs h).toArray) rfl (by kernel_rfl) (by kernel_rfl) (by kernel_rfl) (by kernel_rfl) (by decide) (fun _ _ _ h => h) (Or.inl ⟨by rfl, ?_⟩) hS.out ?_
  · (intro W hSW; refine run_load_row 44 (.tmp 5) ?_ w1.heap.size ?_ 44 (ubs h).toArray _ hSW.2.2 Try.underlying44 rfl SH.out <;> rfl)
  refine wpUpto_take (i := 1) (v := .agg #[.slice A2 ms'.length c2, .int .i64 k']) rfl (by kernel_rfl) (by kernel_rfl) (by kernel_rfl) (by kernel_rfl) (by decide) (fun _ _ _ h => h) (Or.inl ⟨by rfl, ?_⟩) hS.out ?_
  · (intro W hSW; obtain ⟨s0, s1, s2⟩ := hSW; clear s2; go_simp)
  simp only [Act.put, List.setIfInBounds_toArray]
  refine wpUpto_one (i := 2) rfl (by kernel_rfl) rfl ?_
  intro K hK
  refine wp_store_row _ (.tmp 2) (.tmp 14) rfl (w.heap.size + 1) (ubs h).toArray rfl rfl 44 (ubs z32).toArray hqc2.out SH.out (by simp [ubs_length, z32_length, HHL.out]) (ubs_all _) ?_
  have hq3 : At (w2.drew.setRow (w.heap.size + 1) (ubs h).toArray) (w.heap.size + 1) (ubs h).toArray 44 := setRow_heap _ _ _ _ _ _ hqc2.out
  have ha3 : At (w2.drew.setRow (w.heap.size + 1) (ubs h).toArray) w.heap.size #[.slice A2 ms'.length c2, .int .i64 k'] 57 := (setRow_other _ _ _ _ (by omega)).trans hac2.out
  have hr3 : At (w2.drew.setRow (w.heap.size + 1) (ubs h).toArray) (w.heap.size + 2) #[.slice none 0 0, .int .i64 0] 57 := (setRow_other _ _ _ _ (by omega)).trans hrc2.out
  have hn3 : At (w2.drew.setRow (w.heap.size + 1) (ubs h).toArray) w1.heap.size (ubs h).toArray 44 := (setRow_other _ _ _ _ hne1).trans hg2.out
  have hf3 : Fr (fun k => w.heap.size ≤ k) w1 (w2.drew.setRow (w.heap.size + 1) (ubs h).toArray) := by
    refine Fr.setRow ?_ (g := w.heap.size + 1) (.inr (Nat.le_succ _)) _
    exact ((HFC.out.mono (fun k _ hk => by subst hk; exact Nat.le_refl _)).trans (hb2.out.mono (fun k _ hk => by subst hk; have := HS1.out; omega))).drew
  generalize w2.drew.setRow (w.heap.size + 1) (ubs h).toArray = W3 at hq3 ha3 hr3 hn3 hf3 ⊢
  have HQ3 := hid hq3
  have HR3 := hid hr3
  have HF3 := hid hf3
  clear e0 e1 g0 g1 d0 d1
  have e0 := hr3.cell 0
  have e1 := hr3.cell 1
  have g0 := hr3.frozen 0
  have g1 := hr3.frozen 1
  simp at e0 e1
  refine hK.out _ _ (fun _ => ⟨ha3.cell 0, ha3.cell 1, hn3⟩) ?_
  clear hK K hq3 hr3 hf3 ha3 hn3
  simp only [Act.put]
  refine wpUpto_one (i := 3) rfl (by kernel_rfl) rfl ?_
  intro K hK
  go_simp
  refine hK.out _ _ (fun h => absurd rfl h) ?_
  clear hK K
  refine wpUpto_done (by kernel_rfl) ?_ _
  go_wp2
  have hAt : At ((W3.setCell ⟨w.heap.size + 1 + 1, 0, none⟩ (.slice A2 ms'.length c2)).setCell ⟨w.heap.size + 1 + 1, 1, none⟩ (.int .i64 k')) (w.heap.size + 1 + 1) #[.slice A2 ms'.length c2, .int .i64 k'] 57 := (HR3.out.put 0 (.slice A2 ms'.length c2)).put 1 (.int .i64 k')
  have hQt : At ((W3.setCell ⟨w.heap.size + 1 + 1, 0, none⟩ (.slice A2 ms'.length c2)).setCell ⟨w.heap.size + 1 + 1, 1, none⟩ (.int .i64 k')) (w.heap.size + 1) (ubs h).toArray 44 := (HQ3.out.far (p := ⟨w.heap.size + 1 + 1, 0, none⟩) (by simp) _).far (p := ⟨w.heap.size + 1 + 1, 1, none⟩) (by simp) _
  have f4 := (HF3.out.setCell (p := ⟨w.heap.size + 1 + 1, 0, none⟩) (.inr (by show w.heap.size ≤ w.heap.size + 1 + 1; omega)) (.slice A2 ms'.length c2)).setCell (p := ⟨w.heap.size + 1 + 1, 1, none⟩) (.inr (by show w.heap.size ≤ w.heap.size + 1 + 1; omega)) (.int .i64 k')
  have f1 : Fr (fun k => w.heap.size ≤ k) w w1 := (Fr.of_new HB0.out).trans (Fr.of_new h1.out.2.2.2)
  refine bodyPost_ret (results_row_row rfl _ _ (w.heap.size + 1) (w.heap.size + 1 + 1) 44 57 (ubs h).toArray #[.slice A2 ms'.length c2, .int .i64 k'] (0, 0) (0, 0) _ _ rfl hQt Try.underlying44 rfl SH.out rfl hAt Try.underlying57 rfl sizeR) rfl ?_
  exact ⟨_, rfl, A2, c2, rfl, h1.out.2.1.frB f4 (fun k hk he => by have : w.heap.size ≤ k := he; omega), h1.out.2.2.1, (f1.trans f4).below (fun _ h => h) (Nat.le_refl _)⟩
end Go.Proofs.Ytmgdngpdgjdicaa
