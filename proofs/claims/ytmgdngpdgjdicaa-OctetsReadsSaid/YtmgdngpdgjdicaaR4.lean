/-
  The contract of the reader's method Hash.
-/
import Derived.Test.YtmgdngpdgjdicaaR3
namespace Go.Proofs.Ytmgdngpdgjdicaa
open Go.RowKit

theorem z32_length : z32.length = 32 := by simp [z32]
theorem splice_nil {α : Type} (l : List α) : splice l 0 [] = l := by simp [splice]
theorem splice_full (h : List UInt8) (hh : h.length = 32) : splice (ubs z32) 0 (ubs h) = ubs h := by
  simp only [splice, List.take_zero, List.nil_append, ubs_length, Nat.zero_add, ubs_drop, hh]
  have : z32.drop 32 = [] := List.drop_eq_nil_of_le (by simp [z32])
  rw [this]
  simp [ubs]

def RHashOut (base : Nat → Prop) (p k' : Nat) (h bs' : List UInt8) (w : World) (x : Value) (w' : World) : Prop :=
  x = hv h ∧ RS w' base p k' bs' ∧ Fr (Only p) w w'
set_option maxHeartbeats 1000000 in
theorem rhash_nil (w : World) :
    Calls Try.prog 31 #[.pointer none] w fun e w' => e = .returned (hv z32) ∧ Below w.heap.size w w' := by
  have hz := hashZ
  go_enter Try.func31, Try.ntmps31
  go_wp2
  go_region_law (first
    | (refine step_copy_rd rfl (.tmp 4) (.tmp 6) _ _ rfl 5 Try.underlying30 sizeB (w.heap.size + 1) 0 32 32 0 none 0 0 (by simp [Act.eval]) (by simp [Act.eval]) (ubs z32) 44 (heap_alloc2_new w _ _) (ubs []) (Rd.nil _ _ _) rfl (by simp [ubs, z32]) (ubs_one []) ?_; intro w1 hg1 hb1; replace hb1 := hid hb1; replace hg1 := hid hg1)
    | (go_simp; go_at_call 45; refine (take_nil _ _).mono ?_; rintro e w1 ⟨rfl, rfl⟩))
  have e0 : w1.heap[w.heap.size]? = some (.cells (ubs z32).toArray 44 (0, 0)) := (hb1.out.block w.heap.size (by simp; omega) (by omega)).trans (heap_alloc2_old _ _ _)
  have E0 := hid e0
  clear e0
  go_wp2_with (first
    | (refine wpList_load_row rfl _ (.tmp 3) rfl (w.heap.size + 1) rfl 44 (ubs z32).toArray (0, 0) _ ?d1 Try.underlying44 rfl ?d2 ?d3; rotate_right)
    | (refine wpList_store_row rfl _ (.tmp 2) (.tmp 8) rfl w.heap.size (ubs z32).toArray rfl rfl 44 (ubs z32).toArray E0.out ?e2 rfl (ubs_all _) ?e4; rotate_right))
  case d1 =>
    have h := hg1.out
    rw [ubs_nil, List.take_nil, splice_nil] at h
    exact h
  case d2 => simpa [ubs_length, z32_length] using sizeH
  case e2 => simpa [ubs_length, z32_length] using sizeH
  refine bodyPost_ret (results_cell_row rfl _ _ w.heap.size 44 (ubs z32).toArray (0, 0) _ rfl (setRow_heap _ _ _ _ _ _ E0.out) Try.underlying44 rfl (by simpa [ubs_length, z32_length] using sizeH)) rfl ?_
  have hf : Fr (fun _ => False) w w1 := ((((Fr.refl _ _).alloc _).alloc _).drew).next hb1.out (fun k hk he => by omega)
  exact ⟨rfl, (hf.setRow (.inl (Nat.le_refl _)) _).below (fun _ h => h.elim) (Nat.le_refl _)⟩

set_option maxHeartbeats 1000000 in
theorem rhash_good (base : Nat → Prop) (p k : Nat) (bs : List UInt8) (w : World) (h : RS w base p k bs) (hn : 32 ≤ bs.length) :
    Calls Try.prog 31 #[.pointer (some ⟨p, 0, none⟩)] w fun e w' => ∃ x, e = .returned x ∧ RHashOut base p k (bs.take 32) (bs.drop 32) w x w' := by
  obtain ⟨W0, hW0⟩ : ∃ W0, W0 = ((w.alloc (.cells (ubs z32).toArray 44)).alloc (.cells (ubs z32).toArray 44)).drew := ⟨_, rfl⟩
  have hf0 : Fr (fun _ => False) w W0 := hW0 ▸ (((Fr.refl _ _).alloc _).alloc _).drew
  have hp : p < w.heap.size := by obtain ⟨_, _, h⟩ := h; exact h.at_.lt
  have HC := hid (take_good (fun g => base g ∧ g < w.heap.size) p k bs 32 W0 (h.old.fr hf0 (fun _ _ => id)) hn)
  have h0 : At W0 w.heap.size (ubs z32).toArray 44 := hW0 ▸ (heap_alloc2_old _ _ _)
  have h1 : At W0 (w.heap.size + 1) (ubs z32).toArray 44 := hW0 ▸ (heap_alloc2_new _ _ _)
  have H0 := hid h0
  have H1 := hid h1
  have HF0 := hid hf0
  have hlen : (bs.take 32).length = 32 := by simp; omega
  have HL := hid hlen
  have HW0 := hid hW0
  subst hW0
  clear h h0 h1 hf0 hn hlen
  have hz := hashZ
  go_enter Try.func31, Try.ntmps31
  go_wp2
  go_region_law (first
    | (refine step_copy_rd rfl (.tmp 4) (.tmp 6) _ _ rfl 5 Try.underlying30 sizeB (w.heap.size + 1) 0 32 32 w1.heap.size A1 32 c1 (by simp [Act.eval]) (by simp [Act.eval]) (ubs z32) 44 (H1.out.fr hx.out.2.2 (by show ¬ _ = p; omega)) (ubs (bs.take 32)) hx.out.1 (by rw [ubs_length, HL.out]) (by simp [ubs, z32]) (ubs_one _) ?_; intro w2 hg2 hb2; replace hb2 := hid hb2; replace hg2 := hid hg2)
    | (go_simp; go_at_call 45; refine HC.out.mono ?_; rintro e w1 ⟨x, rfl, A1, c1, rfl, hx⟩; replace hx := hid hx))
  have e0 : At w2 w.heap.size (ubs z32).toArray 44 := (H0.out.fr hx.out.2.2 (by show ¬ _ = p; omega)).fr hb2.out (by omega)
  have e1 : At w2 (w.heap.size + 1) (ubs (bs.take 32)).toArray 44 := by
    have := hg2.out
    rw [List.take_of_length_le (by rw [ubs_length, HL.out]; exact Nat.le_refl _), splice_full _ HL.out] at this
    exact this
  have E0 := hid e0
  have E1 := hid e1
  have S1 := hid (by simpa [ubs_length, HL.out] using sizeH : (Try.prog.info? 44).map (·.size) = some (ubs (bs.take 32)).toArray.size)
  clear e0 e1
  go_wp2_with (first
    | (refine wpList_load_row rfl _ (.tmp 3) rfl (w.heap.size + 1) rfl 44 (ubs (bs.take 32)).toArray (0, 0) _ E1.out Try.underlying44 rfl S1.out ?_)
    | (refine wpList_store_row rfl _ (.tmp 2) (.tmp 8) rfl w.heap.size (ubs (bs.take 32)).toArray rfl rfl 44 (ubs z32).toArray E0.out S1.out ?e3 (ubs_all _) ?e4; rotate_right))
  case e3 =>
    show (ubs z32).toArray.size = _
    rw [List.size_toArray, List.size_toArray, ubs_length, ubs_length, HL.out, z32_length]
  refine bodyPost_ret (results_cell_row rfl _ _ w.heap.size 44 (ubs (bs.take 32)).toArray (0, 0) _ rfl (setRow_heap _ _ _ _ _ _ E0.out) Try.underlying44 rfl S1.out) rfl ?_
  have hr := (hx.out.2.1.fr hb2.out (fun g hg => by omega)).fr ((Fr.refl (fun k => k = w.heap.size) _).setRow (g := w.heap.size) (.inr rfl) (ubs (bs.take 32)).toArray) (fun g hg => by omega)
  refine ⟨_, rfl, rfl, hr.mono (fun g hg => hg.1), (((HF0.out.mono (S' := Only p) (fun _ _ h => h.elim)).trans hx.out.2.2).next hb2.out (fun k hk he => by omega)).setRow (.inl (Nat.le_refl _)) _⟩
set_option maxHeartbeats 1000000 in
theorem rhash_bad (base : Nat → Prop) (p k : Nat) (bs : List UInt8) (w : World) (h : RS w base p k bs) (hn : bs.length < 32) :
    Calls Try.prog 31 #[.pointer (some ⟨p, 0, none⟩)] w fun e w' => ∃ x, e = .returned x ∧ RHashOut base p (werr k 2) z32 [] w x w' := by
  obtain ⟨W0, hW0⟩ : ∃ W0, W0 = ((w.alloc (.cells (ubs z32).toArray 44)).alloc (.cells (ubs z32).toArray 44)).drew := ⟨_, rfl⟩
  have hf0 : Fr (fun _ => False) w W0 := hW0 ▸ (((Fr.refl _ _).alloc _).alloc _).drew
  have hp : p < w.heap.size := by obtain ⟨_, _, h⟩ := h; exact h.at_.lt
  have HC := hid (take_bad (fun g => base g ∧ g < w.heap.size) p k bs 32 W0 (h.old.fr hf0 (fun _ _ => id)) (.inr (by omega)))
  have h0 : At W0 w.heap.size (ubs z32).toArray 44 := hW0 ▸ (heap_alloc2_old _ _ _)
  have h1 : At W0 (w.heap.size + 1) (ubs z32).toArray 44 := hW0 ▸ (heap_alloc2_new _ _ _)
  have H0 := hid h0
  have H1 := hid h1
  have HF0 := hid hf0
  have HW0 := hid hW0
  subst hW0
  clear h h0 h1 hf0 hn
  have hz := hashZ
  go_enter Try.func31, Try.ntmps31
  go_wp2
  go_region_law (first
    | (refine step_copy_rd rfl (.tmp 4) (.tmp 6) _ _ rfl 5 Try.underlying30 sizeB (w.heap.size + 1) 0 32 32 0 none 0 0 (by simp [Act.eval]) (by simp [Act.eval]) (ubs z32) 44 (H1.out.fr hx.out.2 (by show ¬ _ = p; omega)) (ubs []) (Rd.nil _ _ _) rfl (by simp [ubs, z32]) (ubs_one []) ?_; intro w2 hg2 hb2; replace hb2 := hid hb2; replace hg2 := hid hg2)
    | (go_simp; go_at_call 45; refine HC.out.mono ?_; rintro e w1 ⟨x, rfl, rfl, hx⟩; replace hx := hid hx))
  have e0 : At w2 w.heap.size (ubs z32).toArray 44 := (H0.out.fr hx.out.2 (by show ¬ _ = p; omega)).fr hb2.out (by omega)
  have e1 : At w2 (w.heap.size + 1) (ubs z32).toArray 44 := by
    have := hg2.out
    rw [ubs_nil, List.take_nil, splice_nil] at this
    exact this
  have E0 := hid e0
  have E1 := hid e1
  have S1 := hid (by simpa [ubs_length, z32_length] using sizeH : (Try.prog.info? 44).map (·.size) = some (ubs z32).toArray.size)
  clear e0 e1
  go_wp2_with (first
    | (refine wpList_load_row rfl _ (.tmp 3) rfl (w.heap.size + 1) rfl 44 (ubs z32).toArray (0, 0) _ E1.out Try.underlying44 rfl S1.out ?_)
    | (refine wpList_store_row rfl _ (.tmp 2) (.tmp 8) rfl w.heap.size (ubs z32).toArray rfl rfl 44 (ubs z32).toArray E0.out S1.out ?e3 (ubs_all _) ?e4; rotate_right))
  case e3 =>
    show (ubs z32).toArray.size = _
    rfl
  refine bodyPost_ret (results_cell_row rfl _ _ w.heap.size 44 (ubs z32).toArray (0, 0) _ rfl (setRow_heap _ _ _ _ _ _ E0.out) Try.underlying44 rfl S1.out) rfl ?_
  have hr := (hx.out.1.fr hb2.out (fun g hg => by omega)).fr ((Fr.refl (fun k => k = w.heap.size) _).setRow (g := w.heap.size) (.inr rfl) (ubs z32).toArray) (fun g hg => by omega)
  refine ⟨_, rfl, rfl, hr.mono (fun g hg => hg.1), (((HF0.out.mono (S' := Only p) (fun _ _ h => h.elim)).trans hx.out.2).next hb2.out (fun k hk he => by omega)).setRow (.inl (Nat.le_refl _)) _⟩
end Go.Proofs.Ytmgdngpdgjdicaa
