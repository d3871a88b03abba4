/-
  The document's own writer: contracts of its functions.
-/
import Derived.Test.YtmgdngpdgjdicaaBk
namespace Go.Proofs.Ytmgdngpdgjdicaa
open Go.RowKit

/-- The document's writer as a value: its bytes and its error's number. -/
def wv (A : Option Addr) (n c k : Nat) : Value := .agg #[.slice A n c, .int .i64 k]
/-- What a function of the document's writer leaves: a writer in new memory, or as it was; nothing that was there has turned. -/
def MOut (k : Nat) (bs : List UInt8) (A0 : Option Addr) (w : World) (x : Value) (w' : World) : Prop := ∃ A c, x = wv A bs.length c k ∧ Rb w' w'.heap.size A bs ∧ (A = A0 ∨ ∀ b o, A = some ⟨b, o, none⟩ → w.heap.size ≤ b ∧ b < w'.heap.size) ∧ Below w.heap.size w w'
def MNew (k : Nat) (bs : List UInt8) (w : World) (x : Value) (w' : World) : Prop := ∃ A c, x = wv A bs.length c k ∧ Rb w' w'.heap.size A bs ∧ (∀ b o, A = some ⟨b, o, none⟩ → w.heap.size ≤ b ∧ b < w'.heap.size) ∧ Below w.heap.size w w'
theorem MNew.out {k : Nat} {bs : List UInt8} {w w' : World} {x : Value} (h : MNew k bs w x w') (A0 : Option Addr) : MOut k bs A0 w x w' := by
  obtain ⟨A, c, h1, h2, h3, h4⟩ := h
  exact ⟨A, c, h1, h2, .inr h3, h4⟩
theorem sizeW : (Try.prog.info? 34).map (·.size) = some 2 := by kernel_rfl
set_option maxHeartbeats 1000000 in
theorem mraw_any (k : Nat) (bs xs : List UInt8) (A B : Option Addr) (c d : Nat) (w : World) (ha : Rb w w.heap.size A bs) (hx : Rb w w.heap.size B xs) (hl : bs.length + xs.length ≤ 1000000000) :
    Calls Try.prog 14 #[wv A bs.length c k, .slice B xs.length d] w fun e w' => ∃ x, e = .returned x ∧ MNew k (bs ++ xs) w x w' := by
  obtain ⟨i0, hi, hz0, hz1, hz2⟩ := info_parts infoB
  obtain ⟨W0, hW0⟩ : ∃ W0, W0 = ((w.alloc (.cells #[.slice A bs.length c, .int .i64 k] 34)).alloc (.cells #[.slice none 0 0, .int .i64 0] 34)).alloc (.cells #[] 5) := ⟨_, rfl⟩
  have hs0 : W0.heap.size = w.heap.size + 3 := by rw [hW0]; simp
  have hf0 : Fr (fun _ => False) w W0 := by rw [hW0]; exact (((Fr.refl _ _).alloc _).alloc _).alloc _
  have ho0 : W0.ownsRow w.heap.size 5 1 (.slice (some ⟨w.heap.size + 2, 0, none⟩) 0 0) 0 [] := by
    have := World.ownsRow_made (base := w.heap.size) (e := 5) (size := 1) ((w.alloc (.cells #[.slice A bs.length c, .int .i64 k] 34)).alloc (.cells #[.slice none 0 0, .int .i64 0] 34)) #[] 0 (by simp; omega) (by simp [maxLen]) rfl
    rw [hW0]
    simpa using this
  have ha0 : At W0 w.heap.size #[.slice A bs.length c, .int .i64 k] 34 := by rw [hW0]; exact ((At.new _ _ _).alloc _).alloc _
  have hb0 : At W0 (w.heap.size + 1) #[.slice none 0 0, .int .i64 0] 34 := by
    rw [hW0]
    have := (At.new (w.alloc (.cells #[.slice A bs.length c, .int .i64 k] 34)) #[.slice none 0 0, .int .i64 0] 34).alloc (.cells #[] 5)
    simpa using this
  have KA := hid (fun (w1 : World) (hgr : W0.grownBy w1 (some (w.heap.size + 2))) => (⟨(hgr.block w.heap.size (by omega) (by simp)).trans ha0, (hgr.block (w.heap.size + 1) (by omega) (by simp)).trans hb0⟩ : At w1 w.heap.size #[.slice A bs.length c, .int .i64 k] 34 ∧ At w1 (w.heap.size + 1) #[.slice none 0 0, .int .i64 0] 34))
  have HA := hid (ha.fr hf0 (fun _ _ _ => id)).lt
  have HX := hid (hx.fr hf0 (fun _ _ _ => id))
  have HA0 := hid ha0
  have HB0 := hid hb0
  have HO0 := hid ho0
  have HF0 := hid hf0
  have HS0 := hid hs0
  have HL := hid hl
  clear ha hx ha0 hb0 ho0 hf0 hs0 hl
  unfold wv
  subst hW0
  go_enter Try.func14, Try.ntmps14
  go_wp2_with (first
    | (at_builtin; refine wpList_append_rd rfl (.tmp 5) (.tmp 7) _ rfl w.heap.size 5 i0 (.int .u8 0) 1 Try.underlying30 hi hz0 hz1 hz2 rfl _ 0 [] rfl HO0.out _ A bs.length c (ubs bs) rfl (ubs_length _) HA.out (ubs_one _) (by have := HL.out; unfold maxLen; omega) (by have := HL.out; omega) (by simp; omega) ?_; intro v1 w1 hown hgr hat; rw [Nat.zero_add, List.nil_append] at hown; obtain ⟨A1, c1, rfl, -⟩ := own_form hown; have HA1 := hid (KA.out w1 hgr).1; have HB1 := hid (KA.out w1 hgr).2; replace hown := hid hown; replace hgr := hid hgr; replace hat := hid hat)
    | (at_builtin; refine wpList_append_rd rfl (.tmp 8) (.tmp 9) _ rfl w.heap.size 5 i0 (.int .u8 0) 1 Try.underlying30 hi hz0 hz1 hz2 rfl (.slice A1 bs.length c1) bs.length (ubs bs) rfl hown.out w1.heap.size B xs.length d (ubs xs) rfl (ubs_length _) ?c1 (ubs_one _) ?c2 ?c3 ?c4 ?_; rotate_right; intro v2 w2 hown2 hgr2 hat2; obtain ⟨A2, c2, rfl, -⟩ := own_form hown2; have HA2 := hid (at_grown HA1.out hown.out (by decide) hgr2); have HB2 := hid (at_grown HB1.out hown.out (by decide) hgr2); have d0 := HA2.out.cell 0; have d1 := HA2.out.cell 1; have f0 := HA2.out.frozen 0; have e0 := HB2.out.cell 0; have e1 := HB2.out.cell 1; have g0 := HB2.out.frozen 0; have g1 := HB2.out.frozen 1; simp at d0 d1 e0 e1; replace hown2 := hid hown2; replace hgr2 := hid hgr2; replace hat2 := hid hat2))
  case c1 => exact (HX.out.frB ((Fr.refl (fun k => k = w.heap.size + 2) _).grown hgr.out (fun k hk => .inr (by cases hk; rfl))) (fun k hk he => by omega)).lt
  case c2 => have := HL.out; unfold maxLen; omega
  case c3 => have := HL.out; omega
  case c4 => have := hgr.out.size; have := HS0.out; omega
  have hAt := (((HB2.out.far (p := ⟨w.heap.size, 0, none⟩) (by simp) (.slice A2 (bs.length + xs.length) c2)).put 0 (.slice A2 (bs.length + xs.length) c2)).put 1 (.int .i64 k))
  refine bodyPost_ret (results_cell_row rfl _ _ (w.heap.size + 1) 34 #[.slice A2 (bs.length + xs.length) c2, .int .i64 k] (0, 0) _ rfl hAt Try.underlying34 rfl sizeW) rfl ?_
  refine ⟨_, rfl, A2, c2, by simp [wv, List.length_append], ?_, ?_, ?_⟩
  · have h1 := Rd.of_own hown2.out
    rw [← ubs_append] at h1
    have h2 : ∀ b o, A2 = some ⟨b, o, none⟩ → b ≠ w.heap.size ∧ b ≠ w.heap.size + 1 := by
      intro b o e
      have k1 := own_ne_at hown2.out HA2.out (by decide)
      have k2 := own_ne_at hown2.out HB2.out (by decide)
      rw [e] at k1 k2
      simp [Value.ownBlock] at k1 k2
      exact ⟨k1, k2⟩
    exact (((Rd.setCell h1 (p := ⟨w.heap.size, 0, none⟩) (fun b o e => (h2 b o e).1) _).setCell (p := ⟨w.heap.size + 1, 0, none⟩) (fun b o e => (h2 b o e).2) _).setCell (p := ⟨w.heap.size + 1, 1, none⟩) (fun b o e => (h2 b o e).2) _).lt
  · intro b o e
    obtain ⟨_, _, h1, _, _, _, _, h2⟩ := own_form hown2.out
    cases h1
    exact ⟨(h2 _ e).2.2.1, by simpa using (h2 _ e).2.2.2⟩
  · have f1 : Fr (fun _ => False) w w1 := HF0.out.grown hgr.out (fun k hk => .inl (by cases hk; show w.heap.size ≤ w.heap.size + 1 + 1; omega))
    have f2 : Fr (fun _ => False) w w2 := f1.grown hgr2.out (fun k hk => .inl (World.ownsRow.lt hown.out k hk).1)
    exact (((f2.setCell (p := ⟨w.heap.size, 0, none⟩) (.inl (Nat.le_refl _)) _).setCell (p := ⟨w.heap.size + 1, 0, none⟩) (.inl (by simp)) _).setCell (p := ⟨w.heap.size + 1, 1, none⟩) (.inl (by simp)) _).below (fun _ h => h.elim) (Nat.le_refl _)
end Go.Proofs.Ytmgdngpdgjdicaa
