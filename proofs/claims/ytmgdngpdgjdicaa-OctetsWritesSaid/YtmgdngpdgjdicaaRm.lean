/-
  The document's own writer: its functions Num, Bytes and Flag.
-/
import Derived.Test.YtmgdngpdgjdicaaRn
namespace Go.Proofs.Ytmgdngpdgjdicaa
open Go.RowKit

theorem MOut.from {k : Nat} {bs : List UInt8} {A0 : Option Addr} {w w1 w' : World} {x : Value} (hb : Below w.heap.size w w1) (h : MOut k bs A0 w1 x w') : MOut k bs A0 w x w' := by
  obtain ⟨A, c, h1, h2, h3, h4⟩ := h
  refine ⟨A, c, h1, h2, h3.imp id (fun h b o e => ⟨Nat.le_trans hb.size (h b o e).1, (h b o e).2⟩), hb.trans (h4.mono hb.size)⟩
set_option maxHeartbeats 1000000 in
theorem mnum_unfit (k : Nat) (bs : List UInt8) (A : Option Addr) (c n : Nat) (s : Int) (h64 : n < 18446744073709551616) (h : ∀ j : Nat, Sz j → s = j → 256 ^ j ≤ n) (w : World) (ha : Rb w w.heap.size A bs) :
    Calls Try.prog 10 #[wv A bs.length c k, .int .u64 n, .int .i64 s] w fun e w' => ∃ x, e = .returned x ∧ MOut (werr k 1) bs A w x w' := by
  have HF := hid (fun w1 => fits_no n s h64 h w1)
  have HA := hid ha
  clear ha h
  unfold wv
  by_cases hk : k = 0
  · subst hk
    go_enter Try.func10, Try.ntmps10
    go_wp2_with (go_at_call 41; refine (HF.out _).mono ?_; rintro e w1 ⟨rfl, rfl⟩)
    refine bodyPost_ret (results_cell_row rfl _ _ (w.heap.size + 1) 34 #[.slice A bs.length c, .int .i64 1] (0, 0) _ rfl (heap_alloc2_new _ _ _) Try.underlying34 rfl sizeW) rfl ?_
    exact ⟨_, rfl, A, c, rfl, ((HA.out.alloc _).alloc _).lt, .inl rfl, ((Below.refl _ _).alloc (Nat.le_refl _) _).alloc (by simp) _⟩
  · have hd : ((k : Int) == 0) = false := by simp; omega
    have hw : werr k 1 = k := if_neg hk
    rw [hw]
    clear hk hw
    go_enter Try.func10, Try.ntmps10
    go_wp2_with (go_at_call 41; refine (HF.out _).mono ?_; rintro e w1 ⟨rfl, rfl⟩)
    refine bodyPost_ret (results_cell_row rfl _ _ (w.heap.size + 1) 34 #[.slice A bs.length c, .int .i64 k] (0, 0) _ rfl (heap_alloc2_new _ _ _) Try.underlying34 rfl sizeW) rfl ?_
    exact ⟨_, rfl, A, c, rfl, ((HA.out.alloc _).alloc _).lt, .inl rfl, ((Below.refl _ _).alloc (Nat.le_refl _) _).alloc (by simp) _⟩

set_option maxHeartbeats 1000000 in
theorem mnum_fit (k : Nat) (bs : List UInt8) (A : Option Addr) (c n s : Nat) (hs : Sz s) (hn : n < 256 ^ s) (w : World) (ha : Rb w w.heap.size A bs) (hl : bs.length ≤ 900000000) :
    Calls Try.prog 10 #[wv A bs.length c k, .int .u64 n, .int .i64 s] w fun e w' => ∃ x, e = .returned x ∧ MOut k (bs ++ be n s) A w x w' := by
  obtain ⟨W0, hW0⟩ : ∃ W0, W0 = ((w.alloc (.cells #[.slice A bs.length c, .int .i64 k] 34)).alloc (.cells #[.slice none 0 0, .int .i64 0] 34)).drew := ⟨_, rfl⟩
  have hf0 : Fr (fun _ => False) w W0 := by rw [hW0]; exact (((Fr.refl _ _).alloc _).alloc _).drew
  have ha0 : At W0 w.heap.size #[.slice A bs.length c, .int .i64 k] 34 := by rw [hW0]; exact heap_alloc2_old _ _ _
  have hb0 : At W0 (w.heap.size + 1) #[.slice none 0 0, .int .i64 0] 34 := by rw [hW0]; exact heap_alloc2_new _ _ _
  have HF := hid (fun w1 => fits_yes n s hs hn w1)
  have HN := hid (number_any n s hs hn W0)
  have HM := hid (fun w1 A1 c1 h1 h2 => mraw_any k bs (be n s) A A1 c c1 w1 h1 h2 (by rw [be_length]; rcases hs with rfl | rfl | rfl | rfl <;> omega))
  have HA := hid (ha.fr hf0 (fun _ _ _ => id))
  have HA0 := hid ha0
  have HB0 := hid hb0
  have HF0 := hid hf0
  clear ha ha0 hb0 hf0 hs hn
  subst hW0
  unfold wv at HM ⊢
  go_enter Try.func10, Try.ntmps10
  go_wp2_with (go_at_call 41; refine (HF.out _).mono ?_; rintro e w1 ⟨rfl, rfl⟩)
  go_region_law (first
    | (go_simp; go_at_call 42; refine HN.out.mono ?_; rintro e w1 ⟨x, rfl, A1, c1, rfl, h1⟩; have HA1 := hid (HA0.out.new_ h1.2.2); have HB1 := hid (HB0.out.new_ h1.2.2); have d0 := HA1.out.cell 0; have d1 := HA1.out.cell 1; simp at d0 d1; replace h1 := hid h1)
    | (go_simp; go_at_call 14; refine (HM.out w1 A1 c1 (HA.out.below (h1.out.2.2.mono (by simp; omega))).lt h1.out.1).mono ?_; rintro e w2 ⟨x, rfl, A2, c2, rfl, h2⟩; unfold wv; have HB2 := hid (HB1.out.new_ h2.2.2); have e0 := HB2.out.cell 0; have e1 := HB2.out.cell 1; have g0 := HB2.out.frozen 0; have g1 := HB2.out.frozen 1; simp at e0 e1; replace h2 := hid h2))
  all_goals
    go_wp2
    have hAt := (HB2.out.put 0 (.slice A2 (bs.length + (be n s).length) c2)).put 1 (.int .i64 k)
    refine bodyPost_ret (results_cell_row rfl _ _ (w.heap.size + 1) 34 #[.slice A2 (bs.length + (be n s).length) c2, .int .i64 k] (0, 0) _ rfl hAt Try.underlying34 rfl sizeW) rfl ?_
    have hsz := h1.out.2.2.size
    have hs2 := h2.out.2.2.size
    simp at hsz
    have hfar : ∀ b o, A2 = some ⟨b, o, none⟩ → b ≠ w.heap.size + 1 := fun b o e => by have := (h2.out.2.1 b o e).1; omega
    have f1 : Fr (fun _ => False) w w1 := HF0.out.trans (Fr.of_new h1.out.2.2)
    have f2 : Fr (fun _ => False) w w2 := f1.trans (Fr.of_new h2.out.2.2)
    exact ⟨_, rfl, A2, c2, by simp [wv, List.length_append], ((Rd.setCell h2.out.1 (p := ⟨w.heap.size + 1, 0, none⟩) hfar _).setCell (p := ⟨w.heap.size + 1, 1, none⟩) hfar _).lt,
      .inr (fun b o e => ⟨by have := (h2.out.2.1 b o e).1; omega, by have := (h2.out.2.1 b o e).2; simpa using this⟩),
      ((f2.setCell (p := ⟨w.heap.size + 1, 0, none⟩) (.inl (by simp)) _).setCell (p := ⟨w.heap.size + 1, 1, none⟩) (.inl (by simp)) _).below (fun _ h => h.elim) (Nat.le_refl _)⟩

theorem mbytes_large (k : Nat) (bs : List UInt8) (A B : Option Addr) (c n d : Nat) (hn : 65535 < n) (w : World) (ha : Rb w w.heap.size A bs) :
    Calls Try.prog 12 #[wv A bs.length c k, .slice B n d] w fun e w' => ∃ x, e = .returned x ∧ MOut (werr k 3) bs A w x w' := by
  have HA := hid ha
  clear ha
  unfold wv
  by_cases hk : k = 0
  · subst hk
    go_enter Try.func12, Try.ntmps12
    go_wp2
    refine bodyPost_ret (results_cell_row rfl _ _ (w.heap.size + 1) 34 #[.slice A bs.length c, .int .i64 3] (0, 0) _ rfl (heap_alloc2_new _ _ _) Try.underlying34 rfl sizeW) rfl ?_
    exact ⟨_, rfl, A, c, rfl, ((HA.out.alloc _).alloc _).lt, .inl rfl, ((Below.refl _ _).alloc (Nat.le_refl _) _).alloc (by simp) _⟩
  · have hd : ((k : Int) == 0) = false := by simp; omega
    have hw : werr k 3 = k := if_neg hk
    rw [hw]
    clear hk hw
    go_enter Try.func12, Try.ntmps12
    go_wp2
    refine bodyPost_ret (results_cell_row rfl _ _ (w.heap.size + 1) 34 #[.slice A bs.length c, .int .i64 k] (0, 0) _ rfl (heap_alloc2_new _ _ _) Try.underlying34 rfl sizeW) rfl ?_
    exact ⟨_, rfl, A, c, rfl, ((HA.out.alloc _).alloc _).lt, .inl rfl, ((Below.refl _ _).alloc (Nat.le_refl _) _).alloc (by simp) _⟩

set_option maxHeartbeats 1000000 in
theorem mbytes_fit (k : Nat) (bs xs : List UInt8) (A B : Option Addr) (c d : Nat) (hn : xs.length ≤ 65535) (w : World) (ha : Rb w w.heap.size A bs) (hx : Rb w w.heap.size B xs) (hl : bs.length ≤ 900000000) :
    Calls Try.prog 12 #[wv A bs.length c k, .slice B xs.length d] w fun e w' => ∃ x, e = .returned x ∧ MOut k (bs ++ (be xs.length 2 ++ xs)) A w x w' := by
  obtain ⟨W0, hW0⟩ : ∃ W0, W0 = ((w.alloc (.cells #[.slice A bs.length c, .int .i64 k] 34)).alloc (.cells #[.slice none 0 0, .int .i64 0] 34)) := ⟨_, rfl⟩
  have hf0 : Fr (fun _ => False) w W0 := by rw [hW0]; exact (((Fr.refl _ _).alloc _).alloc _)
  have hb0 : At W0 (w.heap.size + 1) #[.slice none 0 0, .int .i64 0] 34 := by rw [hW0]; exact heap_alloc2_new _ _ _
  have hs0 : W0.heap.size = w.heap.size + 2 := by rw [hW0]; simp
  have HN := hid (mnum_fit k bs A c xs.length 2 (.inr (.inl rfl)) (by omega) W0 (ha.fr hf0 (fun _ _ _ => id)).lt hl)
  obtain ⟨ys, hys⟩ : ∃ ys, ys = bs ++ be xs.length 2 := ⟨_, rfl⟩
  have hyl : ys.length ≤ 900000002 := by rw [hys, List.length_append, be_length]; omega
  rw [← hys] at HN
  obtain ⟨zs, hzs⟩ : ∃ zs, zs = ys ++ xs := ⟨_, rfl⟩
  have HM := hid (fun w1 A1 c1 h1 h2 => hzs ▸ mraw_any k ys xs A1 B c1 d w1 h1 h2 (by omega))
  have HY := hid hys
  have HZ := hid hzs
  clear hyl hys hzs
  have HX := hid (hx.fr hf0 (fun _ _ _ => id))
  have HB0 := hid hb0
  have HF0 := hid hf0
  have HS0 := hid hs0
  clear ha hx hb0 hf0 hs0
  subst hW0
  unfold wv at HN HM ⊢
  go_enter Try.func12, Try.ntmps12
  go_wp2_with (first
    | (go_at_call 10; refine HN.out.mono ?_; rintro e w1 ⟨x, rfl, A1, c1, rfl, h1⟩; unfold wv; have HB1 := hid (HB0.out.new_ h1.2.2); replace h1 := hid h1)
    | (go_at_call 14; refine (HM.out w1 A1 c1 h1.out.1 (HX.out.below (h1.out.2.2.mono (by simp; omega))).lt).mono ?_; rintro e w2 ⟨x, rfl, A2, c2, rfl, h2⟩; unfold wv; have HB2 := hid (HB1.out.new_ h2.2.2); have e0 := HB2.out.cell 0; have e1 := HB2.out.cell 1; have g0 := HB2.out.frozen 0; have g1 := HB2.out.frozen 1; simp at e0 e1; replace h2 := hid h2))
  have hAt := (HB2.out.put 0 (.slice A2 zs.length c2)).put 1 (.int .i64 k)
  refine bodyPost_ret (results_cell_row rfl _ _ (w.heap.size + 1) 34 #[.slice A2 zs.length c2, .int .i64 k] (0, 0) _ rfl hAt Try.underlying34 rfl sizeW) rfl ?_
  have hsz := h1.out.2.2.size
  simp at hsz
  have hfar : ∀ b o, A2 = some ⟨b, o, none⟩ → b ≠ w.heap.size + 1 := fun b o e => by have := (h2.out.2.1 b o e).1; omega
  have hzz : bs ++ (be xs.length 2 ++ xs) = zs := by rw [HZ.out, HY.out, List.append_assoc]
  have f1 : Fr (fun _ => False) w w1 := HF0.out.trans (Fr.of_new h1.out.2.2)
  have f2 : Fr (fun _ => False) w w2 := f1.trans (Fr.of_new h2.out.2.2)
  rw [hzz]
  exact ⟨_, rfl, A2, c2, rfl, ((Rd.setCell h2.out.1 (p := ⟨w.heap.size + 1, 0, none⟩) hfar _).setCell (p := ⟨w.heap.size + 1, 1, none⟩) hfar _).lt,
    .inr (fun b o e => ⟨by have := (h2.out.2.1 b o e).1; omega, by have := (h2.out.2.1 b o e).2; simpa using this⟩),
    ((f2.setCell (p := ⟨w.heap.size + 1, 0, none⟩) (.inl (by simp)) _).setCell (p := ⟨w.heap.size + 1, 1, none⟩) (.inl (by simp)) _).below (fun _ h => h.elim) (Nat.le_refl _)⟩

set_option maxHeartbeats 1000000 in
theorem mflag_any (k : Nat) (bs : List UInt8) (A : Option Addr) (c : Nat) (is : Bool) (w : World) (ha : Rb w w.heap.size A bs) (hl : bs.length ≤ 900000000) :
    Calls Try.prog 18 #[wv A bs.length c k, .bool is] w fun e w' => ∃ x, e = .returned x ∧ MOut k (bs ++ flagB is) A w x w' := by
  obtain ⟨zs, hzs⟩ : ∃ zs, zs = bs ++ flagB is := ⟨_, rfl⟩
  have ha3 := fun o => ((ha.alloc (.cells #[.slice A bs.length c, .int .i64 k] 34)).alloc (.cells #[.slice none 0 0, .int .i64 0] 34)).alloc o
  have hf3 : ∀ o, Fr (fun _ => False) w (((w.alloc (.cells #[.slice A bs.length c, .int .i64 k] 34)).alloc (.cells #[.slice none 0 0, .int .i64 0] 34)).alloc o) := fun o => ((((Fr.refl _ _).alloc _).alloc _).alloc _)
  have hb3 : ∀ o, At (((w.alloc (.cells #[.slice A bs.length c, .int .i64 k] 34)).alloc (.cells #[.slice none 0 0, .int .i64 0] 34)).alloc o) (w.heap.size + 1) #[.slice none 0 0, .int .i64 0] 34 := fun o => At.alloc (heap_alloc2_new _ _ _) _
  have hn3 : ∀ cs, At (((w.alloc (.cells #[.slice A bs.length c, .int .i64 k] 34)).alloc (.cells #[.slice none 0 0, .int .i64 0] 34)).alloc (.cells cs 5)) (w.heap.size + 2) cs 5 := fun cs => by
    have := At.new ((w.alloc (.cells #[.slice A bs.length c, .int .i64 k] 34)).alloc (.cells #[.slice none 0 0, .int .i64 0] 34)) cs 5
    simpa using this
  rw [← hzs]
  have HF3 := hid hf3
  have HB3 := hid hb3
  cases is
  · have HM := hid (hzs ▸ mraw_any k bs (flagB false) A (some ⟨w.heap.size + 2, 0, none⟩) c 1 _ (ha3 (.cells #[.int .u8 0] 5)).lt (Rd.of_drop (hn3 _) 0 rfl (hn3 _).lt) (by simp [flagB]; omega))
    clear ha ha3 hf3 hb3 hn3 hzs
    unfold wv at HM ⊢
    go_enter Try.func18, Try.ntmps18
    go_wp2_with (go_at_call 14; refine HM.out.mono ?_; rintro e w2 ⟨x, rfl, A2, c2, rfl, h2⟩; unfold wv; have HB2 := hid ((HB3.out _).new_ h2.2.2); have e0 := HB2.out.cell 0; have e1 := HB2.out.cell 1; have g0 := HB2.out.frozen 0; have g1 := HB2.out.frozen 1; simp at e0 e1; replace h2 := hid h2)
    have hAt := (HB2.out.put 0 (.slice A2 zs.length c2)).put 1 (.int .i64 k)
    refine bodyPost_ret (results_cell_row rfl _ _ (w.heap.size + 1) 34 #[.slice A2 zs.length c2, .int .i64 k] (0, 0) _ rfl hAt Try.underlying34 rfl sizeW) rfl ?_
    have hfar : ∀ b o, A2 = some ⟨b, o, none⟩ → b ≠ w.heap.size + 1 := fun b o e => by have := (h2.out.2.1 b o e).1; simp at this; omega
    have f2 : Fr (fun _ => False) w w2 := (HF3.out _).trans (Fr.of_new h2.out.2.2)
    exact ⟨_, rfl, A2, c2, rfl, ((Rd.setCell h2.out.1 (p := ⟨w.heap.size + 1, 0, none⟩) hfar _).setCell (p := ⟨w.heap.size + 1, 1, none⟩) hfar _).lt,
      .inr (fun b o e => ⟨by have := (h2.out.2.1 b o e).1; simp at this; omega, by have := (h2.out.2.1 b o e).2; simpa using this⟩),
      ((f2.setCell (p := ⟨w.heap.size + 1, 0, none⟩) (.inl (by simp)) _).setCell (p := ⟨w.heap.size + 1, 1, none⟩) (.inl (by simp)) _).below (fun _ h => h.elim) (Nat.le_refl _)⟩
  · have HM := hid (hzs ▸ mraw_any k bs (flagB true) A (some ⟨w.heap.size + 2, 0, none⟩) c 1 _ (ha3 (.cells #[.int .u8 1] 5)).lt (Rd.of_drop (hn3 _) 0 rfl (hn3 _).lt) (by simp [flagB]; omega))
    clear ha ha3 hf3 hb3 hn3 hzs
    unfold wv at HM ⊢
    go_enter Try.func18, Try.ntmps18
    go_wp2_with (go_at_call 14; refine HM.out.mono ?_; rintro e w2 ⟨x, rfl, A2, c2, rfl, h2⟩; unfold wv; have HB2 := hid ((HB3.out _).new_ h2.2.2); have e0 := HB2.out.cell 0; have e1 := HB2.out.cell 1; have g0 := HB2.out.frozen 0; have g1 := HB2.out.frozen 1; simp at e0 e1; replace h2 := hid h2)
    have hAt := (HB2.out.put 0 (.slice A2 zs.length c2)).put 1 (.int .i64 k)
    refine bodyPost_ret (results_cell_row rfl _ _ (w.heap.size + 1) 34 #[.slice A2 zs.length c2, .int .i64 k] (0, 0) _ rfl hAt Try.underlying34 rfl sizeW) rfl ?_
    have hfar : ∀ b o, A2 = some ⟨b, o, none⟩ → b ≠ w.heap.size + 1 := fun b o e => by have := (h2.out.2.1 b o e).1; simp at this; omega
    have f2 : Fr (fun _ => False) w w2 := (HF3.out _).trans (Fr.of_new h2.out.2.2)
    exact ⟨_, rfl, A2, c2, rfl, ((Rd.setCell h2.out.1 (p := ⟨w.heap.size + 1, 0, none⟩) hfar _).setCell (p := ⟨w.heap.size + 1, 1, none⟩) hfar _).lt,
      .inr (fun b o e => ⟨by have := (h2.out.2.1 b o e).1; simp at this; omega, by have := (h2.out.2.1 b o e).2; simpa using this⟩),
      ((f2.setCell (p := ⟨w.heap.size + 1, 0, none⟩) (.inl (by simp)) _).setCell (p := ⟨w.heap.size + 1, 1, none⟩) (.inl (by simp)) _).below (fun _ h => h.elim) (Nat.le_refl _)⟩
end Go.Proofs.Ytmgdngpdgjdicaa
