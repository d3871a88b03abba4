/-
  The document's own reader: numbers.
-/
import Derived.Test.YtmgdngpdgjdicaaQr
import Derived.Test.YtmgdngpdgjdicaaR2
namespace Go.Proofs.Ytmgdngpdgjdicaa
open Go.RowKit

theorem qvalue_any (xs : List UInt8) (A : Option Addr) (c B : Nat) (hl : xs.length ≤ 8) (w : World) (ha : Rb w B A xs) :
    Calls Try.prog 44 #[.slice A xs.length c] w fun e w' => e = .returned (.int .u64 (val xs)) ∧ w = w' := by
  have HA := hid ha
  clear ha
  go_enter Try.func44, Try.ntmps44
  go_wp2
  go_loop [3, 4] (fun m i => ∃ j : Nat, j ≤ xs.length ∧ i = .int .i64 j ∧ m = .int .u64 (val (xs.take j))) (fun _ i => xs.length - (intOf i).toNat)
  case atStart => exact ⟨0, Nat.zero_le _, rfl, rfl⟩
  case round =>
    obtain ⟨j, hj, rfl, rfl⟩ := hrel
    by_cases hlt : j < xs.length
    · have hcell : ∃ b o, A = some ⟨b, o, none⟩ ∧ w.cell? ⟨b, o + j, none⟩ = some (.int .u8 (xs[j].toNat : Int)) := by
        obtain ⟨b, o, h1, _, h2⟩ := Rd.at_ HA.out (ubs_at hlt)
        exact ⟨b, o, h1, h2⟩
      obtain ⟨b, o, rfl, hc⟩ := hcell
      have hm := val_lt (xs.take j)
      rw [List.length_take, Nat.min_eq_left (by omega)] at hm
      have hm2 : val (xs.take j) < 72057594037927936 := Nat.lt_of_lt_of_le hm (by
        have : (256 : Nat) ^ j ≤ 256 ^ 7 := Nat.pow_le_pow_right (by omega) (by omega)
        simpa using this)
      have HV := hid (val_snoc (xs.take j) xs[j])
      rw [← take_snoc xs j hlt] at HV
      have hb0 : 0 ≤ (xs[j].toNat : Int) := by omega
      have hb1 : (xs[j].toNat : Int) < 256 := by have := xs[j].toNat_lt; omega
      clear hm
      go_wp2
      go_round
      case rel => exact ⟨j + 1, by omega, by go_num, by rw [HV.out]; simp⟩
      case measure => simp [intOf]; omega
    · obtain rfl : j = xs.length := by omega
      go_wp2
      go_ret
      exact ⟨rfl, rfl⟩

/-- A value, and the document's reader behind it. -/
def QV (B k : Nat) (v : Value) (ms : List UInt8) (w : World) (x : Value) (w' : World) : Prop :=
  ∃ A2 c2, x = .tuple #[v, wv A2 ms.length c2 k] ∧ Rb w' B A2 ms ∧ ms.length ≤ c2 ∧ Below w.heap.size w w'
set_option maxHeartbeats 1000000 in
theorem qread_done (B k : Nat) (ms : List UInt8) (A : Option Addr) (c : Nat) (n : Int) (hk : k ≠ 0) (w : World) (ha : Rb w B A ms) (hc : ms.length ≤ c) :
    Calls Try.prog 24 #[wv A ms.length c k, .int .i64 n] w fun e w' => ∃ x, e = .returned x ∧ QV B k (.int .u64 0) ms w x w' := by
  have HA := hid ha
  have hd : ((k : Int) != 0) = true := by simp; omega
  clear ha hk
  unfold wv
  go_enter Try.func24, Try.ntmps24
  go_wp2
  go_region
  all_goals
    go_wp2
    refine bodyPost_ret (results_tmp_row rfl _ _ (w.heap.size + 1) 57 #[.slice A ms.length c, .int .i64 k] (0, 0) _ rfl (heap_alloc2_new _ _ _) Try.underlying57 rfl sizeR) rfl ?_
    exact ⟨_, rfl, A, c, rfl, (HA.out.alloc _).alloc _, hc, (((Below.refl _ _).alloc (Nat.le_refl _) _).alloc (by simp) _).drew⟩
set_option maxHeartbeats 1000000 in
theorem qread_off (B : Nat) (ms : List UInt8) (A : Option Addr) (c : Nat) (n : Int) (hn : ∀ j : Nat, Sz j → n ≠ j) (w : World) (ha : Rb w B A ms) (hc : ms.length ≤ c) :
    Calls Try.prog 24 #[wv A ms.length c 0, .int .i64 n] w fun e w' => ∃ x, e = .returned x ∧ QV B 2 (.int .u64 0) ms w x w' := by
  have HA := hid ha
  have h1 : (n != 1) = true := by have := hn 1 (by simp [Sz]); simp; omega
  have h2 : (n != 2) = true := by have := hn 2 (by simp [Sz]); simp; omega
  have h4 : (n != 4) = true := by have := hn 4 (by simp [Sz]); simp; omega
  have h8 : (n != 8) = true := by have := hn 8 (by simp [Sz]); simp; omega
  clear ha hn
  unfold wv
  go_enter Try.func24, Try.ntmps24
  go_wp2
  go_region
  all_goals
    go_wp2
    refine bodyPost_ret (results_tmp_row rfl _ _ (w.heap.size + 1) 57 #[.slice A ms.length c, .int .i64 2] (0, 0) _ rfl (heap_alloc2_new _ _ _) Try.underlying57 rfl sizeR) rfl ?_
    exact ⟨_, rfl, A, c, rfl, (HA.out.alloc _).alloc _, hc, (((Below.refl _ _).alloc (Nat.le_refl _) _).alloc (by simp) _).drew⟩
set_option maxHeartbeats 1000000 in
theorem qread_of (B k' : Nat) (ms xs ms' : List UInt8) (A : Option Addr) (c n : Nat) (hs : Sz n) (hx : xs.length ≤ 8) (w : World) (hB : B ≤ w.heap.size)
    (ht : ∀ W, Below w.heap.size w W → Calls Try.prog 28 #[wv A ms.length c 0, .int .i64 n] W fun e w' => ∃ x, e = .returned x ∧ QOut B k' xs ms' W x w') :
    Calls Try.prog 24 #[wv A ms.length c 0, .int .i64 n] w fun e w' => ∃ x, e = .returned x ∧ QV B k' (.int .u64 (val xs)) ms' w x w' := by
  obtain ⟨W0, hW0⟩ : ∃ W0, W0 = (w.alloc (.cells #[.slice A ms.length c, .int .i64 0] 57)).alloc (.cells #[.slice none 0 0, .int .i64 0] 57) := ⟨_, rfl⟩
  have hb0 : Below w.heap.size w W0 := by rw [hW0]; exact ((Below.refl _ _).alloc (Nat.le_refl _) _).alloc (by simp) _
  have ha0 : At W0 w.heap.size #[.slice A ms.length c, .int .i64 0] 57 := by rw [hW0]; exact heap_alloc2_old _ _ _
  have hr0 : At W0 (w.heap.size + 1) #[.slice none 0 0, .int .i64 0] 57 := by rw [hW0]; exact heap_alloc2_new _ _ _
  have HT := hid (ht W0 hb0)
  unfold wv at HT ⊢
  have HB0 := hid hb0
  have HA0 := hid ha0
  have HR0 := hid hr0
  clear ht hb0 ha0 hr0
  subst hW0
  rcases hs with rfl | rfl | rfl | rfl
  all_goals
    go_enter Try.func24, Try.ntmps24
    go_wp2_with (go_at_call 28; refine HT.out.mono ?_; rintro e w1 ⟨x, rfl, A1, c1, A2, c2, rfl, h1⟩; unfold wv; have a1 := HA0.out.new_ h1.2.2.2; have r1 := HR0.out.new_ h1.2.2.2; have d0 := a1.cell 0; have d1 := a1.cell 1; have f0 := a1.frozen 0; have f1 := a1.frozen 1; have e0 := r1.cell 0; have e1 := r1.cell 1; have g0 := r1.frozen 0; have g1 := r1.frozen 1; simp at d0 d1 e0 e1; replace h1 := hid h1; replace a1 := hid a1; replace r1 := hid r1)
    have HF := hid ((((Fr.refl (fun k => k = w.heap.size) w1).setCell (p := ⟨w.heap.size, 0, none⟩) (.inr rfl) (.slice A2 ms'.length c2)).setCell (p := ⟨w.heap.size, 1, none⟩) (.inr rfl) (.int .i64 k')).drew)
    have hv := hid (qvalue_any xs A1 c1 B hx _ (h1.out.1.frB HF.out (fun k hk he => by omega)))
    go_region_law (go_simp; go_at_call 44; refine hv.out.mono ?_; rintro e w2 ⟨rfl, rfl⟩)
    all_goals
      go_wp2
      have hAt := (((r1.out.far (p := ⟨w.heap.size, 0, none⟩) (by simp) (.slice A2 ms'.length c2)).far (p := ⟨w.heap.size, 1, none⟩) (by simp) (.int .i64 k')).put 0 (.slice A2 ms'.length c2)).put 1 (.int .i64 k')
      have f1 : Fr (fun _ => False) w w1 := (Fr.of_new HB0.out).trans (Fr.of_new h1.out.2.2.2)
      have f2 := (((((Fr.refl (fun k => w.heap.size ≤ k) w1).setCell (p := ⟨w.heap.size, 0, none⟩) (.inr (Nat.le_refl _)) (.slice A2 ms'.length c2)).setCell (p := ⟨w.heap.size, 1, none⟩) (.inr (Nat.le_refl _)) (.int .i64 k')).setCell (p := ⟨w.heap.size + 1, 0, none⟩) (.inr (Nat.le_succ _)) (.slice A2 ms'.length c2)).setCell (p := ⟨w.heap.size + 1, 1, none⟩) (.inr (Nat.le_succ _)) (.int .i64 k')).drew
      refine bodyPost_ret (results_tmp_row rfl _ _ (w.heap.size + 1) 57 #[.slice A2 ms'.length c2, .int .i64 k'] (0, 0) _ rfl hAt Try.underlying57 rfl sizeR) rfl ?_
      exact ⟨_, rfl, A2, c2, rfl, h1.out.2.1.frB f2 (fun k hk he => by omega), h1.out.2.2.1, ((Fr.mono f1 (fun _ _ h => h.elim)).trans f2).below (fun _ h => h) (Nat.le_refl _)⟩
end Go.Proofs.Ytmgdngpdgjdicaa
