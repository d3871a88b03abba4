/-
  The document's own reader: fields, flags, what is left, the end.
-/
import Derived.Test.YtmgdngpdgjdicaaQn
import Derived.IntWalk
namespace Go.Proofs.Ytmgdngpdgjdicaa
open Go.RowKit

set_option maxHeartbeats 1000000 in
theorem qbool_done (B k : Nat) (ms : List UInt8) (A : Option Addr) (c : Nat) (hk : k ≠ 0) (w : World) (ha : Rb w B A ms) (hc : ms.length ≤ c) :
    Calls Try.prog 32 #[wv A ms.length c k] w fun e w' => ∃ x, e = .returned x ∧ QV B k (.bool false) ms w x w' := by
  have HA := hid ha
  have hd : ((k : Int) != 0) = true := by simp; omega
  clear ha hk
  unfold wv
  go_enter Try.func32, Try.ntmps32
  go_wp2
  go_region
  all_goals
    go_wp2
    refine bodyPost_ret (results_tmp_row rfl _ _ (w.heap.size + 1) 57 #[.slice A ms.length c, .int .i64 k] (0, 0) _ rfl (heap_alloc2_new _ _ _) Try.underlying57 rfl sizeR) rfl ?_
    exact ⟨_, rfl, A, c, rfl, (HA.out.alloc _).alloc _, hc, (((Below.refl _ _).alloc (Nat.le_refl _) _).alloc (by simp) _).drew⟩
set_option maxHeartbeats 1000000 in
theorem qbool_none (B : Nat) (A : Option Addr) (c : Nat) (w : World) :
    Calls Try.prog 32 #[wv A 0 c 0] w fun e w' => ∃ x, e = .returned x ∧ QV B 2 (.bool false) [] w x w' := by
  unfold wv
  go_enter Try.func32, Try.ntmps32
  go_wp2
  go_region
  all_goals
    go_wp2
    refine bodyPost_ret (results_tmp_row rfl _ _ (w.heap.size + 1) 57 #[.slice A 0 c, .int .i64 2] (0, 0) _ rfl (heap_alloc2_new _ _ _) Try.underlying57 rfl sizeR) rfl ?_
    exact ⟨_, rfl, A, c, rfl, Rd.nil _ _ _, by simp, (((Below.refl _ _).alloc (Nat.le_refl _) _).alloc (by simp) _).drew⟩
set_option maxHeartbeats 1000000 in
theorem qbool_bad (B : Nat) (ms : List UInt8) (A : Option Addr) (c : Nat) (w : World) (hl : 0 < ms.length) (ha : Rb w B A ms) (hc : ms.length ≤ c) (hb : 1 < ms[0].toNat) :
    Calls Try.prog 32 #[wv A ms.length c 0] w fun e w' => ∃ x, e = .returned x ∧ QV B 2 (.bool false) ms w x w' := by
  have HA := hid ha
  obtain ⟨b, o, rfl, hbB, hcell⟩ := Rd.at_ (((ha.alloc (.cells #[.slice A ms.length c, .int .i64 0] 57)).alloc (.cells #[.slice none 0 0, .int .i64 0] 57))) (ubs_at hl)
  obtain ⟨v, hv⟩ : ∃ v, v = ms[0].toNat := ⟨_, rfl⟩
  have hne : ms.length ≠ 0 := by omega
  rw [← hv] at hb
  rw [← hv, Nat.add_zero] at hcell
  clear ha hv
  unfold wv
  go_enter Try.func32, Try.ntmps32
  go_wp2
  go_region
  all_goals
    go_wp2
    refine bodyPost_ret (results_tmp_row rfl _ _ (w.heap.size + 1) 57 #[.slice (some ⟨b, o, none⟩) ms.length c, .int .i64 2] (0, 0) _ rfl (heap_alloc2_new _ _ _) Try.underlying57 rfl sizeR) rfl ?_
    exact ⟨_, rfl, _, c, rfl, (HA.out.alloc _).alloc _, hc, (((Below.refl _ _).alloc (Nat.le_refl _) _).alloc (by simp) _).drew⟩
set_option maxHeartbeats 1000000 in
theorem qbool_good (B : Nat) (ms : List UInt8) (A : Option Addr) (c : Nat) (w : World) (hl : 0 < ms.length) (ha : Rb w B A ms) (hc : ms.length ≤ c) (hb : ms[0].toNat ≤ 1) :
    Calls Try.prog 32 #[wv A ms.length c 0] w fun e w' => ∃ x, e = .returned x ∧ QV B 0 (.bool ((ms[0].toNat : Int) == 1)) (ms.drop 1) w x w' := by
  have HA := hid ha
  obtain ⟨b, o, rfl, hbB, hcell⟩ := Rd.at_ (((ha.alloc (.cells #[.slice A ms.length c, .int .i64 0] 57)).alloc (.cells #[.slice none 0 0, .int .i64 0] 57))) (ubs_at hl)
  obtain ⟨v, hv⟩ : ∃ v, v = ms[0].toNat := ⟨_, rfl⟩
  have hne : ms.length ≠ 0 := by omega
  rw [← hv] at hb
  have hd : decide (1 < v) = false := by simp; omega
  have hdi : decide ((1 : Int) < (v : Int)) = false := by simp; omega
  have hni : ((ms.length : Int) == 0) = false := by rw [beq_eq_false_iff_ne]; omega
  have hm1 : ¬ (ms.length : Int) < 1 := by omega
  rw [← hv] at hcell ⊢
  rw [Nat.add_zero] at hcell
  clear ha hv hb
  unfold wv
  go_enter Try.func32, Try.ntmps32
  by_cases hc1 : c = 1
  · subst hc1
    go_wp2
    go_region
    all_goals
      go_wp2
      have hd : ms.drop 1 = [] := List.drop_eq_nil_of_le hc
      refine bodyPost_ret (results_tmp_row rfl _ _ (w.heap.size + 1) 57 #[.slice (some ⟨b, o, none⟩) 0 0, .int .i64 0] (0, 0) _ rfl (heap_alloc2_new _ _ _) Try.underlying57 rfl sizeR) rfl ?_
      exact ⟨_, rfl, _, 0, by rw [hd]; rfl, by rw [hd]; exact Rd.nil _ _ _, by rw [hd]; simp, (((Below.refl _ _).alloc (Nat.le_refl _) _).alloc (by simp) _).drew⟩
  · have hci : ((c : Int) == 1) = false := by simp; omega
    have hcd : decide (c = 1) = false := by simpa using hc1
    go_wp2
    go_region
    all_goals
      go_wp2
      have h1 := rb_drop HA.out (n := 1) (cap := c) (by omega) hc
      rw [if_neg hc1] at h1
      refine bodyPost_ret (results_tmp_row rfl _ _ (w.heap.size + 1) 57 #[.slice (some ⟨b, o + 1, none⟩) (ms.length - 1) (c - 1), .int .i64 0] (0, 0) _ rfl (heap_alloc2_new _ _ _) Try.underlying57 rfl sizeR) rfl ?_
      exact ⟨_, rfl, _, c - 1, by rw [List.length_drop]; rfl, (h1.alloc _).alloc _, by rw [List.length_drop]; omega, (((Below.refl _ _).alloc (Nat.le_refl _) _).alloc (by simp) _).drew⟩
theorem qleft_any (ms : List UInt8) (A : Option Addr) (c k : Nat) (w : World) :
    Calls Try.prog 36 #[wv A ms.length c k] w fun e w' => e = .returned (.int .i64 (if k = 0 then ms.length else 0 : Nat)) ∧ Below w.heap.size w w' := by
  unfold wv
  by_cases hk : k = 0
  · subst hk
    go_enter Try.func36, Try.ntmps36
    go_wp2
    go_ret
    exact ⟨rfl, (Below.refl _ _).alloc (Nat.le_refl _) _⟩
  · have hd : ((k : Int) != 0) = true := by simp; omega
    rw [if_neg hk]
    clear hk
    go_enter Try.func36, Try.ntmps36
    go_wp2
    go_ret
    exact ⟨rfl, (Below.refl _ _).alloc (Nat.le_refl _) _⟩
theorem qend_any (n : Nat) (A : Option Addr) (c k : Nat) (w : World) :
    Calls Try.prog 38 #[wv A n c k] w fun e w' => e = .returned (.int .i64 (if k = 0 then (if n = 0 then 0 else 2) else k : Nat)) ∧ Below w.heap.size w w' := by
  unfold wv
  by_cases hk : k = 0
  · subst hk
    rw [if_pos rfl]
    by_cases hn : n = 0
    · subst hn
      rw [if_pos rfl]
      go_enter Try.func38, Try.ntmps38
      go_wp2
      go_ret
      exact ⟨rfl, (Below.refl _ _).alloc (Nat.le_refl _) _⟩
    · rw [if_neg hn]
      have hd : 0 < n := by omega
      clear hn
      go_enter Try.func38, Try.ntmps38
      go_wp2
      go_ret
      exact ⟨rfl, (Below.refl _ _).alloc (Nat.le_refl _) _⟩
  · have hd : ((k : Int) != 0) = true := by simp; omega
    rw [if_neg hk]
    clear hk
    go_enter Try.func38, Try.ntmps38
    go_wp2
    go_ret
    exact ⟨rfl, (Below.refl _ _).alloc (Nat.le_refl _) _⟩
set_option maxHeartbeats 1000000 in
theorem qfield_done (B k : Nat) (ms : List UInt8) (A : Option Addr) (c : Nat) (n : Int) (hk : k ≠ 0) (w : World) (ha : Rb w B A ms) (hc : ms.length ≤ c) :
    Calls Try.prog 26 #[wv A ms.length c k, .int .i64 n] w fun e w' => ∃ x, e = .returned x ∧ QOut B k [] ms w x w' := by
  have HA := hid ha
  have hd : ((k : Int) != 0) = true := by simp; omega
  clear ha hk
  unfold wv
  go_enter Try.func26, Try.ntmps26
  go_wp2
  go_region
  all_goals
    go_wp2
    refine bodyPost_ret (results_tmp_row rfl _ _ (w.heap.size + 1) 57 #[.slice A ms.length c, .int .i64 k] (0, 0) _ rfl (heap_alloc2_new _ _ _) Try.underlying57 rfl sizeR) rfl ?_
    exact ⟨_, rfl, none, 0, A, c, rfl, Rd.nil _ _ _, (HA.out.alloc _).alloc _, hc, (((Below.refl _ _).alloc (Nat.le_refl _) _).alloc (by simp) _).drew⟩
set_option maxHeartbeats 1000000 in
theorem qfield_short (B : Nat) (ms : List UInt8) (A : Option Addr) (c : Nat) (n : Int) (hl : ms.length < 2) (w : World) (ha : Rb w B A ms) (hc : ms.length ≤ c) :
    Calls Try.prog 26 #[wv A ms.length c 0, .int .i64 n] w fun e w' => ∃ x, e = .returned x ∧ QOut B 2 [] ms w x w' := by
  have HA := hid ha
  have hd : decide ((2 : Int) ≤ ms.length) = false := by simp; omega
  clear ha hl
  unfold wv
  go_enter Try.func26, Try.ntmps26
  go_wp2
  go_region
  all_goals
    go_wp2
    refine bodyPost_ret (results_tmp_row rfl _ _ (w.heap.size + 1) 57 #[.slice A ms.length c, .int .i64 2] (0, 0) _ rfl (heap_alloc2_new _ _ _) Try.underlying57 rfl sizeR) rfl ?_
    exact ⟨_, rfl, none, 0, A, c, rfl, Rd.nil _ _ _, (HA.out.alloc _).alloc _, hc, (((Below.refl _ _).alloc (Nat.le_refl _) _).alloc (by simp) _).drew⟩
set_option maxHeartbeats 1000000 in
theorem qfield_bad (B : Nat) (ms : List UInt8) (A : Option Addr) (c : Nat) (n : Int) (hl : 2 ≤ ms.length) (hl9 : ms.length ≤ 1000000000) (hn : n < val (ms.take 2) ∨ ms.length < 2 + val (ms.take 2)) (w : World) (ha : Rb w B A ms) (hc : ms.length ≤ c) :
    Calls Try.prog 26 #[wv A ms.length c 0, .int .i64 n] w fun e w' => ∃ x, e = .returned x ∧ QOut B 2 [] ms w x w' := by
  have HA := hid ha
  have h2 : (ms.take 2).length = 2 := by rw [List.length_take]; omega
  obtain ⟨v, hv⟩ : ∃ v, v = val (ms.take 2) := ⟨_, rfl⟩
  have hv9 : v < 65536 := by have := val_lt (ms.take 2); rw [h2] at this; rw [hv]; simpa using this
  have HV := hid (qvalue_any (ms.take 2) A c B (by omega) _ ((((rb_take ha 2).alloc (.cells #[.slice A ms.length c, .int .i64 0] 57)).alloc (.cells #[.slice none 0 0, .int .i64 0] 57))))
  rw [h2, ← hv] at HV
  rw [← hv] at hn
  clear ha h2 hv
  by_cases h1 : (v : Int) ≤ n
  · have hd : decide ((v : Int) ≤ (ms.length : Int) - 2) = false := by simp; omega
    clear hn
    unfold wv
    go_enter Try.func26, Try.ntmps26
    go_wp2_with (go_at_call 44; refine HV.out.mono ?_; rintro e w2 ⟨rfl, rfl⟩)
    go_region
    all_goals
      go_wp2
      refine bodyPost_ret (results_tmp_row rfl _ _ (w.heap.size + 1) 57 #[.slice A ms.length c, .int .i64 2] (0, 0) _ rfl (heap_alloc2_new _ _ _) Try.underlying57 rfl sizeR) rfl ?_
      exact ⟨_, rfl, none, 0, A, c, rfl, Rd.nil _ _ _, (HA.out.alloc _).alloc _, hc, (((Below.refl _ _).alloc (Nat.le_refl _) _).alloc (by simp) _).drew⟩
  · have hd : decide ((v : Int) ≤ n) = false := by simpa using h1
    clear hn h1
    unfold wv
    go_enter Try.func26, Try.ntmps26
    go_wp2_with (go_at_call 44; refine HV.out.mono ?_; rintro e w2 ⟨rfl, rfl⟩)
    go_region
    all_goals
      go_wp2
      refine bodyPost_ret (results_tmp_row rfl _ _ (w.heap.size + 1) 57 #[.slice A ms.length c, .int .i64 2] (0, 0) _ rfl (heap_alloc2_new _ _ _) Try.underlying57 rfl sizeR) rfl ?_
      exact ⟨_, rfl, none, 0, A, c, rfl, Rd.nil _ _ _, (HA.out.alloc _).alloc _, hc, (((Below.refl _ _).alloc (Nat.le_refl _) _).alloc (by simp) _).drew⟩
set_option maxHeartbeats 1000000 in
theorem qfield_good (B : Nat) (ms : List UInt8) (A : Option Addr) (c : Nat) (n : Int) (hl : 2 ≤ ms.length) (hl9 : ms.length ≤ 1000000000) (v : Nat) (hv : v = val (ms.take 2)) (hn : (v : Int) ≤ n) (hm : 2 + v ≤ ms.length) (w : World) (ha : Rb w B A ms) (hc : ms.length ≤ c) :
    Calls Try.prog 26 #[wv A ms.length c 0, .int .i64 n] w fun e w' => ∃ x, e = .returned x ∧ QOut B 0 ((ms.drop 2).take v) (ms.drop (2 + v)) w x w' := by
  obtain ⟨b, o, rfl, hbB, -⟩ := Rd.at_ ha (ubs_at (bs := ms) (i := 0) (by omega))
  have HA := hid ha
  have h2 : (ms.take 2).length = 2 := by rw [List.length_take]; omega
  have hv9 : v < 65536 := by have := val_lt (ms.take 2); rw [h2] at this; rw [hv]; simpa using this
  have HV := hid (qvalue_any (ms.take 2) (some ⟨b, o, none⟩) c B (by omega) _ ((((rb_take ha 2).alloc (.cells #[.slice (some ⟨b, o, none⟩) ms.length c, .int .i64 0] 57)).alloc (.cells #[.slice none 0 0, .int .i64 0] 57))))
  rw [h2, ← hv] at HV
  clear ha h2 hv
  have hd : (v : Int) ≤ (ms.length : Int) - 2 := by omega
  unfold wv
  go_enter Try.func26, Try.ntmps26
  go_wp2_with (go_at_call 44; refine HV.out.mono ?_; rintro e w2 ⟨rfl, rfl⟩)
  have s1 : IntKind.i64.wrap (2 + (v : Int)) = 2 + v := IntWalk.i64_in _ (by omega)
  have s2 : (0 : Int) ≤ 2 + v := by omega
  have s3 : (2 + (v : Int)).toNat = 2 + v := by omega
  have s4 : (2 : Int) ≤ 2 + v := by omega
  have s5 : 2 + (v : Int) ≤ c := by omega
  have s6 : 2 + (v : Int) ≤ ms.length := by omega
  have hln : ((ms.drop 2).take v).length = v := by rw [List.length_take, List.length_drop]; omega
  have HLN := hid hln
  clear hln
  by_cases hc2 : c = 2
  · obtain rfl : v = 0 := by omega
    subst hc2
    go_region
    all_goals
      go_wp2
      have hd : ms.drop 2 = [] := List.drop_eq_nil_of_le hc
      refine bodyPost_ret (results_tmp_row rfl _ _ (w.heap.size + 1) 57 #[.slice (some ⟨b, o, none⟩) 0 0, .int .i64 0] (0, 0) _ rfl (heap_alloc2_new _ _ _) Try.underlying57 rfl sizeR) rfl ?_
      exact ⟨_, rfl, _, 0, _, 0, by rw [Nat.add_zero, hd]; rfl, by rw [hd]; exact Rd.nil _ _ _, by rw [Nat.add_zero, hd]; exact Rd.nil _ _ _, by rw [Nat.add_zero, hd]; simp, (((Below.refl _ _).alloc (Nat.le_refl _) _).alloc (by simp) _).drew⟩
  · have h1 := rb_drop HA.out (n := 2) (cap := c) (by omega) hc
    rw [if_neg hc2] at h1
    simp only [Option.map_some, add_plain] at h1
    have H1 := hid (rb_take h1 v)
    clear h1
    by_cases hcv : c = 2 + v
    · have hq1 : decide (c = 2) = false := by simpa using hc2
      have hq2 : decide (c = 2 + v) = true := by simpa using hcv
      have HCV := hid hcv
      have HCC := hid hc
      go_region
      all_goals
        go_wp2
        have hd : ms.drop (2 + v) = [] := List.drop_eq_nil_of_le (by have := HCV.out; have := HCC.out; omega)
        refine bodyPost_ret (results_tmp_row rfl _ _ (w.heap.size + 1) 57 #[.slice (some ⟨b, o, none⟩) (ms.length - (2 + v)) 0, .int .i64 0] (0, 0) _ rfl (heap_alloc2_new _ _ _) Try.underlying57 rfl sizeR) rfl ?_
        exact ⟨_, rfl, _, v, _, 0, by rw [HLN.out, List.length_drop]; rfl, (H1.out.alloc _).alloc _, by rw [hd]; exact Rd.nil _ _ _, by rw [hd]; simp, (((Below.refl _ _).alloc (Nat.le_refl _) _).alloc (by simp) _).drew⟩
    · have hq1 : decide (c = 2) = false := by simpa using hc2
      have hq2 : decide (c = 2 + v) = false := by simpa using hcv
      have h3 := rb_drop HA.out (n := 2 + v) (cap := c) (by omega) hc
      rw [if_neg hcv] at h3
      simp only [Option.map_some, add_plain] at h3
      have H3 := hid h3
      clear h3
      go_region
      all_goals
        go_wp2
        refine bodyPost_ret (results_tmp_row rfl _ _ (w.heap.size + 1) 57 #[.slice (some ⟨b, o + (2 + v), none⟩) (ms.length - (2 + v)) (c - (2 + v)), .int .i64 0] (0, 0) _ rfl (heap_alloc2_new _ _ _) Try.underlying57 rfl sizeR) rfl ?_
        exact ⟨_, rfl, _, c - 2, _, c - (2 + v), by rw [HLN.out, List.length_drop]; rfl, (H1.out.alloc _).alloc _, (H3.out.alloc _).alloc _, by rw [List.length_drop]; omega, (((Below.refl _ _).alloc (Nat.le_refl _) _).alloc (by simp) _).drew⟩
end Go.Proofs.Ytmgdngpdgjdicaa
