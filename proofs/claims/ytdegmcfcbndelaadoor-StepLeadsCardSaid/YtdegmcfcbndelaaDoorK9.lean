/-
  Layer 10, the program's side: the text that is joined lies in new memory; checkCounts; what a stack of hashes holds; slices of hashes cut.
  Layer 10, the program's side: what climb hands to the walk.
  Layer 10, the program's side: two hashes are joined.
  Layer 10, the program's side: climb, whoever is handed the texts.
  Layer 10, the program's side: Root, Check, Texts.
  Layer 10, the program's side: Texts.
-/
import Derived.Test.YtdegmcfcbndelaaDoorK6
import Derived.Test.YtdegmcfcbndelaaDoorK8
import Derived.Test.YtdegmcfcbndelaaDoorJ6
import Derived.Test.YtdegmcfcbndelaaDoorY4
import Derived.Test.YtdegmcfcbndelaaDoorV3
import Derived.Test.YtdegmcfcbndelaaDoorK4
namespace Go.Proofs.YtdegmcfcbndelaaDoor
open Go.RowKit

set_option maxRecDepth 100000 in
set_option maxHeartbeats 2000000 in
theorem pjoinText_own (k : Nat) (l r : List UInt8) (w : World) (hk1 : 1 ≤ k) (hk2 : k ≤ 32) (hl : l.length = 32) (hr : r.length = 32) :
    Calls Tryd.prog 68 #[.int .i64 (k : Int), .agg (ubs l).toArray, .agg (ubs r).toArray] w fun e w' => ∃ A c, e = .returned (.tuple #[.slice A 66 c, .nilIface]) ∧ Rb w' w'.heap.size A (joinT k l r) ∧ (∀ q, (Value.slice A 66 c).ownBlock = some q → w.heap.size ≤ q ∧ q < w'.heap.size) ∧ Below w.heap.size w w' := by
  obtain ⟨w0, hw0⟩ : ∃ w0, w0 = (w.alloc (.cells (ubs l).toArray 25)).alloc (.cells (ubs r).toArray 25) := ⟨_, rfl⟩
  have hx0 : At w0 w.heap.size (ubs l).toArray 25 := by rw [hw0]; exact (At.new _ _ _).alloc _
  have hy0 : At w0 (w.heap.size + 1) (ubs r).toArray 25 := by rw [hw0]; exact At.new_at (by simp)
  have hb0 : Below w.heap.size w w0 := by rw [hw0]; exact ((Below.refl _ _).alloc (Nat.le_refl _) _).alloc (by simp) _
  have HX := hid (fun (W : World) (h : Below w0.heap.size w0 W) => (⟨hx0.new_ h, hy0.new_ h⟩ : At W w.heap.size (ubs l).toArray 25 ∧ At W (w.heap.size + 1) (ubs r).toArray 25))
  have HB0 := hid hb0
  have HJ := hid (show Calls Tryd.prog 92 #[.int .i64 (k : Int)] w0 (fun r w' => r = .returned (.bool true) ∧ w' = w0) from by
    have := pjoined_any (k : Int) w0
    rwa [show htB (k : Int) = true by rw [htB, decide_eq_true (by omega), decide_eq_true (by omega)]; rfl] at this)
  have HBG := hid (show Calls Tryd.prog 93 #[.int .u64 3] w0.drew (fun r w' => r = .returned (.pointer (some ⟨w0.heap.size, 0, none⟩)) ∧ WN w0 [2] w') from (pbegin_any 2 w0.drew (by omega)).mono fun r w' ⟨h1, h2⟩ => ⟨h1, h2.undrew⟩)
  have HN := hid (fun (W : World) (h : WN w0 [2] W) => show Calls Tryd.prog 94 #[.pointer (some ⟨w0.heap.size, 0, none⟩), .int .u64 (k : Int), .int .i64 1] W (fun e' w' => e' = .returned (.pointer (some ⟨w0.heap.size, 0, none⟩)) ∧ WN w0 [2, UInt8.ofNat k] w') from by
    have := wn_num h k 1 (by unfold Sz; omega) (by omega) (by simp)
    rw [← be_toBE, be_one] at this
    exact this)
  have HL := hid (fun (W : World) (h : WN w0 [2, UInt8.ofNat k] W) => show Calls Tryd.prog 95 #[.pointer (some ⟨w0.heap.size, 0, none⟩), .agg (ubs l).toArray] W (fun e' w' => e' = .returned (.pointer (some ⟨w0.heap.size, 0, none⟩)) ∧ WN w0 ([2, UInt8.ofNat k] ++ l) w') from wn_hash l h hl (by simp))
  have HR := hid (fun (W : World) (h : WN w0 ([2, UInt8.ofNat k] ++ l) W) => show Calls Tryd.prog 95 #[.pointer (some ⟨w0.heap.size, 0, none⟩), .agg (ubs r).toArray] W (fun e' w' => e' = .returned (.pointer (some ⟨w0.heap.size, 0, none⟩)) ∧ WN w0 (joinT k l r) w') from by
    have := wn_hash r h hr (by simp [hl])
    rwa [show ([2, UInt8.ofNat k] ++ l) ++ r = joinT k l r from rfl] at this)
  have HDN := hid (fun (W : World) (h : WN w0 (joinT k l r) W) => by
    have := wn_done h (by rw [joinT_length k l r hl hr]; omega)
    rw [joinT_length k l r hl hr] at this
    exact this)
  have ew : IntKind.u64.wrap (k : Int) = (k : Int) := wrapN64 k (by omega)
  have HLL := hid hl
  have HRL := hid hr
  generalize [2, UInt8.ofNat k] = b1 at HN HL HR
  generalize b1 ++ l = b2 at HL HR
  generalize joinT k l r = jt at HR HDN ⊢
  have hk := hid hk2
  clear hx0 hy0 hb0 hk1 hk2 hl hr
  go_enter Tryd.func68, Tryd.ntmps68
  go_upto_region 3 with (first
    | (rw [← hw0]; clear hw0; go_at_call 92; refine HJ.out.mono ?_; rintro e1 w1 ⟨rfl, rfl⟩))
  try simp only [Act.put, List.setIfInBounds_toArray, List.set_cons_succ, List.set_cons_zero]
  refine wp_region_upto (fun W => At W w.heap.size (ubs l).toArray 25 ∧ At W (w.heap.size + 1) (ubs r).toArray 25) 13 13 (by kernel_rfl) (by kernel_rfl) ?_
  have AT := hid (show WB w1 w1.drew from ⟨trivial, (Below.refl _ _).drew⟩)
  refine wpUpto_takeL (i := 1) (v := .int .i64 (k : Int)) rfl rfl (by decide +kernel) (by decide +kernel) (by decide +kernel) (by decide +kernel) (by decide) (fun _ _ _ h => h) (Or.inl ⟨by rfl, ?_⟩) (HX.out _ AT.out.2) ?_
  · (intro W hSW; go_simp)
  simp only [List.set_cons_succ, List.set_cons_zero]
  refine wpUpto_takeL (i := 2) (v := .int .u64 (k : Int)) rfl rfl (by decide +kernel) (by decide +kernel) (by decide +kernel) (by decide +kernel) (by decide) (fun _ _ _ h => h) (Or.inl ⟨by rfl, ?_⟩) (HX.out _ AT.out.2) ?_
  · (intro W hSW; go_simp)
  simp only [List.set_cons_succ, List.set_cons_zero]
  refine wpUpto_takeL (i := 4) (v := .agg (ubs l).toArray) rfl rfl (by decide +kernel) (by decide +kernel) (by decide +kernel) (by decide +kernel) (by decide) (fun _ _ _ h => h) (Or.inl ⟨by rfl, ?_⟩) (HX.out _ AT.out.2) ?_
  · (intro W hSW; exact run_loadH (.tmp 4) rfl w.heap.size 0 rfl l (range_whole hSW.1) HLL.out)
  simp only [List.set_cons_succ, List.set_cons_zero]
  refine wpUpto_takeL (i := 6) (v := .agg (ubs r).toArray) rfl rfl (by decide +kernel) (by decide +kernel) (by decide +kernel) (by decide +kernel) (by decide) (fun _ _ _ h => h) (Or.inl ⟨by rfl, ?_⟩) (HX.out _ AT.out.2) ?_
  · (intro W hSW; exact run_loadH (.tmp 5) rfl (w.heap.size + 1) 0 rfl r (range_whole hSW.2) HRL.out)
  simp only [List.set_cons_succ, List.set_cons_zero]
  refine wpUpto_one (i := 0) rfl (by decide +kernel) rfl ?_
  intro Q0 hQ0
  go_simp
  go_at_call 93
  refine (HBG.out).mono ?_
  rintro e1 v1 ⟨rfl, h1⟩
  have W1 := hid h1
  clear h1 AT
  refine hQ0.out _ _ (fun _ => HX.out _ W1.out.2) ?_
  clear hQ0 Q0
  refine wpUpto_one (i := 3) rfl (by decide +kernel) rfl ?_
  intro Q0 hQ0
  go_simp
  go_at_call 94
  refine (HN.out v1 W1.out).mono ?_
  rintro e1 v2 ⟨rfl, h2⟩
  have W2 := hid h2
  clear h2
  refine hQ0.out _ _ (fun _ => HX.out _ W2.out.2) ?_
  clear hQ0 Q0
  refine wpUpto_one (i := 5) rfl (by decide +kernel) rfl ?_
  intro Q0 hQ0
  go_simp
  go_at_call 95
  refine (HL.out v2 W2.out).mono ?_
  rintro e1 v3 ⟨rfl, h3⟩
  have W3 := hid h3
  clear h3
  refine hQ0.out _ _ (fun _ => HX.out _ W3.out.2) ?_
  clear hQ0 Q0
  refine wpUpto_one (i := 7) rfl (by decide +kernel) rfl ?_
  intro Q0 hQ0
  go_simp
  go_at_call 95
  refine (HR.out v3 W3.out).mono ?_
  rintro e1 v4 ⟨rfl, h4⟩
  have W4 := hid h4
  clear h4
  refine hQ0.out _ _ (fun _ => HX.out _ W4.out.2) ?_
  clear hQ0 Q0
  refine wpUpto_one (i := 8) rfl (by decide +kernel) rfl ?_
  intro Q0 hQ0
  go_simp
  go_at_call 96
  refine (HDN.out v4 W4.out).mono ?_
  rintro e1 v5 ⟨A, c, rfl, h5⟩
  have AT := hid (show WB w1 v5 from ⟨trivial, h5.2.2⟩)
  have W5 := hid h5
  clear h5
  refine hQ0.out _ _ (fun _ => HX.out _ AT.out.2) ?_
  clear hQ0 Q0
  try simp only [Act.put, List.setIfInBounds_toArray, List.set_cons_succ, List.set_cons_zero]
  refine wpUpto_takeL (i := 9) (v := .slice A 66 c) rfl rfl (by decide +kernel) (by decide +kernel) (by decide +kernel) (by decide +kernel) (by decide) (fun _ _ _ h => h) (Or.inl ⟨by rfl, ?_⟩) (HX.out _ AT.out.2) ?_
  · (intro W hSW; go_simp)
  simp only [List.set_cons_succ, List.set_cons_zero]
  refine wpUpto_takeL (i := 10) (v := .nilIface) rfl rfl (by decide +kernel) (by decide +kernel) (by decide +kernel) (by decide +kernel) (by decide) (fun _ _ _ h => h) (Or.inl ⟨by rfl, ?_⟩) (HX.out _ AT.out.2) ?_
  · (intro W hSW; go_simp)
  simp only [List.set_cons_succ, List.set_cons_zero]
  refine wpUpto_takeL (i := 11) (v := .slice A 66 c) rfl rfl (by decide +kernel) (by decide +kernel) (by decide +kernel) (by decide +kernel) (by decide) (fun _ _ _ h => h) (Or.inl ⟨by rfl, ?_⟩) (HX.out _ AT.out.2) ?_
  · (intro W hSW; go_simp)
  simp only [List.set_cons_succ, List.set_cons_zero]
  refine wpUpto_takeL (i := 12) (v := .nilIface) rfl rfl (by decide +kernel) (by decide +kernel) (by decide +kernel) (by decide +kernel) (by decide) (fun _ _ _ h => h) (Or.inl ⟨by rfl, ?_⟩) (HX.out _ AT.out.2) ?_
  · (intro W hSW; go_simp)
  simp only [List.set_cons_succ, List.set_cons_zero]
  refine wpUpto_done (by decide +kernel) ?_ _
  go_simp
  go_wp2
  go_ret2
  exact ⟨A, c, rfl, W5.out.2.1, fun q hq => by have h1 := World.ownsRow.lt W5.out.1 q hq; have h2 := HB0.out.size; omega, HB0.out.trans (W5.out.2.2.mono HB0.out.size)⟩
/-- The error's number of Root. -/
def ccB (h : Int) (l : List Nat) (nl nb : Nat) : Nat := if rgtB h l then (if nl = l.length then (if nb = (spotsS l h.toNat 0).length then 0 else 5) else 2) else 1
set_option maxRecDepth 100000 in
set_option maxHeartbeats 1000000 in
theorem pcheckcounts_any (h : Int) (l : List Nat) (A AL AB : Option Addr) (c nl cl nb cb : Nat) (W : World) (hr : Nu W W.heap.size A l) (hc : l.length ≤ c) :
    Calls Tryd.prog 102 #[.int .i64 h, .slice A l.length c, .slice AL nl cl, .slice AB nb cb] W fun r W' => r = .returned (errV (ccB h l nl nb)) ∧ Below W.heap.size W W' := by
  have HC := hid (pcount_any h l A c W hr hc)
  obtain ⟨n, hn⟩ : ∃ n, n = l.length := ⟨_, rfl⟩
  have e1 : errV 1 = .iface 42 (.int .i64 1) := rfl
  have e2 : errV 2 = .iface 42 (.int .i64 2) := rfl
  have e5 : errV 5 = .iface 42 (.int .i64 5) := rfl
  have e0 : errV 0 = .nilIface := rfl
  unfold ccB
  cases hg : rgtB h l with
  | false =>
    rw [hg, show eB false = errV 1 from rfl, e1] at HC
    rw [if_neg (by decide), e1]
    rw [← hn] at HC ⊢
    clear hr hc hg e1 e2 e5 e0 hn
    go_enter Tryd.func102, Tryd.ntmps102
    go_wp2_with (first
      | (go_at_call 30; refine HC.out.mono ?_; rintro r1 w1 ⟨rfl, hb1⟩; have HB1 := hid hb1; clear hb1))
    go_ret
    exact ⟨rfl, HB1.out⟩
  | true =>
    rw [hg, show eB true = .nilIface from rfl, if_pos rfl] at HC
    rw [if_pos rfl]
    obtain ⟨m, hm⟩ : ∃ m, m = (spotsS l h.toNat 0).length := ⟨_, rfl⟩
    rw [← hm] at HC ⊢
    rw [← hn] at HC ⊢
    clear hr hc hg e1 hn hm
    by_cases h1 : nl = n
    · have k1 : decide ((nl : Int) = (n : Int)) = true := by simp; omega
      have k1b : ((nl : Int) == (n : Int)) = true := by simp; omega
      have k1c : ((nl : Int) != (n : Int)) = false := by simp; omega
      have k1d : (nl == n) = true := by simpa using h1
      have k1e : (nl != n) = false := by simpa using h1
      rw [if_pos h1]
      by_cases h2 : nb = m
      · have k2 : decide ((nb : Int) = (m : Int)) = true := by simp; omega
        have k2b : ((nb : Int) == (m : Int)) = true := by simp; omega
        have k2c : ((nb : Int) != (m : Int)) = false := by simp; omega
        have k2d : (nb == m) = true := by simpa using h2
        have k2e : (nb != m) = false := by simpa using h2
        rw [if_pos h2, e0]
        clear h1 h2 e0 e2 e5
        go_enter Tryd.func102, Tryd.ntmps102
        go_wp2_with (first
          | (go_at_call 30; refine HC.out.mono ?_; rintro r1 w1 ⟨rfl, hb1⟩; have HB1 := hid hb1; clear hb1))
        go_ret
        exact ⟨rfl, HB1.out⟩
      · have k2 : decide ((nb : Int) = (m : Int)) = false := by simp; omega
        have k2b : ((nb : Int) == (m : Int)) = false := by simp; omega
        have k2c : ((nb : Int) != (m : Int)) = true := by simp; omega
        have k2d : (nb == m) = false := by simpa using h2
        have k2e : (nb != m) = true := by simpa using h2
        rw [if_neg h2, e5]
        clear h1 h2 e0 e2 e5
        go_enter Tryd.func102, Tryd.ntmps102
        go_wp2_with (first
          | (go_at_call 30; refine HC.out.mono ?_; rintro r1 w1 ⟨rfl, hb1⟩; have HB1 := hid hb1; clear hb1))
        go_ret
        exact ⟨rfl, HB1.out⟩
    · have k1 : decide ((nl : Int) = (n : Int)) = false := by simp; omega
      have k1b : ((nl : Int) == (n : Int)) = false := by simp; omega
      have k1c : ((nl : Int) != (n : Int)) = true := by simp; omega
      have k1d : (nl == n) = false := by simpa using h1
      have k1e : (nl != n) = true := by simpa using h1
      rw [if_neg h1, e2]
      clear h1 e0 e2 e5
      go_enter Tryd.func102, Tryd.ntmps102
      go_wp2_with (first
        | (go_at_call 30; refine HC.out.mono ?_; rintro r1 w1 ⟨rfl, hb1⟩; have HB1 := hid hb1; clear hb1))
      go_ret
      exact ⟨rfl, HB1.out⟩
/-- The levels of what a walk reaches. -/
theorem walkE_levels : ∀ k p l, ∀ e ∈ walkE k p l, e.2.1 ≤ k ∧ (e.1 = 2 → 1 ≤ e.2.1)
  | 0, p, l, e, he => by
    by_cases h : l = []
    · rw [h, walkE_nil] at he
      obtain rfl : e = (0, 0, p) := by simpa using he
      exact ⟨Nat.le_refl _, fun h => by cases h⟩
    · rw [walkE_leaf h] at he
      obtain rfl : e = (1, 0, p) := by simpa using he
      exact ⟨Nat.le_refl _, fun h => by cases h⟩
  | k + 1, p, l, e, he => by
    by_cases h : l = []
    · rw [h, walkE_nil] at he
      obtain rfl : e = (0, k + 1, p) := by simpa using he
      exact ⟨Nat.le_refl _, fun h => by cases h⟩
    · rw [walkE_step h] at he
      rcases List.mem_append.1 he with he | he
      · have := walkE_levels k _ _ e he
        exact ⟨by omega, this.2⟩
      · rcases List.mem_append.1 he with he | he
        · have := walkE_levels k _ _ e he
          exact ⟨by omega, this.2⟩
        · obtain rfl : e = (2, k + 1, p) := by simpa using he
          exact ⟨Nat.le_refl _, fun _ => by show 1 ≤ k + 1; omega⟩
theorem kinds_left {E F : List Evt} (h : ∀ e ∈ E ++ F, e.1 = 0 ∨ e.1 = 1 ∨ e.1 = 2) : ∀ e ∈ E, e.1 = 0 ∨ e.1 = 1 ∨ e.1 = 2 := fun e he => h e (List.mem_append_left _ he)
/-- All on the stack are hashes. -/
theorem runM_32 {lv bes : List UInt8} {nl nb : Nat} (hl : lv.length = 32 * nl) (hb : bes.length = 32 * nb) : ∀ E : List Evt, (∀ e ∈ E, e.1 = 0 ∨ e.1 = 1 ∨ e.1 = 2) → (asides E).length ≤ nb → (leafs E).length ≤ nl → ∀ x ∈ (runM lv bes E).st, x.length = 32 := by
  refine rev_ind (fun _ _ _ x hx => by cases hx) fun E e ih hk ha hb' x hx => ?_
  have hab := runM_ab lv bes E (kinds_left hk)
  rw [asides_append, List.length_append] at ha
  rw [leafs_append, List.length_append] at hb'
  have ih' := ih (kinds_left hk) (by omega) (by omega)
  rw [runM_snoc] at hx
  obtain ⟨w, k, p⟩ := e
  rcases hk (w, k, p) (by simp) with h3 | h3 | h3
  · obtain rfl : w = 0 := h3
    rw [stepM_aside] at hx
    rcases List.mem_append.1 hx with hx | hx
    · exact ih' x hx
    · obtain rfl : x = hpart bes (runM lv bes E).a := by simpa using hx
      have e1 : (asides [((0, k, p) : Evt)]).length = 1 := rfl
      rw [e1] at ha
      exact hpart_length hb (by omega)
  · obtain rfl : w = 1 := h3
    rw [stepM_leaf] at hx
    rcases List.mem_append.1 hx with hx | hx
    · exact ih' x hx
    · obtain rfl : x = hpart lv (runM lv bes E).b := by simpa using hx
      have e1 : (leafs [((1, k, p) : Evt)]).length = 1 := rfl
      rw [e1] at hb'
      exact hpart_length hl (by omega)
  · obtain rfl : w = 2 := h3
    rw [stepM_join] at hx
    rcases List.mem_append.1 hx with hx | hx
    · exact ih' x (List.mem_of_mem_take hx)
    · obtain rfl : x = hashL (joinM k (runM lv bes E).st) := by simpa using hx
      exact hashL_length _
/-- As many texts as are gone from the stack. -/
theorem runM_tx (lv bes : List UInt8) : ∀ E : List Evt, okE E → (runM lv bes E).tx.length + (runM lv bes E).st.length = (asides E).length + (leafs E).length := by
  refine rev_ind (fun _ => rfl) fun E e ih h => ?_
  have h1 := ih h.left
  have h2 := h E e [] (by simp)
  have hn := runM_net lv bes E h.left
  obtain ⟨w, k, p⟩ := e
  rw [runM_snoc, asides_append, leafs_append, List.length_append, List.length_append]
  rcases h2 with h3 | h3 | ⟨h3, h4⟩
  · obtain rfl : w = 0 := h3
    rw [stepM_aside]
    have e1 : (asides [((0, k, p) : Evt)]).length = 1 := rfl
    have e2 : (leafs [((0, k, p) : Evt)]).length = 0 := rfl
    simp only [List.length_append, List.length_cons, List.length_nil]
    omega
  · obtain rfl : w = 1 := h3
    rw [stepM_leaf]
    have e1 : (asides [((1, k, p) : Evt)]).length = 0 := rfl
    have e2 : (leafs [((1, k, p) : Evt)]).length = 1 := rfl
    simp only [List.length_append, List.length_cons, List.length_nil]
    omega
  · obtain rfl : w = 2 := h3
    rw [stepM_join]
    have e1 : (asides [((2, k, p) : Evt)]).length = 0 := rfl
    have e2 : (leafs [((2, k, p) : Evt)]).length = 0 := rfl
    simp only [List.length_append, List.length_cons, List.length_nil, List.length_take]
    omega
/-- A stack of hashes in a row. -/
theorem flat_length : ∀ st : List (List UInt8), (∀ x ∈ st, x.length = 32) → st.flatten.length = 32 * st.length
  | [], _ => rfl
  | x :: st, h => by
    rw [List.flatten_cons, List.length_append, flat_length st (fun y hy => h y (List.mem_cons_of_mem _ hy)), h x (by simp), List.length_cons]
    omega
theorem flat_part : ∀ (st : List (List UInt8)) (i : Nat), (∀ x ∈ st, x.length = 32) → i < st.length → hpart st.flatten i = st.getD i []
  | [], i, _, hi => by simp at hi
  | x :: st, 0, h, _ => by
    have hx := h x (by simp)
    rw [List.flatten_cons, hpart, Nat.mul_zero, List.drop_zero, List.take_left' hx]
    rfl
  | x :: st, i + 1, h, hi => by
    have hx := h x (by simp)
    have ih := flat_part st i (fun y hy => h y (List.mem_cons_of_mem _ hy)) (by simpa using hi)
    rw [List.flatten_cons, hpart, show 32 * (i + 1) = x.length + 32 * i by omega, List.drop_append]
    rw [hpart] at ih
    rw [show (x :: st).getD (i + 1) [] = st.getD i [] from rfl, ← ih]
    rw [List.drop_eq_nil_of_le (by omega), List.nil_append, Nat.add_sub_cancel_left]
theorem flat_take (st : List (List UInt8)) (k : Nat) (h : ∀ x ∈ st, x.length = 32) (hk : k ≤ st.length) : (st.take k).flatten = st.flatten.take (32 * k) := by
  have e : st.flatten = (st.take k).flatten ++ (st.drop k).flatten := by rw [← List.flatten_append, List.take_append_drop]
  have hl := flat_length (st.take k) (fun x hx => h x (List.mem_of_mem_take hx))
  rw [e, List.take_left']
  rw [hl, List.length_take]
  omega
theorem ubs_take' (bs : List UInt8) (k : Nat) : ubs (bs.take k) = (ubs bs).take k := by
  unfold ubs
  rw [List.map_take]
/-- A row of hashes of the call's own is cut. -/
theorem Ah.cut {W : World} {base n k c : Nat} {A : Option Addr} {bs : List UInt8} (h : Ah W base (.slice A n c) n bs) (hk : k ≤ n) : Ah W base (.slice A k c) k (bs.take (32 * k)) := by
  obtain ⟨h1, h2⟩ := h
  rw [ubs_length] at h1
  refine ⟨by rw [ubs_length, List.length_take]; omega, ?_⟩
  rcases h2 with ⟨e, h0⟩ | ⟨g, cap, cur, e, hb, hh, hc, hm, hs, ht⟩
  · cases e
    exact .inl ⟨by rw [show k = 0 by omega], by omega⟩
  · cases e
    refine .inr ⟨g, c, cur, rfl, hb, hh, by omega, hm, hs, ?_⟩
    rw [ubs_take', ← ht, List.take_take, Nat.min_eq_left (by omega), Nat.mul_comm]
theorem Ah.cap {W : World} {base n c : Nat} {A : Option Addr} {bs : List UInt8} (h : Ah W base (.slice A n c) n bs) : n ≤ c := by
  rcases h.2 with ⟨e, h0⟩ | ⟨g, cap, cur, e, hb, hh, hc, -⟩
  · cases e; omega
  · cases e; exact hc
/-- A hash of it. -/
theorem Ah.range {W : World} {base n c : Nat} {A : Option Addr} {bs : List UInt8} (h : Ah W base (.slice A n c) n bs) {i : Nat} (hi : i < n) : ∃ g, A = some ⟨g, 0, none⟩ ∧ W.rangeAt g (32 * i) (ubs (hpart bs i)) := by
  have hl : bs.length = 32 * n := by have := h.1; rw [ubs_length] at this; omega
  rcases h.2 with ⟨e, h0⟩ | ⟨g, cap, cur, e, hb, hh, -⟩
  · omega
  · cases e
    refine ⟨g, rfl, fun q u hq => ?_⟩
    have hq2 : q < 32 := by
      have := (List.getElem?_eq_some_iff.1 hq).1
      rw [ubs_length, hpart_length hl hi] at this
      exact this
    have h5 : (ubs bs)[32 * i + q]? = some u := by
      rw [← hq, hpart]
      unfold ubs
      rw [List.getElem?_map, List.getElem?_map, List.getElem?_take, if_pos hq2, List.getElem?_drop]
    have := World.ownsRow.cells h (g := g) rfl (32 * i + q) u h5
    rwa [add_plain, Nat.zero_add] at this
theorem sliceH_parts : ∃ i, Tryd.prog.info? 25 = some i ∧ i.size = 32 := by
  obtain ⟨i, hi, -, hs, -⟩ := info_parts infoH
  exact ⟨i, hi, hs⟩
theorem run_h_to (A : Option Addr) (n c k : Nat) (hk : k ≤ c) (V : World) (hA : A = none → c = 0) (hp : ∀ a, A = some a → a.spot = none) : (Instr.slice 31 (.slice A n c) none (some (.int .i64 (k : Int))) none).run Tryd.prog V = .ok (.slice A k c) V := by
  obtain ⟨i, hi, hs⟩ := sliceH_parts
  have h1 : ((k : Nat) : Int) ≤ (c : Int) := by omega
  rcases A with _ | ⟨g, o, s⟩
  · obtain rfl : c = 0 := hA rfl
    obtain rfl : k = 0 := by omega
    simp [Instr.slice, Instr.sliceBounds, run_underlying Tryd.underlying31, run_sliceBound, sizeOf, typeInfo, hi]
  · obtain rfl : s = none := hp _ rfl
    have h2 : (Addr.mk g o none).add 0 = ⟨g, o, none⟩ := by rw [add_plain, Nat.add_zero]
    simp [Instr.slice, Instr.sliceBounds, run_underlying Tryd.underlying31, run_sliceBound, sizeOf, typeInfo, hi, h1, h2]
theorem run_h_next (g o n c : Nat) (hk : 1 ≤ n) (hn : n ≤ c) (V : World) : (Instr.slice 31 (.slice (some ⟨g, o, none⟩) n c) (some (.int .i64 1)) none none).run Tryd.prog V = .ok (.slice (some (if c = 1 then ⟨g, o, none⟩ else ⟨g, o + 32, none⟩)) (n - 1) (c - 1)) V := by
  obtain ⟨i, hi, hs⟩ := sliceH_parts
  have h1 : (1 : Int) ≤ (n : Int) := by omega
  by_cases e : c = 1
  · subst e
    obtain rfl : n = 1 := by omega
    simp [Instr.slice, Instr.sliceBounds, run_underlying Tryd.underlying31, run_sliceBound, sizeOf, typeInfo, hi]
  · have e2 : ¬ ((c : Int) = 1) := by omega
    rw [if_neg e]
    simp [Instr.slice, Instr.sliceBounds, run_underlying Tryd.underlying31, run_sliceBound, sizeOf, typeInfo, hi, h1, hs]
    rw [if_neg e, add_plain]
end Go.Proofs.YtdegmcfcbndelaaDoor

namespace Go.Proofs.YtdegmcfcbndelaaDoor
open Go.RowKit

/-- A hash is appended; the row is the old one, or a new one. -/
theorem wp_append_ho {o : Oper} {a : Go.Act} {W : World} {K : Go.Act → World → Prop} {Q : Exit → Go.Act → World → Prop} (s x : Operand)
    (ho : o.op = .call { callee := .builtin .append, args := #[s, x], argTypes := #[31, 31] })
    (base : Nat) (v : Value) (n : Nat) (bs : List UInt8) (hs : a.eval s = v) (hown : Ah W base v n bs) (q : Nat) (l : List UInt8) (hx : a.eval x = .slice (some ⟨q, 0, none⟩) 1 1) (hq : At W q (ubs l).toArray 25) (hp : l.length = 32) (hl : n ≤ 8589934592) (hbase : base ≤ W.heap.size)
    (h : ∀ A c w', Ah w' base (.slice A (n + 1) c) (n + 1) (bs ++ l) → W.grownBy w' v.ownBlock → ((Value.slice A (n + 1) c).ownBlock = v.ownBlock ∨ (Value.slice A (n + 1) c).ownBlock = some W.heap.size) → K (a.put o.dst (.slice A (n + 1) c)) w') : o.wp Tryd.prog a W K Q := by
  obtain ⟨i, hi, hz, hsz, hby⟩ := info_parts infoH
  obtain ⟨v', w', hr, h2, h3, -, h5⟩ := run_append_own_at (P := Tryd.prog) W base 31 o.type 25 i _ 32 32 Tryd.underlying31 hi hz hsz hby (by show (ubs n32).toArray.size = 32; rw [List.size_toArray, ubs_length]; exact n32_length) (by omega) v n (ubs bs) hown ⟨q, 0, none⟩ 1 1 (ubs l) (by rw [ubs_length, hp])
    (fun j u hu => by rw [add_plain, Nat.zero_add, hq.cell j, List.getElem?_toArray]; exact hu) (ubs_one l) (by unfold maxLen; omega) (by omega) hbase
  have h6 : Ah w' base v' (n + 1) (bs ++ l) := by
    unfold Ah
    rw [ubs_append]
    exact h2
  obtain ⟨A, c, rfl⟩ := h6.form
  unfold Oper.wp execOp
  simp only [ho, resolve, invoke, builtin, Sem.run_bind, Sem.run_pure, Result.andThen_ok, List.map_toArray, List.map_cons, List.map_nil, hs, hx, hr]
  exact h A c w' h6 h3 h5
/-- Who is handed the texts that are joined: what has been handed (ts), in blocks of his own (T). -/
structure JtC (gj : Nat) (lbj : Array Value) (b0 : Nat) (K : (Nat → Prop) → List (List UInt8) → World → Prop) : Prop where
  fn : ∀ args V, (callFunc gj args).run Tryd.prog V = .ok (.enter gj args) V
  inn : ∀ {T ts V}, K T ts V → ∀ k, T k → b0 ≤ k ∧ k < V.heap.size
  keep : ∀ {T ts V V'}, K T ts V → V.heap.size ≤ V'.heap.size → KeepsS T V V' → K T ts V'
  call : ∀ {T ts V bs} (A : Option Addr) (c : Nat), K T ts V → bs.length = 66 → ts.length ≤ 8589934591 → Rb V V.heap.size A bs → (∀ q, (Value.slice A 66 c).ownBlock = some q → b0 ≤ q ∧ q < V.heap.size ∧ ¬ T q) →
    Calls Tryd.prog gj (#[.slice A 66 c] ++ lbj) V fun r V' => r = .returned (.tuple #[]) ∧ Fr T V V' ∧ ∃ T', K T' (ts ++ [bs]) V' ∧ ∀ k, T' k → T k ∨ V.heap.size ≤ k ∨ (Value.slice A 66 c).ownBlock = some k
/-- The hashes that are open, and the texts that were handed on. -/
def OpC (K : (Nat → Prop) → List (List UInt8) → World → Prop) (s XO : Nat) (st : List (List UInt8)) (tx : List (List UInt8)) (V : World) : Prop :=
  ∃ (v : Value) (T : Nat → Prop), At V XO #[v] 31 ∧ Ah V (XO + 1) v st.length st.flatten ∧ K T tx V ∧ ∀ k, T k → k ≠ s ∧ k ≠ s + 1 ∧ k ≠ s + 2 ∧ k ≠ s + 3 ∧ k ≠ XO ∧ v.ownBlock ≠ some k
/-- A list of hashes that came in, as far as it is left. -/
def InC (w : World) (b0 : Nat) (X : Nat) (bs : List UInt8) (V : World) : Prop :=
  ∃ (A : Option Addr) (n c : Nat), At V X #[.slice A n c] 31 ∧ n ≤ c ∧ 32 * n = bs.length ∧ Rd w b0 A (ubs bs)
section
variable {gj : Nat} {lbj : Array Value} {b0 : Nat} {K : (Nat → Prop) → List (List UInt8) → World → Prop} {w V V' : World} {s XO : Nat} {st tx : List (List UInt8)}
theorem OpC.keep (j : JtC gj lbj b0 K) {v : Value} {T : Nat → Prop} (h1 : At V XO #[v] 31) (h2 : Ah V (XO + 1) v st.length st.flatten) (h3 : K T tx V) (h4 : ∀ k, T k → k ≠ s ∧ k ≠ s + 1 ∧ k ≠ s + 2 ∧ k ≠ s + 3 ∧ k ≠ XO ∧ v.ownBlock ≠ some k) {S : Nat → Prop} (hf : Fr S V V') (hX : ¬ S XO) (hv : ∀ k, v.ownBlock = some k → ¬ S k) (hT : ∀ k, T k → ¬ S k) :
    At V' XO #[v] 31 ∧ Ah V' (XO + 1) v st.length st.flatten ∧ K T tx V' ∧ ∀ k, T k → k ≠ s ∧ k ≠ s + 1 ∧ k ≠ s + 2 ∧ k ≠ s + 3 ∧ k ≠ XO ∧ v.ownBlock ≠ some k := by
  refine ⟨h1.fr hf hX, ⟨h2.1, ?_⟩, j.keep h3 hf.size (KeepsS.of_fr hf (fun k hk => (j.inn h3 k hk).2) hT), h4⟩
  rcases h2.2 with h5 | ⟨g, cap, cur, rfl, hb1, hh, r⟩
  · exact .inl h5
  · exact .inr ⟨g, cap, cur, rfl, hb1, (hf.block g (lt_of_block hh) (hv g rfl)).trans hh, r⟩
theorem OpC.new (j : JtC gj lbj b0 K) (h : OpC K s XO st tx V) (hb : Below V.heap.size V V') : OpC K s XO st tx V' := by
  obtain ⟨v, T, h1, h2, h3, h4⟩ := h
  exact ⟨v, T, OpC.keep j h1 h2 h3 h4 (S := fun _ => False) (Fr.of_new hb) id (fun _ _ => id) (fun _ _ => id)⟩
theorem OpC.far (j : JtC gj lbj b0 K) (h : OpC K s XO st tx V) {Y : Nat} (hY : Y = s ∨ Y = s + 1) (hs : s + 3 < XO) (u : Value) : OpC K s XO st tx (V.setCell ⟨Y, 0, none⟩ u) := by
  obtain ⟨v, T, h1, h2, h3, h4⟩ := h
  refine ⟨v, T, OpC.keep j h1 h2 h3 h4 (S := fun k => k = Y) (show Fr (fun k => k = Y) V (V.setCell ⟨Y, 0, none⟩ u) from (Fr.refl (fun k => k = Y) V).setCell (p := ⟨Y, 0, none⟩) (.inr rfl) u) (by show ¬ XO = Y; omega) (fun k hk e => ?_) (fun k hk e => ?_)⟩
  · have := (World.ownsRow.lt h2 k hk).1
    have e' : k = Y := e
    omega
  · have := h4 k hk
    have e' : k = Y := e
    omega
/-- A hash more: its row is the old one, or a new one. -/
theorem OpC.push (j : JtC gj lbj b0 K) {v v4 : Value} {T : Nat → Prop} {W2 W3 : World} {st' : List (List UInt8)} (h1 : At V XO #[v] 31) (h3 : K T tx V) (h4 : ∀ k, T k → k ≠ s ∧ k ≠ s + 1 ∧ k ≠ s + 2 ∧ k ≠ s + 3 ∧ k ≠ XO ∧ v.ownBlock ≠ some k)
    (hlt : ∀ k, v.ownBlock = some k → XO + 1 ≤ k) (hb : Below V.heap.size V W2) (hg : W2.grownBy W3 v.ownBlock) (ha : Ah W3 (XO + 1) v4 st'.length st'.flatten) (ho : v4.ownBlock = v.ownBlock ∨ v4.ownBlock = some W2.heap.size) : OpC K s XO st' tx (W3.setCell ⟨XO, 0, none⟩ v4) := by
  have hf : Fr (fun k => k = XO ∨ v.ownBlock = some k) V (W3.setCell ⟨XO, 0, none⟩ v4) := ((Fr.of_new hb).grown hg (fun k hk => .inr (.inr hk))).setCell (p := ⟨XO, 0, none⟩) (.inr (.inl rfl)) v4
  refine ⟨v4, T, ?_, ha.far (p := ⟨XO, 0, none⟩) (Nat.lt_succ_self _) _, j.keep h3 hf.size (KeepsS.of_fr hf (fun k hk => (j.inn h3 k hk).2) (fun k hk e => ?_)), fun k hk => ?_⟩
  · have h5 : At W3 XO #[v] 31 := h1.fr (S := fun k => v.ownBlock = some k) ((Fr.of_new hb).grown hg (fun k hk => .inr hk)) (fun e => by have := hlt _ e; omega)
    exact h5.put 0 v4
  · have := h4 k hk
    rcases e with e | e
    · omega
    · exact this.2.2.2.2.2 e
  · have h5 := h4 k hk
    refine ⟨h5.1, h5.2.1, h5.2.2.1, h5.2.2.2.1, h5.2.2.2.2.1, fun e => ?_⟩
    rcases ho with ho | ho
    · exact h5.2.2.2.2.2 (by rw [← ho]; exact e)
    · rw [ho] at e
      have h6 := (j.inn h3 k hk).2
      have h7 := hb.size
      have : W2.heap.size = k := by simpa using e
      omega
theorem InC.fr {X : Nat} {bs : List UInt8} (h : InC w b0 X bs V) {S : Nat → Prop} (hf : Fr S V V') (hX : ¬ S X) : InC w b0 X bs V' := by
  obtain ⟨A, n, c, h1, h2⟩ := h
  exact ⟨A, n, c, h1.fr hf hX, h2⟩
end
/-- What holds while climb walks. -/
structure ClW (gj : Nat) (lbj : Array Value) (b0 : Nat) (K : (Nat → Prop) → List (List UInt8) → World → Prop) (w : World) (s XO : Nat) (lv bes : List UInt8) (pre : List Evt) (V : World) : Prop where
  o : OpC K s XO (runM lv bes pre).st (runM lv bes pre).tx V
  b : InC w b0 (s + 1) (bes.drop (32 * (runM lv bes pre).a)) V
  l : InC w b0 s (lv.drop (32 * (runM lv bes pre).b)) V
  j : At V (s + 2) #[.func (.func gj) #[] lbj] 136
  r : At V (s + 3) (ubs n32).toArray 25
  lo : b0 ≤ s ∧ s + 3 < XO
  below : Below b0 w V
set_option maxRecDepth 100000 in
set_option maxHeartbeats 2000000 in
theorem climb1_aside {gj : Nat} {lbj : Array Value} {b0 : Nat} {K : (Nat → Prop) → List (List UInt8) → World → Prop} (jc : JtC gj lbj b0 K) {w V : World} {s XO : Nat} {lv bes : List UInt8} {pre : List Evt} (k p nn : Nat) (hn : (runM lv bes pre).a < nn) (hst : (runM lv bes pre).st.length ≤ 8589934592)
    (hbl : bes.length = 32 * nn) (x : ClW gj lbj b0 K w s XO lv bes pre V) :
    Calls Tryd.prog 103 (#[.int .i64 0, .int .i64 (k : Int), .int .u64 (p : Int)] ++ #[.pointer (some ⟨XO, 0, none⟩), .pointer (some ⟨s + 1, 0, none⟩), .pointer (some ⟨s, 0, none⟩), .pointer (some ⟨s + 2, 0, none⟩)]) V fun r V' => r = .returned (.tuple #[]) ∧ ClW gj lbj b0 K w s XO lv bes (pre ++ [(0, k, p)]) V' := by
  obtain ⟨vo, T, ho, ha, hk, hT⟩ := x.o
  obtain ⟨A, n, c, hb, hc, hln, hr⟩ := x.b
  have hlen : (bes.drop (32 * (runM lv bes pre).a)).length = 32 * nn - 32 * (runM lv bes pre).a := by rw [List.length_drop, hbl]
  have hn1 : 1 ≤ n := by omega
  obtain ⟨g, o, rfl, hgb, hcl⟩ := hr (fun e => by have := congrArg List.length e; rw [ubs_length] at this; simp only [List.length_nil] at this; omega)
  obtain ⟨hs, hhs⟩ : ∃ h, h = hpart bes (runM lv bes pre).a := ⟨_, rfl⟩
  have HHL := hid (show hs.length = 32 by rw [hhs]; exact hpart_length hbl hn)
  have hrg : V.rangeAt g o (ubs hs) := fun q u hq => by
    have hq2 : q < 32 := by
      have := (List.getElem?_eq_some_iff.1 hq).1
      rw [ubs_length, HHL.out] at this
      exact this
    refine (World.cell?_of_block (w := w) (x.below.block g hgb)).trans (hcl q u ?_)
    rw [← hq, hhs, hpart]
    unfold ubs
    rw [List.getElem?_map, List.getElem?_map, List.getElem?_take, if_pos hq2]
  obtain ⟨n1, hn1'⟩ : ∃ m, m = n - 1 := ⟨_, rfl⟩
  obtain ⟨c1, hc1'⟩ : ∃ m, m = c - 1 := ⟨_, rfl⟩
  obtain ⟨A1, hA1⟩ : ∃ a : Addr, a = (if c = 1 then (⟨g, o, none⟩ : Addr) else ⟨g, o + 32, none⟩) := ⟨_, rfl⟩
  have HSL := hid (fun V => run_h_next g o n c hn1 hc V)
  rw [← hA1, ← hn1', ← hc1'] at HSL
  have HIN := hid (show ∀ V' : World, At V' (s + 1) #[.slice (some A1) n1 c1] 31 → InC w b0 (s + 1) (bes.drop (32 * ((runM lv bes pre).a + 1))) V' from fun V' h => by
    refine ⟨some A1, n1, c1, h, by omega, by rw [List.length_drop, hbl]; omega, fun hne => ?_⟩
    have h2 : c ≠ 1 := by
      intro e
      refine hne (by rw [List.drop_eq_nil_of_le (by omega)]; rfl)
    rw [hA1, if_neg h2]
    refine ⟨g, o + 32, rfl, hgb, fun q u hq => ?_⟩
    have h3 : (ubs (bes.drop (32 * (runM lv bes pre).a)))[32 + q]? = some u := by
      rw [← hq]
      unfold ubs
      rw [List.getElem?_map, List.getElem?_map, List.getElem?_drop, List.getElem?_drop]
      congr 2
      omega
    have := hcl (32 + q) u h3
    rwa [← Nat.add_assoc] at this)
  have hstep : runM lv bes (pre ++ [(0, k, p)]) = ⟨(runM lv bes pre).st ++ [hs], (runM lv bes pre).tx, (runM lv bes pre).a + 1, (runM lv bes pre).b + 0⟩ := by
    rw [runM_snoc, stepM_aside, hhs]
    rfl
  have HX := hid x
  have HN1 := hid hn1
  have HLO := hid x.lo
  have HGB := hid hgb
  have HHO := hid ho
  have HHK := hid hk
  have HHT := hid hT
  have HAO := hid (fun (V' : World) (q : Below V.heap.size V V') => ha.kept q)
  have HOW := hid (fun j (e : vo.ownBlock = some j) => World.ownsRow.lt ha j e)
  have HST := hid hstep
  have HNL := hid hst
  have HXL := hid ho.lt
  have HBL := hid hb.lt
  have HB0 := hid x.below.size
  have SS := hid (fun (V' : World) (q : Below V.heap.size V V') => show At V' (s + 1) #[.slice (some ⟨g, o, none⟩) n c] 31 ∧ V'.rangeAt g o (ubs hs) from ⟨hb.new_ q, fun r u hu => (World.cell?_of_block (w := V) (q.block g (by have := HLO.out; have := HXL.out; have := HGB.out; omega))).trans (hrg r u hu)⟩)
  have SO := hid (fun (V' : World) (q : Below V.heap.size V V') => show At V' XO #[vo] 31 from ho.new_ q)
  obtain ⟨m, hm⟩ : ∃ m, m = (runM lv bes pre).st.length := ⟨_, rfl⟩
  obtain ⟨fl, hfl⟩ : ∃ f, f = (runM lv bes pre).st.flatten := ⟨_, rfl⟩
  have HFL := hid (show ((runM lv bes pre).st ++ [hs]).length = m + 1 ∧ ((runM lv bes pre).st ++ [hs]).flatten = fl ++ hs by rw [hm, hfl]; simp)
  rw [← hm] at HNL
  rw [← hm, ← hfl] at HAO
  clear x ho ha hk hT hb hc hln hr hlen hn1 hcl hhs hrg hn1' hc1' hA1 hstep hgb hst hn hbl hm hfl

  go_enter Tryd.func103, Tryd.ntmps103
  go_wp2
  try simp only [Act.put, List.setIfInBounds_toArray, List.set_cons_succ, List.set_cons_zero]
  have BD := hid ((Below.refl V.heap.size V).drew)
  refine wp_region_upto (fun V => At V (s + 1) #[.slice (some ⟨g, o, none⟩) n c] 31 ∧ V.rangeAt g o (ubs hs)) 9 10 (by kernel_rfl) (by kernel_rfl) ?_
  refine wpUpto_takeL (i := 1) (v := .slice (some ⟨g, o, none⟩) n c) rfl rfl (by decide +kernel) (by decide +kernel) (by decide +kernel) (by decide +kernel) (by decide) (fun _ _ _ h => h) (Or.inl ⟨by rfl, ?_⟩) (SS.out _ BD.out) ?_
  · (intro W hSW; have c0 := hSW.1.cell 0; simp at c0; go_simp)
  simp only [List.set_cons_succ, List.set_cons_zero]
  refine wpUpto_takeL (i := 2) (v := .pointer (some ⟨g, o, none⟩)) rfl rfl (by decide +kernel) (by decide +kernel) (by decide +kernel) (by decide +kernel) (by decide) (fun _ _ _ h => h) (Or.inl ⟨by rfl, ?_⟩) (SS.out _ BD.out) ?_
  · (intro W hSW; have d1 : decide ((0 : Int) < (n : Int)) = true := by have := HN1.out; simp; omega
     have d2 : (0 : Int) < (n : Int) := by have := HN1.out; omega
     have d3 : decide (0 < n) = true := by have := HN1.out; simp; omega
     have d4 : 0 < n := HN1.out
     go_simp)
  simp only [List.set_cons_succ, List.set_cons_zero]
  refine wpUpto_takeL (i := 3) (v := .agg (ubs hs).toArray) rfl rfl (by decide +kernel) (by decide +kernel) (by decide +kernel) (by decide +kernel) (by decide) (fun _ _ _ h => h) (Or.inl ⟨by rfl, ?_⟩) (SS.out _ BD.out) ?_
  · (intro W hSW; exact run_loadH (.tmp 18) rfl g o rfl hs hSW.2 HHL.out)
  simp only [List.set_cons_succ, List.set_cons_zero]
  refine wpUpto_takeL (i := 6) (v := .slice (some ⟨g, o, none⟩) n c) rfl rfl (by decide +kernel) (by decide +kernel) (by decide +kernel) (by decide +kernel) (by decide) (fun _ _ _ h => h) (Or.inl ⟨by rfl, ?_⟩) (SS.out _ BD.out) ?_
  · (intro W hSW; have c0 := hSW.1.cell 0; simp at c0; go_simp)
  simp only [List.set_cons_succ, List.set_cons_zero]
  refine wpUpto_takeL (i := 7) (v := .slice (some A1) n1 c1) rfl rfl (by decide +kernel) (by decide +kernel) (by decide +kernel) (by decide +kernel) (by decide) (fun _ _ _ h => h) (Or.inl ⟨by rfl, ?_⟩) (SS.out _ BD.out) ?_
  · (intro W hSW; have c1 := HSL.out W; go_simp)
  simp only [List.set_cons_succ, List.set_cons_zero]
  refine wpUpto_two (i := 0) (j := 4) rfl rfl (by decide +kernel) rfl rfl ?_ ?_
  · intro Q0 hQ0
    refine wp_val (w' := V.drew) (v := vo) (by have c0 := (SO.out _ BD.out).cell 0; simp at c0; go_simp) ?_
    refine hQ0.out _ _ (fun _ => SS.out _ BD.out) ?_
    clear hQ0 Q0
    simp only [Act.put, List.setIfInBounds_toArray]
    refine wpUpto_one (i := 4) rfl (by decide +kernel) rfl ?_
    intro Q0 hQ0
    refine wp_val (run_buildH (.tmp 19) rfl hs HHL.out rfl) ?_
    have B1 := hid (BD.out.alloc BD.out.size (.cells (ubs hs).toArray 25))
    have QA := hid (show At (V.drew.alloc (.cells (ubs hs).toArray 25)) V.drew.heap.size (ubs hs).toArray 25 from At.new _ _ _)
    generalize (V.drew.alloc (.cells (ubs hs).toArray 25)) = W1 at B1 QA ⊢
    generalize V.drew.heap.size = q1 at QA ⊢
    refine hQ0.out _ _ (fun _ => SS.out _ B1.out) ?_
    clear hQ0 Q0
    simp only [Act.put]
    refine wpUpto_one (i := 5) rfl (by decide +kernel) rfl ?_
    intro Q0 hQ0
    refine wp_append_ho (.tmp 16) (.tmp 20) rfl (XO + 1) vo m fl rfl (HAO.out _ B1.out) q1 hs rfl QA.out HHL.out HNL.out (by have := HXL.out; have := B1.out.size; omega) ?_
    intro A4 c4 W3 h1 h2 h3
    have HA4 := hid h1
    have HG4 := hid h2
    have HO4 := hid h3
    have F4 := hid (show Fr (fun k => vo.ownBlock = some k) V W3 from (Fr.of_new B1.out).grown h2 (fun k hk => .inr hk))
    have S4 := hid (show At W3 (s + 1) #[.slice (some ⟨g, o, none⟩) n c] 31 ∧ W3.rangeAt g o (ubs hs) from by
      have hS := SS.out V (Below.refl _ _)
      have hlo := HLO.out
      have hxl := HXL.out
      have hgb := HGB.out
      refine ⟨hS.1.fr F4.out (fun e => by have := (HOW.out _ e).1; omega), fun r u hu => (F4.out.cell (a := ⟨g, o + r, none⟩) (show g < V.heap.size by omega) (fun e => by have := (HOW.out g e).1; omega)).trans (hS.2 r u hu)⟩)
    refine hQ0.out _ _ (fun _ => S4.out) ?_
    clear hQ0 Q0 h1 h2 h3
    simp only [Act.put]
    refine wpUpto_one (i := 8) rfl (by decide +kernel) rfl ?_
    intro Q0 hQ0
    have hX3 := hid (show At W3 XO #[vo] 31 from HHO.out.fr F4.out (fun e => by have := (HOW.out _ e).1; omega))
    refine wp_unit (w' := W3.setCell ⟨XO, 0, none⟩ (.slice A4 (m + 1) c4)) (by have c0 := hX3.out.cell 0; have f0 := hX3.out.frozen 0; simp at c0; go_simp) ?_
    have S5 := hid (show At (W3.setCell ⟨XO, 0, none⟩ (.slice A4 (m + 1) c4)) (s + 1) #[.slice (some ⟨g, o, none⟩) n c] 31 ∧ (W3.setCell ⟨XO, 0, none⟩ (.slice A4 (m + 1) c4)).rangeAt g o (ubs hs) from by
      have hlo := HLO.out
      have hgb := HGB.out
      exact ⟨S4.out.1.far (p := ⟨XO, 0, none⟩) (by show _ ≠ XO; omega) _, fun r u hu => (World.cell?_of_block (w := W3) (Below.heap_setCell W3 ⟨XO, 0, none⟩ _ g (by show g ≠ XO; omega))).trans (S4.out.2 r u hu)⟩)
    refine hQ0.out _ _ (fun _ => S5.out) ?_
    clear hQ0 Q0
    simp only [Act.put]
    have O5 := hid (show OpC K s XO ((runM lv bes pre).st ++ [hs]) (runM lv bes pre).tx (W3.setCell ⟨XO, 0, none⟩ (.slice A4 (m + 1) c4)) from
      OpC.push jc HHO.out HHK.out HHT.out (fun k e => (HOW.out k e).1) B1.out HG4.out (by rw [HFL.out.1, HFL.out.2]; exact HA4.out) HO4.out)
    have F5 := hid (show Fr (fun k => k = XO ∨ vo.ownBlock = some k) V (W3.setCell ⟨XO, 0, none⟩ (.slice A4 (m + 1) c4)) from (F4.out.mono (fun _ _ h => .inr h)).setCell (p := ⟨XO, 0, none⟩) (.inr (.inl rfl)) _)
    generalize (W3.setCell ⟨XO, 0, none⟩ (.slice A4 (m + 1) c4)) = W5 at S5 O5 F5 ⊢
    clear HA4 HG4 HO4 F4 S4 hX3 B1 SS SO HAO
    refine wpUpto_one (i := 9) rfl (by decide +kernel) rfl ?_
    intro Q0 hQ0
    refine wp_unit (w' := W5.setCell ⟨s + 1, 0, none⟩ (.slice (some A1) n1 c1)) (by have c0 := S5.out.1.cell 0; have f0 := S5.out.1.frozen 0; simp at c0; go_simp) ?_
    refine hQ0.out _ _ (fun h => absurd rfl h) ?_
    clear hQ0 Q0
    refine wpUpto_done (by decide +kernel) ?_ _
    go_simp
    go_wp2
    refine bodyPost_end (results_none rfl _ _ _) rfl ?_
    have hlo := HLO.out
    have hF6 : Fr (fun k => k = s + 1 ∨ k = XO ∨ vo.ownBlock = some k) V (W5.setCell ⟨s + 1, 0, none⟩ (.slice (some A1) n1 c1)) := (F5.out.mono (fun _ _ h => .inr h)).setCell (p := ⟨s + 1, 0, none⟩) (.inr (.inl rfl)) _
    have hne : ∀ y, y ≤ s + 3 → y ≠ s + 1 → ¬ (y = s + 1 ∨ y = XO ∨ vo.ownBlock = some y) := fun y hy hy2 e => by
      rcases e with e | e | e
      · exact hy2 e
      · omega
      · have := (HOW.out y e).1
        omega
    refine ⟨rfl, ?_⟩
    have hst := HST.out
    exact ⟨by rw [hst]; exact OpC.far jc O5.out (.inr rfl) hlo.2 _, by rw [hst]; exact HIN.out _ (S5.out.1.put 0 _), by rw [hst]; exact HX.out.l.fr hF6 (hne _ (by omega) (by omega)), HX.out.j.fr hF6 (hne _ (by omega) (by omega)), HX.out.r.fr hF6 (hne _ (by omega) (by omega)), hlo,
      HX.out.below.trans (hF6.below (fun k hk => by rcases hk with e | e | e; omega; omega; have := (HOW.out k e).1; omega) (by have := HXL.out; omega))⟩
  · intro Q0 hQ0
    refine wp_val (run_buildH (.tmp 19) rfl hs HHL.out rfl) ?_
    have B1 := hid (BD.out.alloc BD.out.size (.cells (ubs hs).toArray 25))
    have QA := hid (show At (V.drew.alloc (.cells (ubs hs).toArray 25)) V.drew.heap.size (ubs hs).toArray 25 from At.new _ _ _)
    generalize (V.drew.alloc (.cells (ubs hs).toArray 25)) = W1 at B1 QA ⊢
    generalize V.drew.heap.size = q1 at QA ⊢
    refine hQ0.out _ _ (fun _ => SS.out _ B1.out) ?_
    clear hQ0 Q0
    simp only [Act.put, List.setIfInBounds_toArray]
    refine wpUpto_one (i := 0) rfl (by decide +kernel) rfl ?_
    intro Q0 hQ0
    refine wp_val (w' := W1) (v := vo) (by have c0 := (SO.out _ B1.out).cell 0; simp at c0; go_simp) ?_
    refine hQ0.out _ _ (fun _ => SS.out _ B1.out) ?_
    clear hQ0 Q0
    simp only [Act.put]
    refine wpUpto_one (i := 5) rfl (by decide +kernel) rfl ?_
    intro Q0 hQ0
    refine wp_append_ho (.tmp 16) (.tmp 20) rfl (XO + 1) vo m fl rfl (HAO.out _ B1.out) q1 hs rfl QA.out HHL.out HNL.out (by have := HXL.out; have := B1.out.size; omega) ?_
    intro A4 c4 W3 h1 h2 h3
    have HA4 := hid h1
    have HG4 := hid h2
    have HO4 := hid h3
    have F4 := hid (show Fr (fun k => vo.ownBlock = some k) V W3 from (Fr.of_new B1.out).grown h2 (fun k hk => .inr hk))
    have S4 := hid (show At W3 (s + 1) #[.slice (some ⟨g, o, none⟩) n c] 31 ∧ W3.rangeAt g o (ubs hs) from by
      have hS := SS.out V (Below.refl _ _)
      have hlo := HLO.out
      have hxl := HXL.out
      have hgb := HGB.out
      refine ⟨hS.1.fr F4.out (fun e => by have := (HOW.out _ e).1; omega), fun r u hu => (F4.out.cell (a := ⟨g, o + r, none⟩) (show g < V.heap.size by omega) (fun e => by have := (HOW.out g e).1; omega)).trans (hS.2 r u hu)⟩)
    refine hQ0.out _ _ (fun _ => S4.out) ?_
    clear hQ0 Q0 h1 h2 h3
    simp only [Act.put]
    refine wpUpto_one (i := 8) rfl (by decide +kernel) rfl ?_
    intro Q0 hQ0
    have hX3 := hid (show At W3 XO #[vo] 31 from HHO.out.fr F4.out (fun e => by have := (HOW.out _ e).1; omega))
    refine wp_unit (w' := W3.setCell ⟨XO, 0, none⟩ (.slice A4 (m + 1) c4)) (by have c0 := hX3.out.cell 0; have f0 := hX3.out.frozen 0; simp at c0; go_simp) ?_
    have S5 := hid (show At (W3.setCell ⟨XO, 0, none⟩ (.slice A4 (m + 1) c4)) (s + 1) #[.slice (some ⟨g, o, none⟩) n c] 31 ∧ (W3.setCell ⟨XO, 0, none⟩ (.slice A4 (m + 1) c4)).rangeAt g o (ubs hs) from by
      have hlo := HLO.out
      have hgb := HGB.out
      exact ⟨S4.out.1.far (p := ⟨XO, 0, none⟩) (by show _ ≠ XO; omega) _, fun r u hu => (World.cell?_of_block (w := W3) (Below.heap_setCell W3 ⟨XO, 0, none⟩ _ g (by show g ≠ XO; omega))).trans (S4.out.2 r u hu)⟩)
    refine hQ0.out _ _ (fun _ => S5.out) ?_
    clear hQ0 Q0
    simp only [Act.put]
    have O5 := hid (show OpC K s XO ((runM lv bes pre).st ++ [hs]) (runM lv bes pre).tx (W3.setCell ⟨XO, 0, none⟩ (.slice A4 (m + 1) c4)) from
      OpC.push jc HHO.out HHK.out HHT.out (fun k e => (HOW.out k e).1) B1.out HG4.out (by rw [HFL.out.1, HFL.out.2]; exact HA4.out) HO4.out)
    have F5 := hid (show Fr (fun k => k = XO ∨ vo.ownBlock = some k) V (W3.setCell ⟨XO, 0, none⟩ (.slice A4 (m + 1) c4)) from (F4.out.mono (fun _ _ h => .inr h)).setCell (p := ⟨XO, 0, none⟩) (.inr (.inl rfl)) _)
    generalize (W3.setCell ⟨XO, 0, none⟩ (.slice A4 (m + 1) c4)) = W5 at S5 O5 F5 ⊢
    clear HA4 HG4 HO4 F4 S4 hX3 B1 SS SO HAO
    refine wpUpto_one (i := 9) rfl (by decide +kernel) rfl ?_
    intro Q0 hQ0
    refine wp_unit (w' := W5.setCell ⟨s + 1, 0, none⟩ (.slice (some A1) n1 c1)) (by have c0 := S5.out.1.cell 0; have f0 := S5.out.1.frozen 0; simp at c0; go_simp) ?_
    refine hQ0.out _ _ (fun h => absurd rfl h) ?_
    clear hQ0 Q0
    refine wpUpto_done (by decide +kernel) ?_ _
    go_simp
    go_wp2
    refine bodyPost_end (results_none rfl _ _ _) rfl ?_
    have hlo := HLO.out
    have hF6 : Fr (fun k => k = s + 1 ∨ k = XO ∨ vo.ownBlock = some k) V (W5.setCell ⟨s + 1, 0, none⟩ (.slice (some A1) n1 c1)) := (F5.out.mono (fun _ _ h => .inr h)).setCell (p := ⟨s + 1, 0, none⟩) (.inr (.inl rfl)) _
    have hne : ∀ y, y ≤ s + 3 → y ≠ s + 1 → ¬ (y = s + 1 ∨ y = XO ∨ vo.ownBlock = some y) := fun y hy hy2 e => by
      rcases e with e | e | e
      · exact hy2 e
      · omega
      · have := (HOW.out y e).1
        omega
    refine ⟨rfl, ?_⟩
    have hst := HST.out
    exact ⟨by rw [hst]; exact OpC.far jc O5.out (.inr rfl) hlo.2 _, by rw [hst]; exact HIN.out _ (S5.out.1.put 0 _), by rw [hst]; exact HX.out.l.fr hF6 (hne _ (by omega) (by omega)), HX.out.j.fr hF6 (hne _ (by omega) (by omega)), HX.out.r.fr hF6 (hne _ (by omega) (by omega)), hlo,
      HX.out.below.trans (hF6.below (fun k hk => by rcases hk with e | e | e; omega; omega; have := (HOW.out k e).1; omega) (by have := HXL.out; omega))⟩
set_option maxRecDepth 100000 in
set_option maxHeartbeats 2000000 in
theorem climb1_leaf {gj : Nat} {lbj : Array Value} {b0 : Nat} {K : (Nat → Prop) → List (List UInt8) → World → Prop} (jc : JtC gj lbj b0 K) {w V : World} {s XO : Nat} {lv bes : List UInt8} {pre : List Evt} (k p nn : Nat) (hn : (runM lv bes pre).b < nn) (hst : (runM lv bes pre).st.length ≤ 8589934592)
    (hbl : lv.length = 32 * nn) (x : ClW gj lbj b0 K w s XO lv bes pre V) :
    Calls Tryd.prog 103 (#[.int .i64 1, .int .i64 (k : Int), .int .u64 (p : Int)] ++ #[.pointer (some ⟨XO, 0, none⟩), .pointer (some ⟨s + 1, 0, none⟩), .pointer (some ⟨s, 0, none⟩), .pointer (some ⟨s + 2, 0, none⟩)]) V fun r V' => r = .returned (.tuple #[]) ∧ ClW gj lbj b0 K w s XO lv bes (pre ++ [(1, k, p)]) V' := by
  obtain ⟨vo, T, ho, ha, hk, hT⟩ := x.o
  obtain ⟨A, n, c, hb, hc, hln, hr⟩ := x.l
  have hlen : (lv.drop (32 * (runM lv bes pre).b)).length = 32 * nn - 32 * (runM lv bes pre).b := by rw [List.length_drop, hbl]
  have hn1 : 1 ≤ n := by omega
  obtain ⟨g, o, rfl, hgb, hcl⟩ := hr (fun e => by have := congrArg List.length e; rw [ubs_length] at this; simp only [List.length_nil] at this; omega)
  obtain ⟨hs, hhs⟩ : ∃ h, h = hpart lv (runM lv bes pre).b := ⟨_, rfl⟩
  have HHL := hid (show hs.length = 32 by rw [hhs]; exact hpart_length hbl hn)
  have hrg : V.rangeAt g o (ubs hs) := fun q u hq => by
    have hq2 : q < 32 := by
      have := (List.getElem?_eq_some_iff.1 hq).1
      rw [ubs_length, HHL.out] at this
      exact this
    refine (World.cell?_of_block (w := w) (x.below.block g hgb)).trans (hcl q u ?_)
    rw [← hq, hhs, hpart]
    unfold ubs
    rw [List.getElem?_map, List.getElem?_map, List.getElem?_take, if_pos hq2]
  obtain ⟨n1, hn1'⟩ : ∃ m, m = n - 1 := ⟨_, rfl⟩
  obtain ⟨c1, hc1'⟩ : ∃ m, m = c - 1 := ⟨_, rfl⟩
  obtain ⟨A1, hA1⟩ : ∃ a : Addr, a = (if c = 1 then (⟨g, o, none⟩ : Addr) else ⟨g, o + 32, none⟩) := ⟨_, rfl⟩
  have HSL := hid (fun V => run_h_next g o n c hn1 hc V)
  rw [← hA1, ← hn1', ← hc1'] at HSL
  have HIN := hid (show ∀ V' : World, At V' (s) #[.slice (some A1) n1 c1] 31 → InC w b0 (s) (lv.drop (32 * ((runM lv bes pre).b + 1))) V' from fun V' h => by
    refine ⟨some A1, n1, c1, h, by omega, by rw [List.length_drop, hbl]; omega, fun hne => ?_⟩
    have h2 : c ≠ 1 := by
      intro e
      refine hne (by rw [List.drop_eq_nil_of_le (by omega)]; rfl)
    rw [hA1, if_neg h2]
    refine ⟨g, o + 32, rfl, hgb, fun q u hq => ?_⟩
    have h3 : (ubs (lv.drop (32 * (runM lv bes pre).b)))[32 + q]? = some u := by
      rw [← hq]
      unfold ubs
      rw [List.getElem?_map, List.getElem?_map, List.getElem?_drop, List.getElem?_drop]
      congr 2
      omega
    have := hcl (32 + q) u h3
    rwa [← Nat.add_assoc] at this)
  have hstep : runM lv bes (pre ++ [(1, k, p)]) = ⟨(runM lv bes pre).st ++ [hs], (runM lv bes pre).tx, (runM lv bes pre).a + 0, (runM lv bes pre).b + 1⟩ := by
    rw [runM_snoc, stepM_leaf, hhs]
    rfl
  have HX := hid x
  have HN1 := hid hn1
  have HLO := hid x.lo
  have HGB := hid hgb
  have HHO := hid ho
  have HHK := hid hk
  have HHT := hid hT
  have HAO := hid (fun (V' : World) (q : Below V.heap.size V V') => ha.kept q)
  have HOW := hid (fun j (e : vo.ownBlock = some j) => World.ownsRow.lt ha j e)
  have HST := hid hstep
  have HNL := hid hst
  have HXL := hid ho.lt
  have HBL := hid hb.lt
  have HB0 := hid x.below.size
  have SS := hid (fun (V' : World) (q : Below V.heap.size V V') => show At V' (s) #[.slice (some ⟨g, o, none⟩) n c] 31 ∧ V'.rangeAt g o (ubs hs) from ⟨hb.new_ q, fun r u hu => (World.cell?_of_block (w := V) (q.block g (by have := HLO.out; have := HXL.out; have := HGB.out; omega))).trans (hrg r u hu)⟩)
  have SO := hid (fun (V' : World) (q : Below V.heap.size V V') => show At V' XO #[vo] 31 from ho.new_ q)
  obtain ⟨m, hm⟩ : ∃ m, m = (runM lv bes pre).st.length := ⟨_, rfl⟩
  obtain ⟨fl, hfl⟩ : ∃ f, f = (runM lv bes pre).st.flatten := ⟨_, rfl⟩
  have HFL := hid (show ((runM lv bes pre).st ++ [hs]).length = m + 1 ∧ ((runM lv bes pre).st ++ [hs]).flatten = fl ++ hs by rw [hm, hfl]; simp)
  rw [← hm] at HNL
  rw [← hm, ← hfl] at HAO
  clear x ho ha hk hT hb hc hln hr hlen hn1 hcl hhs hrg hn1' hc1' hA1 hstep hgb hst hn hbl hm hfl

  go_enter Tryd.func103, Tryd.ntmps103
  go_wp2
  try simp only [Act.put, List.setIfInBounds_toArray, List.set_cons_succ, List.set_cons_zero]
  have BD := hid ((Below.refl V.heap.size V).drew)
  refine wp_region_upto (fun V => At V (s) #[.slice (some ⟨g, o, none⟩) n c] 31 ∧ V.rangeAt g o (ubs hs)) 9 10 (by kernel_rfl) (by kernel_rfl) ?_
  refine wpUpto_takeL (i := 1) (v := .slice (some ⟨g, o, none⟩) n c) rfl rfl (by decide +kernel) (by decide +kernel) (by decide +kernel) (by decide +kernel) (by decide) (fun _ _ _ h => h) (Or.inl ⟨by rfl, ?_⟩) (SS.out _ BD.out) ?_
  · (intro W hSW; have c0 := hSW.1.cell 0; simp at c0; go_simp)
  simp only [List.set_cons_succ, List.set_cons_zero]
  refine wpUpto_takeL (i := 2) (v := .pointer (some ⟨g, o, none⟩)) rfl rfl (by decide +kernel) (by decide +kernel) (by decide +kernel) (by decide +kernel) (by decide) (fun _ _ _ h => h) (Or.inl ⟨by rfl, ?_⟩) (SS.out _ BD.out) ?_
  · (intro W hSW; have d1 : decide ((0 : Int) < (n : Int)) = true := by have := HN1.out; simp; omega
     have d2 : (0 : Int) < (n : Int) := by have := HN1.out; omega
     have d3 : decide (0 < n) = true := by have := HN1.out; simp; omega
     have d4 : 0 < n := HN1.out
     go_simp)
  simp only [List.set_cons_succ, List.set_cons_zero]
  refine wpUpto_takeL (i := 3) (v := .agg (ubs hs).toArray) rfl rfl (by decide +kernel) (by decide +kernel) (by decide +kernel) (by decide +kernel) (by decide) (fun _ _ _ h => h) (Or.inl ⟨by rfl, ?_⟩) (SS.out _ BD.out) ?_
  · (intro W hSW; exact run_loadH (.tmp 28) rfl g o rfl hs hSW.2 HHL.out)
  simp only [List.set_cons_succ, List.set_cons_zero]
  refine wpUpto_takeL (i := 6) (v := .slice (some ⟨g, o, none⟩) n c) rfl rfl (by decide +kernel) (by decide +kernel) (by decide +kernel) (by decide +kernel) (by decide) (fun _ _ _ h => h) (Or.inl ⟨by rfl, ?_⟩) (SS.out _ BD.out) ?_
  · (intro W hSW; have c0 := hSW.1.cell 0; simp at c0; go_simp)
  simp only [List.set_cons_succ, List.set_cons_zero]
  refine wpUpto_takeL (i := 7) (v := .slice (some A1) n1 c1) rfl rfl (by decide +kernel) (by decide +kernel) (by decide +kernel) (by decide +kernel) (by decide) (fun _ _ _ h => h) (Or.inl ⟨by rfl, ?_⟩) (SS.out _ BD.out) ?_
  · (intro W hSW; have c1 := HSL.out W; go_simp)
  simp only [List.set_cons_succ, List.set_cons_zero]
  refine wpUpto_two (i := 0) (j := 4) rfl rfl (by decide +kernel) rfl rfl ?_ ?_
  · intro Q0 hQ0
    refine wp_val (w' := V.drew) (v := vo) (by have c0 := (SO.out _ BD.out).cell 0; simp at c0; go_simp) ?_
    refine hQ0.out _ _ (fun _ => SS.out _ BD.out) ?_
    clear hQ0 Q0
    simp only [Act.put, List.setIfInBounds_toArray]
    refine wpUpto_one (i := 4) rfl (by decide +kernel) rfl ?_
    intro Q0 hQ0
    refine wp_val (run_buildH (.tmp 29) rfl hs HHL.out rfl) ?_
    have B1 := hid (BD.out.alloc BD.out.size (.cells (ubs hs).toArray 25))
    have QA := hid (show At (V.drew.alloc (.cells (ubs hs).toArray 25)) V.drew.heap.size (ubs hs).toArray 25 from At.new _ _ _)
    generalize (V.drew.alloc (.cells (ubs hs).toArray 25)) = W1 at B1 QA ⊢
    generalize V.drew.heap.size = q1 at QA ⊢
    refine hQ0.out _ _ (fun _ => SS.out _ B1.out) ?_
    clear hQ0 Q0
    simp only [Act.put]
    refine wpUpto_one (i := 5) rfl (by decide +kernel) rfl ?_
    intro Q0 hQ0
    refine wp_append_ho (.tmp 26) (.tmp 30) rfl (XO + 1) vo m fl rfl (HAO.out _ B1.out) q1 hs rfl QA.out HHL.out HNL.out (by have := HXL.out; have := B1.out.size; omega) ?_
    intro A4 c4 W3 h1 h2 h3
    have HA4 := hid h1
    have HG4 := hid h2
    have HO4 := hid h3
    have F4 := hid (show Fr (fun k => vo.ownBlock = some k) V W3 from (Fr.of_new B1.out).grown h2 (fun k hk => .inr hk))
    have S4 := hid (show At W3 (s) #[.slice (some ⟨g, o, none⟩) n c] 31 ∧ W3.rangeAt g o (ubs hs) from by
      have hS := SS.out V (Below.refl _ _)
      have hlo := HLO.out
      have hxl := HXL.out
      have hgb := HGB.out
      refine ⟨hS.1.fr F4.out (fun e => by have := (HOW.out _ e).1; omega), fun r u hu => (F4.out.cell (a := ⟨g, o + r, none⟩) (show g < V.heap.size by omega) (fun e => by have := (HOW.out g e).1; omega)).trans (hS.2 r u hu)⟩)
    refine hQ0.out _ _ (fun _ => S4.out) ?_
    clear hQ0 Q0 h1 h2 h3
    simp only [Act.put]
    refine wpUpto_one (i := 8) rfl (by decide +kernel) rfl ?_
    intro Q0 hQ0
    have hX3 := hid (show At W3 XO #[vo] 31 from HHO.out.fr F4.out (fun e => by have := (HOW.out _ e).1; omega))
    refine wp_unit (w' := W3.setCell ⟨XO, 0, none⟩ (.slice A4 (m + 1) c4)) (by have c0 := hX3.out.cell 0; have f0 := hX3.out.frozen 0; simp at c0; go_simp) ?_
    have S5 := hid (show At (W3.setCell ⟨XO, 0, none⟩ (.slice A4 (m + 1) c4)) (s) #[.slice (some ⟨g, o, none⟩) n c] 31 ∧ (W3.setCell ⟨XO, 0, none⟩ (.slice A4 (m + 1) c4)).rangeAt g o (ubs hs) from by
      have hlo := HLO.out
      have hgb := HGB.out
      exact ⟨S4.out.1.far (p := ⟨XO, 0, none⟩) (by show _ ≠ XO; omega) _, fun r u hu => (World.cell?_of_block (w := W3) (Below.heap_setCell W3 ⟨XO, 0, none⟩ _ g (by show g ≠ XO; omega))).trans (S4.out.2 r u hu)⟩)
    refine hQ0.out _ _ (fun _ => S5.out) ?_
    clear hQ0 Q0
    simp only [Act.put]
    have O5 := hid (show OpC K s XO ((runM lv bes pre).st ++ [hs]) (runM lv bes pre).tx (W3.setCell ⟨XO, 0, none⟩ (.slice A4 (m + 1) c4)) from
      OpC.push jc HHO.out HHK.out HHT.out (fun k e => (HOW.out k e).1) B1.out HG4.out (by rw [HFL.out.1, HFL.out.2]; exact HA4.out) HO4.out)
    have F5 := hid (show Fr (fun k => k = XO ∨ vo.ownBlock = some k) V (W3.setCell ⟨XO, 0, none⟩ (.slice A4 (m + 1) c4)) from (F4.out.mono (fun _ _ h => .inr h)).setCell (p := ⟨XO, 0, none⟩) (.inr (.inl rfl)) _)
    generalize (W3.setCell ⟨XO, 0, none⟩ (.slice A4 (m + 1) c4)) = W5 at S5 O5 F5 ⊢
    clear HA4 HG4 HO4 F4 S4 hX3 B1 SS SO HAO
    refine wpUpto_one (i := 9) rfl (by decide +kernel) rfl ?_
    intro Q0 hQ0
    refine wp_unit (w' := W5.setCell ⟨s, 0, none⟩ (.slice (some A1) n1 c1)) (by have c0 := S5.out.1.cell 0; have f0 := S5.out.1.frozen 0; simp at c0; go_simp) ?_
    refine hQ0.out _ _ (fun h => absurd rfl h) ?_
    clear hQ0 Q0
    refine wpUpto_done (by decide +kernel) ?_ _
    go_simp
    go_wp2
    refine bodyPost_end (results_none rfl _ _ _) rfl ?_
    have hlo := HLO.out
    have hF6 : Fr (fun k => k = s ∨ k = XO ∨ vo.ownBlock = some k) V (W5.setCell ⟨s, 0, none⟩ (.slice (some A1) n1 c1)) := (F5.out.mono (fun _ _ h => .inr h)).setCell (p := ⟨s, 0, none⟩) (.inr (.inl rfl)) _
    have hne : ∀ y, y ≤ s + 3 → y ≠ s → ¬ (y = s ∨ y = XO ∨ vo.ownBlock = some y) := fun y hy hy2 e => by
      rcases e with e | e | e
      · exact hy2 e
      · omega
      · have := (HOW.out y e).1
        omega
    refine ⟨rfl, ?_⟩
    have hst := HST.out
    exact ⟨by rw [hst]; exact OpC.far jc O5.out (.inl rfl) hlo.2 _, by rw [hst]; exact HX.out.b.fr hF6 (hne _ (by omega) (by omega)), by rw [hst]; exact HIN.out _ (S5.out.1.put 0 _), HX.out.j.fr hF6 (hne _ (by omega) (by omega)), HX.out.r.fr hF6 (hne _ (by omega) (by omega)), hlo,
      HX.out.below.trans (hF6.below (fun k hk => by rcases hk with e | e | e; omega; omega; have := (HOW.out k e).1; omega) (by have := HXL.out; omega))⟩
  · intro Q0 hQ0
    refine wp_val (run_buildH (.tmp 29) rfl hs HHL.out rfl) ?_
    have B1 := hid (BD.out.alloc BD.out.size (.cells (ubs hs).toArray 25))
    have QA := hid (show At (V.drew.alloc (.cells (ubs hs).toArray 25)) V.drew.heap.size (ubs hs).toArray 25 from At.new _ _ _)
    generalize (V.drew.alloc (.cells (ubs hs).toArray 25)) = W1 at B1 QA ⊢
    generalize V.drew.heap.size = q1 at QA ⊢
    refine hQ0.out _ _ (fun _ => SS.out _ B1.out) ?_
    clear hQ0 Q0
    simp only [Act.put, List.setIfInBounds_toArray]
    refine wpUpto_one (i := 0) rfl (by decide +kernel) rfl ?_
    intro Q0 hQ0
    refine wp_val (w' := W1) (v := vo) (by have c0 := (SO.out _ B1.out).cell 0; simp at c0; go_simp) ?_
    refine hQ0.out _ _ (fun _ => SS.out _ B1.out) ?_
    clear hQ0 Q0
    simp only [Act.put]
    refine wpUpto_one (i := 5) rfl (by decide +kernel) rfl ?_
    intro Q0 hQ0
    refine wp_append_ho (.tmp 26) (.tmp 30) rfl (XO + 1) vo m fl rfl (HAO.out _ B1.out) q1 hs rfl QA.out HHL.out HNL.out (by have := HXL.out; have := B1.out.size; omega) ?_
    intro A4 c4 W3 h1 h2 h3
    have HA4 := hid h1
    have HG4 := hid h2
    have HO4 := hid h3
    have F4 := hid (show Fr (fun k => vo.ownBlock = some k) V W3 from (Fr.of_new B1.out).grown h2 (fun k hk => .inr hk))
    have S4 := hid (show At W3 (s) #[.slice (some ⟨g, o, none⟩) n c] 31 ∧ W3.rangeAt g o (ubs hs) from by
      have hS := SS.out V (Below.refl _ _)
      have hlo := HLO.out
      have hxl := HXL.out
      have hgb := HGB.out
      refine ⟨hS.1.fr F4.out (fun e => by have := (HOW.out _ e).1; omega), fun r u hu => (F4.out.cell (a := ⟨g, o + r, none⟩) (show g < V.heap.size by omega) (fun e => by have := (HOW.out g e).1; omega)).trans (hS.2 r u hu)⟩)
    refine hQ0.out _ _ (fun _ => S4.out) ?_
    clear hQ0 Q0 h1 h2 h3
    simp only [Act.put]
    refine wpUpto_one (i := 8) rfl (by decide +kernel) rfl ?_
    intro Q0 hQ0
    have hX3 := hid (show At W3 XO #[vo] 31 from HHO.out.fr F4.out (fun e => by have := (HOW.out _ e).1; omega))
    refine wp_unit (w' := W3.setCell ⟨XO, 0, none⟩ (.slice A4 (m + 1) c4)) (by have c0 := hX3.out.cell 0; have f0 := hX3.out.frozen 0; simp at c0; go_simp) ?_
    have S5 := hid (show At (W3.setCell ⟨XO, 0, none⟩ (.slice A4 (m + 1) c4)) (s) #[.slice (some ⟨g, o, none⟩) n c] 31 ∧ (W3.setCell ⟨XO, 0, none⟩ (.slice A4 (m + 1) c4)).rangeAt g o (ubs hs) from by
      have hlo := HLO.out
      have hgb := HGB.out
      exact ⟨S4.out.1.far (p := ⟨XO, 0, none⟩) (by show _ ≠ XO; omega) _, fun r u hu => (World.cell?_of_block (w := W3) (Below.heap_setCell W3 ⟨XO, 0, none⟩ _ g (by show g ≠ XO; omega))).trans (S4.out.2 r u hu)⟩)
    refine hQ0.out _ _ (fun _ => S5.out) ?_
    clear hQ0 Q0
    simp only [Act.put]
    have O5 := hid (show OpC K s XO ((runM lv bes pre).st ++ [hs]) (runM lv bes pre).tx (W3.setCell ⟨XO, 0, none⟩ (.slice A4 (m + 1) c4)) from
      OpC.push jc HHO.out HHK.out HHT.out (fun k e => (HOW.out k e).1) B1.out HG4.out (by rw [HFL.out.1, HFL.out.2]; exact HA4.out) HO4.out)
    have F5 := hid (show Fr (fun k => k = XO ∨ vo.ownBlock = some k) V (W3.setCell ⟨XO, 0, none⟩ (.slice A4 (m + 1) c4)) from (F4.out.mono (fun _ _ h => .inr h)).setCell (p := ⟨XO, 0, none⟩) (.inr (.inl rfl)) _)
    generalize (W3.setCell ⟨XO, 0, none⟩ (.slice A4 (m + 1) c4)) = W5 at S5 O5 F5 ⊢
    clear HA4 HG4 HO4 F4 S4 hX3 B1 SS SO HAO
    refine wpUpto_one (i := 9) rfl (by decide +kernel) rfl ?_
    intro Q0 hQ0
    refine wp_unit (w' := W5.setCell ⟨s, 0, none⟩ (.slice (some A1) n1 c1)) (by have c0 := S5.out.1.cell 0; have f0 := S5.out.1.frozen 0; simp at c0; go_simp) ?_
    refine hQ0.out _ _ (fun h => absurd rfl h) ?_
    clear hQ0 Q0
    refine wpUpto_done (by decide +kernel) ?_ _
    go_simp
    go_wp2
    refine bodyPost_end (results_none rfl _ _ _) rfl ?_
    have hlo := HLO.out
    have hF6 : Fr (fun k => k = s ∨ k = XO ∨ vo.ownBlock = some k) V (W5.setCell ⟨s, 0, none⟩ (.slice (some A1) n1 c1)) := (F5.out.mono (fun _ _ h => .inr h)).setCell (p := ⟨s, 0, none⟩) (.inr (.inl rfl)) _
    have hne : ∀ y, y ≤ s + 3 → y ≠ s → ¬ (y = s ∨ y = XO ∨ vo.ownBlock = some y) := fun y hy hy2 e => by
      rcases e with e | e | e
      · exact hy2 e
      · omega
      · have := (HOW.out y e).1
        omega
    refine ⟨rfl, ?_⟩
    have hst := HST.out
    exact ⟨by rw [hst]; exact OpC.far jc O5.out (.inl rfl) hlo.2 _, by rw [hst]; exact HX.out.b.fr hF6 (hne _ (by omega) (by omega)), by rw [hst]; exact HIN.out _ (S5.out.1.put 0 _), HX.out.j.fr hF6 (hne _ (by omega) (by omega)), HX.out.r.fr hF6 (hne _ (by omega) (by omega)), hlo,
      HX.out.below.trans (hF6.below (fun k hk => by rcases hk with e | e | e; omega; omega; have := (HOW.out k e).1; omega) (by have := HXL.out; omega))⟩
end Go.Proofs.YtdegmcfcbndelaaDoor

namespace Go.Proofs.YtdegmcfcbndelaaDoor
open Go.RowKit

theorem wp_region_upto_in {P : Program} {ops : Array Oper} {Q : Exit → Go.Act → World → Prop} {id : Nat} {a : Go.Act} {w V : World} (S : World → Prop) (z n : Nat) (hV : w.drew = V) (hn : ops.size = n) (hm : P.follows .mixedOrders = true)
    (h : wpUpto P .any ops Q S z n (Array.replicate n false) a V) : (Code.region id ops true).wp P Q a w :=
  wp_region_upto S z n hn hm (by rw [hV]; exact h)
set_option maxRecDepth 100000 in
set_option maxHeartbeats 4000000 in
theorem climb1_join {gj : Nat} {lbj : Array Value} {b0 : Nat} {K : (Nat → Prop) → List (List UInt8) → World → Prop} (jc : JtC gj lbj b0 K) {w V : World} {s XO : Nat} {lv bes : List UInt8} {pre : List Evt} (hTb : ∀ V', Below b0 w V' → Tabs V') (k p : Nat) (hk1 : 1 ≤ k) (hk2 : k ≤ 32)
    (h32 : ∀ x ∈ (runM lv bes pre).st, x.length = 32) (hst2 : 2 ≤ (runM lv bes pre).st.length) (hst : (runM lv bes pre).st.length ≤ 8589934592) (htx : (runM lv bes pre).tx.length ≤ 8589934591) (x : ClW gj lbj b0 K w s XO lv bes pre V) :
    Calls Tryd.prog 103 (#[.int .i64 2, .int .i64 (k : Int), .int .u64 (p : Int)] ++ #[.pointer (some ⟨XO, 0, none⟩), .pointer (some ⟨s + 1, 0, none⟩), .pointer (some ⟨s, 0, none⟩), .pointer (some ⟨s + 2, 0, none⟩)]) V fun r V' => r = .returned (.tuple #[]) ∧ ClW gj lbj b0 K w s XO lv bes (pre ++ [(2, k, p)]) V' := by
  have hcf := jc.fn
  obtain ⟨vo, T, ho, ha, hk, hT⟩ := x.o
  obtain ⟨A, c, rfl⟩ := ha.form
  obtain ⟨st, hste⟩ : ∃ st, st = (runM lv bes pre).st := ⟨_, rfl⟩
  obtain ⟨tt, htt⟩ : ∃ t, t = joinM k st := ⟨_, rfl⟩
  have hstep : runM lv bes (pre ++ [(2, k, p)]) = ⟨st.take (st.length - 2) ++ [hashL tt], (runM lv bes pre).tx ++ [tt], (runM lv bes pre).a, (runM lv bes pre).b⟩ := by
    rw [runM_snoc, stepM_join, htt, hste]
  rw [← hste] at h32 hst2 hst ha ho hT
  obtain ⟨g, rfl, hr2⟩ := ha.range (i := st.length - 2) (by omega)
  obtain ⟨g', e', hr3⟩ := ha.range (i := st.length - 2 + 1) (by omega)
  cases e'
  rw [flat_part st _ h32 (by omega)] at hr2 hr3
  obtain ⟨hx, hhx⟩ : ∃ h, h = st.getD (st.length - 2) [] := ⟨_, rfl⟩
  obtain ⟨hy, hhy⟩ : ∃ h, h = st.getD (st.length - 2 + 1) [] := ⟨_, rfl⟩
  have gmem : ∀ i, i < st.length → st.getD i [] ∈ st := fun i hi => by
    rw [List.getD_eq_getElem?_getD, List.getElem?_eq_getElem hi]
    exact List.getElem_mem hi
  have HXL := hid (show hx.length = 32 by rw [hhx]; exact h32 _ (gmem _ (by omega)))
  have HYL := hid (show hy.length = 32 by rw [hhy]; exact h32 _ (gmem _ (by omega)))
  have hte : tt = joinT k hx hy := by rw [htt, joinM, ← hhx, ← hhy]
  rw [← hhx] at hr2
  rw [← hhy] at hr3
  obtain ⟨n, hn⟩ : ∃ n, n = st.length := ⟨_, rfl⟩
  obtain ⟨a2, ha2⟩ : ∃ n, n = st.length - 2 := ⟨_, rfl⟩
  obtain ⟨a3, ha3⟩ : ∃ n, n = a2 + 1 := ⟨_, rfl⟩
  rw [← ha2] at hr2 hr3
  rw [← ha3] at hr3
  obtain ⟨o2, ho2⟩ : ∃ n, n = 32 * a2 := ⟨_, rfl⟩
  obtain ⟨o3, ho3⟩ : ∃ n, n = 32 * a3 := ⟨_, rfl⟩
  rw [← ho2] at hr2
  rw [← ho3] at hr3
  have hcut := ha.cut (k := a2) (by omega)
  rw [← flat_take st a2 h32 (by omega)] at hcut
  have hcap := ha.cap
  rw [← hn] at ha hcap ho
  have HCT := hid (fun V => run_h_to (some ⟨g, 0, none⟩) n c a2 (by omega) V (fun e => by cases e) (fun a e => by cases e; rfl))
  have HAC := hid (fun (V' : World) (q : Below V.heap.size V V') => hcut.kept q)
  have HTL := hid (show tt.length = 66 by rw [hte]; exact joinT_length k hx hy HXL.out HYL.out)
  have HJT := hid (fun W => pjoinText_own k hx hy W hk1 hk2 HXL.out HYL.out)
  rw [← hte] at HJT
  have HHL := hid (hashL_length tt)
  have HSU := hid (fun (V' : World) (A : Option Addr) (c : Nat) (q : Below V.heap.size V V') (h : Rb V' V'.heap.size A tt) => show Calls Tryd.prog 91 #[.slice A 66 c] V' (fun e w' => e = .returned (.agg (ubs (hashL tt)).toArray) ∧ Below V'.heap.size V' w') by
    have := sum_any tt A c V' h (by rw [HTL.out]; omega) (hTb V' (x.below.trans (q.mono (by have := x.lo; have := ho.lt; omega))))
    rw [HTL.out] at this
    exact this)
  have HX := hid x
  have HLO := hid x.lo
  have HHO := hid ho
  have HHK := hid hk
  have HHT := hid hT
  have HOW := hid (show XO + 1 ≤ g ∧ g < V.heap.size from World.ownsRow.lt ha g rfl)
  have HST := hid hstep
  have HNL := hid (show a2 ≤ 8589934592 by omega)
  have HXB := hid ho.lt
  have HTX := hid htx
  have HFN := hid (show (st.take a2 ++ [hashL tt]).length = a2 + 1 ∧ (st.take a2 ++ [hashL tt]).flatten = (st.take a2).flatten ++ hashL tt by rw [List.length_append, List.length_take]; refine ⟨by simp; omega, by simp⟩)
  rw [← ha2] at HST
  have SS := hid (fun (V' : World) (q : Below V.heap.size V V') => show At V' XO #[.slice (some ⟨g, 0, none⟩) n c] 31 ∧ V'.rangeAt g o2 (ubs hx) ∧ V'.rangeAt g o3 (ubs hy) from
    ⟨ho.new_ q, fun r u hu => (World.cell?_of_block (w := V) (q.block g HOW.out.2)).trans (hr2 r u hu), fun r u hu => (World.cell?_of_block (w := V) (q.block g HOW.out.2)).trans (hr3 r u hu)⟩)
  have SB := hid (x.j.cell 0)
  have HBJ := hid (fun (V' : World) (h : At V' (s + 2) #[.func (.func gj) #[] lbj] 136) => h)
  have q0 := ho.cell 0
  simp at q0
  have e1 : (n : Int) - 2 = (a2 : Int) := by omega
  have ew : IntKind.i64.wrap (a2 : Int) = (a2 : Int) := by rw [IntKind.wrap_i64] <;> omega
  have e2 : (a2 : Int) + 1 = (a3 : Int) := by omega
  have ew3 : IntKind.i64.wrap (a3 : Int) = (a3 : Int) := by rw [IntKind.wrap_i64] <;> omega
  have b2 : (a2 : Int) < (n : Int) := by omega
  have b3 : (a3 : Int) < (n : Int) := by omega
  have d2 : decide ((a2 : Int) < (n : Int)) = true := by simp; omega
  have d3 : decide ((a3 : Int) < (n : Int)) = true := by simp; omega
  have b2n : a2 < n := by omega
  have b3n : a3 < n := by omega
  have eo2 : a2 * 32 = o2 := by omega
  have eo3 : a3 * 32 = o3 := by omega
  clear x ho ha hk hT hste htt hstep h32 hst2 hst htx hr2 hr3 hhx hhy gmem hte hn ha2 ha3 ho2 ho3 hcut hcap hTb hk1 hk2
  go_enter Tryd.func103, Tryd.ntmps103
  go_wp2
  try simp only [Act.put, List.setIfInBounds_toArray, List.set_cons_succ, List.set_cons_zero]
  have BD := hid ((Below.refl V.heap.size V).drew)
  refine wp_region_upto (fun V => At V XO #[.slice (some ⟨g, 0, none⟩) n c] 31 ∧ V.rangeAt g o2 (ubs hx) ∧ V.rangeAt g o3 (ubs hy)) 16 16 (by kernel_rfl) (by kernel_rfl) ?_
  refine wpUpto_takeL (i := 0) (v := .int .i64 (k : Int)) rfl rfl (by decide +kernel) (by decide +kernel) (by decide +kernel) (by decide +kernel) (by decide) (fun _ _ _ h => h) (Or.inl ⟨by rfl, ?_⟩) (SS.out _ BD.out) ?_
  · (intro W hSW; go_simp)
  simp only [List.set_cons_succ, List.set_cons_zero]
  refine wpUpto_takeL (i := 1) (v := .slice (some ⟨g, 0, none⟩) n c) rfl rfl (by decide +kernel) (by decide +kernel) (by decide +kernel) (by decide +kernel) (by decide) (fun _ _ _ h => h) (Or.inl ⟨by rfl, ?_⟩) (SS.out _ BD.out) ?_
  · (intro W hSW; have c0 := hSW.1.cell 0; simp at c0; go_simp)
  simp only [List.set_cons_succ, List.set_cons_zero]
  refine wpUpto_takeL (i := 2) (v := .int .i64 (a2 : Int)) rfl rfl (by decide +kernel) (by decide +kernel) (by decide +kernel) (by decide +kernel) (by decide) (fun _ _ _ h => h) (Or.inl ⟨by rfl, ?_⟩) (SS.out _ BD.out) ?_
  · (intro W hSW; go_simp)
  simp only [List.set_cons_succ, List.set_cons_zero]
  refine wpUpto_takeL (i := 3) (v := .pointer (some ⟨g, o2, none⟩)) rfl rfl (by decide +kernel) (by decide +kernel) (by decide +kernel) (by decide +kernel) (by decide) (fun _ _ _ h => h) (Or.inl ⟨by rfl, ?_⟩) (SS.out _ BD.out) ?_
  · (intro W hSW; go_simp)
  simp only [List.set_cons_succ, List.set_cons_zero]
  refine wpUpto_takeL (i := 4) (v := .agg (ubs hx).toArray) rfl rfl (by decide +kernel) (by decide +kernel) (by decide +kernel) (by decide +kernel) (by decide) (fun _ _ _ h => h) (Or.inl ⟨by rfl, ?_⟩) (SS.out _ BD.out) ?_
  · (intro W hSW; exact run_loadH (.tmp 43) rfl g o2 rfl hx hSW.2.1 HXL.out)
  simp only [List.set_cons_succ, List.set_cons_zero]
  refine wpUpto_takeL (i := 5) (v := .slice (some ⟨g, 0, none⟩) n c) rfl rfl (by decide +kernel) (by decide +kernel) (by decide +kernel) (by decide +kernel) (by decide) (fun _ _ _ h => h) (Or.inl ⟨by rfl, ?_⟩) (SS.out _ BD.out) ?_
  · (intro W hSW; have c0 := hSW.1.cell 0; simp at c0; go_simp)
  simp only [List.set_cons_succ, List.set_cons_zero]
  refine wpUpto_takeL (i := 6) (v := .int .i64 (a2 : Int)) rfl rfl (by decide +kernel) (by decide +kernel) (by decide +kernel) (by decide +kernel) (by decide) (fun _ _ _ h => h) (Or.inl ⟨by rfl, ?_⟩) (SS.out _ BD.out) ?_
  · (intro W hSW; go_simp)
  simp only [List.set_cons_succ, List.set_cons_zero]
  refine wpUpto_takeL (i := 7) (v := .int .i64 (a3 : Int)) rfl rfl (by decide +kernel) (by decide +kernel) (by decide +kernel) (by decide +kernel) (by decide) (fun _ _ _ h => h) (Or.inl ⟨by rfl, ?_⟩) (SS.out _ BD.out) ?_
  · (intro W hSW; go_simp)
  simp only [List.set_cons_succ, List.set_cons_zero]
  refine wpUpto_takeL (i := 8) (v := .pointer (some ⟨g, o3, none⟩)) rfl rfl (by decide +kernel) (by decide +kernel) (by decide +kernel) (by decide +kernel) (by decide) (fun _ _ _ h => h) (Or.inl ⟨by rfl, ?_⟩) (SS.out _ BD.out) ?_
  · (intro W hSW; go_simp)
  simp only [List.set_cons_succ, List.set_cons_zero]
  refine wpUpto_takeL (i := 9) (v := .agg (ubs hy).toArray) rfl rfl (by decide +kernel) (by decide +kernel) (by decide +kernel) (by decide +kernel) (by decide) (fun _ _ _ h => h) (Or.inl ⟨by rfl, ?_⟩) (SS.out _ BD.out) ?_
  · (intro W hSW; exact run_loadH (.tmp 48) rfl g o3 rfl hy hSW.2.2 HYL.out)
  simp only [List.set_cons_succ, List.set_cons_zero]
  refine wpUpto_one (i := 10) rfl (by decide +kernel) rfl ?_
  intro Q0 hQ0
  go_simp
  go_at_call 68
  refine (HJT.out _).mono ?_
  rintro r1 W1 ⟨A5, c5, rfl, hrb, hfr, hb⟩
  have B1 := hid (BD.out.trans (hb.mono BD.out.size))
  have RB := hid hrb
  have FR := hid (show ∀ q, (Value.slice A5 66 c5).ownBlock = some q → V.heap.size ≤ q ∧ q < W1.heap.size from fun q e => ⟨Nat.le_trans BD.out.size (hfr q e).1, (hfr q e).2⟩)
  refine hQ0.out _ _ (fun _ => SS.out _ B1.out) ?_
  clear hQ0 Q0 hrb hfr hb
  try simp only [Act.put, List.setIfInBounds_toArray, List.set_cons_succ, List.set_cons_zero]
  refine wpUpto_takeL (i := 11) (v := .tuple #[.slice A5 66 c5, .nilIface]) rfl rfl (by decide +kernel) (by decide +kernel) (by decide +kernel) (by decide +kernel) (by decide) (fun _ _ _ h => h) (Or.inl ⟨by rfl, ?_⟩) (SS.out _ B1.out) ?_
  · (intro W hSW; go_simp)
  simp only [List.set_cons_succ, List.set_cons_zero]
  refine wpUpto_takeL (i := 12) (v := .slice A5 66 c5) rfl rfl (by decide +kernel) (by decide +kernel) (by decide +kernel) (by decide +kernel) (by decide) (fun _ _ _ h => h) (Or.inl ⟨by rfl, ?_⟩) (SS.out _ B1.out) ?_
  · (intro W hSW; go_simp)
  simp only [List.set_cons_succ, List.set_cons_zero]
  refine wpUpto_takeL (i := 13) (v := .nilIface) rfl rfl (by decide +kernel) (by decide +kernel) (by decide +kernel) (by decide +kernel) (by decide) (fun _ _ _ h => h) (Or.inl ⟨by rfl, ?_⟩) (SS.out _ B1.out) ?_
  · (intro W hSW; go_simp)
  simp only [List.set_cons_succ, List.set_cons_zero]
  refine wpUpto_takeL (i := 14) (v := .slice A5 66 c5) rfl rfl (by decide +kernel) (by decide +kernel) (by decide +kernel) (by decide +kernel) (by decide) (fun _ _ _ h => h) (Or.inl ⟨by rfl, ?_⟩) (SS.out _ B1.out) ?_
  · (intro W hSW; go_simp)
  simp only [List.set_cons_succ, List.set_cons_zero]
  refine wpUpto_takeL (i := 15) (v := .nilIface) rfl rfl (by decide +kernel) (by decide +kernel) (by decide +kernel) (by decide +kernel) (by decide) (fun _ _ _ h => h) (Or.inl ⟨by rfl, ?_⟩) (SS.out _ B1.out) ?_
  · (intro W hSW; go_simp)
  simp only [List.set_cons_succ, List.set_cons_zero]
  refine wpUpto_done (by decide +kernel) ?_ _
  go_simp
  go_wp2
  try simp only [Act.put, List.setIfInBounds_toArray, List.set_cons_succ, List.set_cons_zero]
  have B2 := hid B1.out.drew
  have R2 := hid (show Rb W1.drew W1.drew.heap.size A5 tt from RB.out.below (Below.refl _ _).drew)
  have Z2 := hid (show W1.heap.size ≤ W1.drew.heap.size from Nat.le_refl _)
  obtain ⟨W2, hw2⟩ : ∃ W, W = W1.drew := ⟨_, rfl⟩
  rw [← hw2] at B2 R2 Z2
  have HW2 := hid hw2.symm
  clear hw2
  refine wp_region_upto_in (fun V => At V XO #[.slice (some ⟨g, 0, none⟩) n c] 31) 7 8 HW2.out (by kernel_rfl) (by kernel_rfl) ?_
  refine wpUpto_takeL (i := 0) (v := .slice (some ⟨g, 0, none⟩) n c) rfl rfl (by decide +kernel) (by decide +kernel) (by decide +kernel) (by decide +kernel) (by decide) (fun _ _ _ h => h) (Or.inl ⟨by rfl, ?_⟩) (SS.out _ B2.out).1 ?_
  · (intro W hSW; have c0 := hSW.cell 0; simp at c0; go_simp)
  simp only [List.set_cons_succ, List.set_cons_zero]
  refine wpUpto_takeL (i := 1) (v := .int .i64 (a2 : Int)) rfl rfl (by decide +kernel) (by decide +kernel) (by decide +kernel) (by decide +kernel) (by decide) (fun _ _ _ h => h) (Or.inl ⟨by rfl, ?_⟩) (SS.out _ B2.out).1 ?_
  · (intro W hSW; go_simp)
  simp only [List.set_cons_succ, List.set_cons_zero]
  refine wpUpto_takeL (i := 2) (v := .slice (some ⟨g, 0, none⟩) a2 c) rfl rfl (by decide +kernel) (by decide +kernel) (by decide +kernel) (by decide +kernel) (by decide) (fun _ _ _ h => h) (Or.inl ⟨by rfl, ?_⟩) (SS.out _ B2.out).1 ?_
  · (intro W hSW; have c1 := HCT.out W; go_simp)
  simp only [List.set_cons_succ, List.set_cons_zero]
  refine wpUpto_takeL (i := 3) (v := .slice A5 66 c5) rfl rfl (by decide +kernel) (by decide +kernel) (by decide +kernel) (by decide +kernel) (by decide) (fun _ _ _ h => h) (Or.inl ⟨by rfl, ?_⟩) (SS.out _ B2.out).1 ?_
  · (intro W hSW; go_simp)
  simp only [List.set_cons_succ, List.set_cons_zero]
  refine wpUpto_one (i := 4) rfl (by decide +kernel) rfl ?_
  intro Q0 hQ0
  go_simp
  go_at_call 91
  refine (HSU.out W2 A5 c5 B2.out R2.out).mono ?_
  rintro r3 W3 ⟨rfl, hb⟩
  have B3 := hid (B2.out.trans (hb.mono B2.out.size))
  have R3 := hid ((R2.out.below hb).mono hb.size)
  have Z3 := hid (Nat.le_trans Z2.out hb.size)
  refine hQ0.out _ _ (fun _ => (SS.out _ B3.out).1) ?_
  clear hQ0 Q0 hb
  try simp only [Act.put, List.setIfInBounds_toArray, List.set_cons_succ, List.set_cons_zero]
  refine wpUpto_one (i := 5) rfl (by decide +kernel) rfl ?_
  intro Q0 hQ0
  refine wp_val (run_buildH (.tmp 57) rfl (hashL tt) HHL.out rfl) ?_
  have B4 := hid (B3.out.alloc B3.out.size (.cells (ubs (hashL tt)).toArray 25))
  have QA := hid (show At (W3.alloc (.cells (ubs (hashL tt)).toArray 25)) W3.heap.size (ubs (hashL tt)).toArray 25 from At.new _ _ _)
  have R4 := hid (show Rb (W3.alloc (.cells (ubs (hashL tt)).toArray 25)) (W3.alloc (.cells (ubs (hashL tt)).toArray 25)).heap.size A5 tt from (R3.out.below ((Below.refl _ _).alloc (Nat.le_refl _) _)).mono (by simp))
  have Z4 := hid (show W1.heap.size ≤ (W3.alloc (.cells (ubs (hashL tt)).toArray 25)).heap.size from Nat.le_trans Z3.out (by simp))
  generalize (W3.alloc (.cells (ubs (hashL tt)).toArray 25)) = W4 at B4 QA R4 Z4 ⊢
  generalize W3.heap.size = q1 at QA ⊢
  refine hQ0.out _ _ (fun _ => (SS.out _ B4.out).1) ?_
  clear hQ0 Q0
  try simp only [Act.put, List.setIfInBounds_toArray]
  refine wpUpto_one (i := 6) rfl (by decide +kernel) rfl ?_
  intro Q0 hQ0
  refine wp_append_ho (.tmp 55) (.tmp 58) rfl (XO + 1) (.slice (some ⟨g, 0, none⟩) a2 c) a2 (st.take a2).flatten rfl (HAC.out _ B4.out) q1 (hashL tt) rfl QA.out HHL.out HNL.out (by have := HXB.out; have := B4.out.size; omega) ?_
  intro A6 c6 W6 h1 h2 h3
  have HA6 := hid h1
  have HG6 := hid (show W4.grownBy W6 (Value.slice (some ⟨g, 0, none⟩) n c).ownBlock from h2)
  have HO6 := hid (show (Value.slice A6 (a2 + 1) c6).ownBlock = (Value.slice (some ⟨g, 0, none⟩) n c).ownBlock ∨ (Value.slice A6 (a2 + 1) c6).ownBlock = some W4.heap.size from h3)
  have F6 := hid (show Fr (fun k => k = g) V W6 from (Fr.of_new B4.out).grown h2 (fun k hk => .inr (by have : g = k := (by simpa [Value.ownBlock] using hk); exact this.symm)))
  have G6 := hid (show Fr (fun k => k = g) W4 W6 from (Fr.refl _ _).grown h2 (fun k hk => .inr (by have : g = k := (by simpa [Value.ownBlock] using hk); exact this.symm)))
  have X6 := hid (show At W6 XO #[.slice (some ⟨g, 0, none⟩) n c] 31 from HHO.out.fr F6.out (by have := HOW.out; show ¬ XO = g; omega))
  refine hQ0.out _ _ (fun _ => X6.out) ?_
  clear hQ0 Q0 h1 h2 h3
  try simp only [Act.put]
  refine wpUpto_one (i := 7) rfl (by decide +kernel) rfl ?_
  intro Q0 hQ0
  refine wp_unit (w' := W6.setCell ⟨XO, 0, none⟩ (.slice A6 (a2 + 1) c6)) (by have c0 := X6.out.cell 0; have f0 := X6.out.frozen 0; simp at c0; go_simp) ?_
  have O7 := hid (show OpC K s XO (st.take a2 ++ [hashL tt]) (runM lv bes pre).tx (W6.setCell ⟨XO, 0, none⟩ (.slice A6 (a2 + 1) c6)) from
    OpC.push jc HHO.out HHK.out HHT.out (fun k e => by have : g = k := (by simpa [Value.ownBlock] using e); have := HOW.out; omega) B4.out HG6.out (by rw [HFN.out.1, HFN.out.2]; exact HA6.out) HO6.out)
  have F7 := hid (show Fr (fun k => k = XO ∨ k = g) V (W6.setCell ⟨XO, 0, none⟩ (.slice A6 (a2 + 1) c6)) from (F6.out.mono (fun _ _ h => .inr h)).setCell (p := ⟨XO, 0, none⟩) (.inr (.inl rfl)) _)
  have G7 := hid (show Fr (fun k => k = XO ∨ k = g) W4 (W6.setCell ⟨XO, 0, none⟩ (.slice A6 (a2 + 1) c6)) from (G6.out.mono (fun _ _ h => .inr h)).setCell (p := ⟨XO, 0, none⟩) (.inr (.inl rfl)) _)
  have K7 := hid (show K T (runM lv bes pre).tx (W6.setCell ⟨XO, 0, none⟩ (.slice A6 (a2 + 1) c6)) from jc.keep HHK.out F7.out.size (KeepsS.of_fr F7.out (fun k hk => (jc.inn HHK.out k hk).2) (fun k hk e => by
    have h5 := HHT.out k hk
    rcases e with e | e
    · exact h5.2.2.2.2.1 e
    · exact h5.2.2.2.2.2 (by rw [e]; rfl))))
  have X7 := hid (show At (W6.setCell ⟨XO, 0, none⟩ (.slice A6 (a2 + 1) c6)) XO #[.slice A6 (a2 + 1) c6] 31 from X6.out.put 0 _)
  have A7 := hid (show Ah (W6.setCell ⟨XO, 0, none⟩ (.slice A6 (a2 + 1) c6)) (XO + 1) (.slice A6 (a2 + 1) c6) (a2 + 1) ((st.take a2).flatten ++ hashL tt) from HA6.out.far (p := ⟨XO, 0, none⟩) (Nat.lt_succ_self _) _)
  have O8 := hid (show ∀ k, T k → (Value.slice A6 (a2 + 1) c6).ownBlock ≠ some k from fun k hk e => by
    rcases HO6.out with h | h
    · exact (HHT.out k hk).2.2.2.2.2 (by have h9 := h.symm.trans e; exact h9)
    · rw [h] at e
      have h6 := (jc.inn HHK.out k hk).2
      have h7 := B4.out.size
      have : W4.heap.size = k := by simpa using e
      omega)
  have T7 := hid (show ∀ k, (Value.slice A5 66 c5).ownBlock = some k → (Value.slice A6 (a2 + 1) c6).ownBlock ≠ some k from fun k hk e => by
    have h8 := FR.out k hk
    rcases HO6.out with h | h
    · rw [h] at e
      have : g = k := by simpa [Value.ownBlock] using e
      have := HOW.out
      omega
    · rw [h] at e
      have : W4.heap.size = k := by simpa using e
      have := Z4.out
      omega)
  have R7 := hid (show Rb (W6.setCell ⟨XO, 0, none⟩ (.slice A6 (a2 + 1) c6)) (W6.setCell ⟨XO, 0, none⟩ (.slice A6 (a2 + 1) c6)).heap.size A5 tt from (Rd.fr R4.out G7.out (fun b o e hS => by
    have h8 := FR.out b (by rw [e]; rfl)
    have h9 := HOW.out
    have h10 := HXB.out
    rcases hS with e | e <;> omega)).mono G7.out.size)
  have Z7 := hid (show W1.heap.size ≤ (W6.setCell ⟨XO, 0, none⟩ (.slice A6 (a2 + 1) c6)).heap.size from Nat.le_trans Z4.out G7.out.size)
  have J7 := hid (show At (W6.setCell ⟨XO, 0, none⟩ (.slice A6 (a2 + 1) c6)) (s + 2) #[.func (.func gj) #[] lbj] 136 from HX.out.j.fr F7.out (fun e => by have := HOW.out; have := HLO.out; rcases e with e | e <;> omega))
  generalize (W6.setCell ⟨XO, 0, none⟩ (.slice A6 (a2 + 1) c6)) = W7 at O7 F7 G7 K7 X7 A7 R7 Z7 J7 ⊢
  refine hQ0.out _ _ (fun h => absurd rfl h) ?_
  clear hQ0 Q0 HA6 HG6 HO6 F6 G6 X6 QA B4 R4 Z4 G7
  refine wpUpto_done (by decide +kernel) ?_ _
  have c7 := J7.out.cell 0
  simp at c7
  have HCB := hid (jc.call A5 c5 K7.out HTL.out HTX.out R7.out (fun q e => by
    have h8 := FR.out q e
    have h9 := Z7.out
    have h10 := HXB.out
    have h11 := HLO.out
    exact ⟨by omega, by omega, fun ht => by have := (jc.inn HHK.out q ht).2; omega⟩))
  go_simp
  go_wp2
  refine HCB.out.mono ?_
  rintro r8 W8 ⟨rfl, hf, T', hk', hT'⟩
  have F8 := hid hf
  have K8 := hid hk'
  have T8 := hid hT'
  clear hf hk' hT' HCB c7
  go_wp2
  refine bodyPost_end (results_none rfl _ _ _) rfl ?_
  have hlo := HLO.out
  have hxb := HXB.out
  have how := HOW.out
  have hF : Fr (fun k => k = XO ∨ k = g ∨ T k) V W8 := (F7.out.mono (fun _ _ h => by rcases h with h | h; exact .inl h; exact .inr (.inl h))).next F8.out (fun k _ h => .inr (.inr h))
  have hne : ∀ y, y ≤ s + 3 → s ≤ y → ¬ (y = XO ∨ y = g ∨ T y) := fun y hy hy2 e => by
    rcases e with e | e | e
    · omega
    · omega
    · have := HHT.out y e
      omega
  have hst := HST.out
  refine ⟨rfl, ?_, ?_, ?_, HX.out.j.fr hF (hne _ (by omega) (by omega)), HX.out.r.fr hF (hne _ (by omega) (by omega)), hlo, HX.out.below.trans (hF.below (fun k hk => by
    rcases hk with e | e | e
    · omega
    · omega
    · exact (jc.inn HHK.out k e).1) (by omega))⟩
  · rw [hst]
    refine ⟨.slice A6 (a2 + 1) c6, T', X7.out.fr F8.out (fun e => (HHT.out XO e).2.2.2.2.1 rfl), ?_, K8.out, fun k hk => ?_⟩
    · show Ah W8 (XO + 1) (.slice A6 (a2 + 1) c6) (st.take a2 ++ [hashL tt]).length (st.take a2 ++ [hashL tt]).flatten
      rw [HFN.out.1, HFN.out.2]
      refine ⟨A7.out.1, ?_⟩
      rcases A7.out.2 with h5 | ⟨g2, cap, cur, e5, hb1, hh, r⟩
      · exact .inl h5
      · exact .inr ⟨g2, cap, cur, e5, hb1, (F8.out.block g2 (lt_of_block hh) (fun ht => O8.out g2 ht (by rw [e5]; rfl))).trans hh, r⟩
    · have h7 := F7.out.size
      have h9 := Z7.out
      rcases T8.out k hk with h | h | h
      · have := HHT.out k h
        exact ⟨this.1, this.2.1, this.2.2.1, this.2.2.2.1, this.2.2.2.2.1, O8.out k h⟩
      · refine ⟨by omega, by omega, by omega, by omega, by omega, fun e => ?_⟩
        have := (World.ownsRow.lt A7.out k e).2
        omega
      · have := FR.out k h
        exact ⟨by omega, by omega, by omega, by omega, by omega, T7.out k h⟩
  · rw [hst]
    exact HX.out.b.fr hF (hne _ (by omega) (by omega))
  · rw [hst]
    exact HX.out.l.fr hF (hne _ (by omega) (by omega))
end Go.Proofs.YtdegmcfcbndelaaDoor

namespace Go.Proofs.YtdegmcfcbndelaaDoor
open Go.RowKit

section
variable {gj : Nat} {lbj : Array Value} {b0 : Nat} {K : (Nat → Prop) → List (List UInt8) → World → Prop}
theorem climb_reach (jc : JtC gj lbj b0 K) {w : World} {s XO : Nat} {lv bes : List UInt8} (hTb : ∀ V', Below b0 w V' → Tabs V') {h : Nat} {l : List Nat} (hh : h ≤ 32) (hs : l.Pairwise (· < ·)) (hlen : l.length ≤ 256) (hfit : ∀ x ∈ l, x < 2 ^ h)
    (hlv : lv.length = 32 * l.length) (hbes : bes.length = 32 * (spotsS l h 0).length) :
    ReachC 103 #[.pointer (some ⟨XO, 0, none⟩), .pointer (some ⟨s + 1, 0, none⟩), .pointer (some ⟨s, 0, none⟩), .pointer (some ⟨s + 2, 0, none⟩)] (ClW gj lbj b0 K w s XO lv bes) (walkE h 0 l) := fun pre e post V hE hJ => by
  obtain ⟨a, k, p⟩ := e
  have hok := okE_walk h 0 l
  have hpre : okE pre := by
    have : okE (pre ++ ((a, k, p) :: post)) := by rw [← hE]; exact hok
    exact this.left
  have hkd : ∀ e ∈ pre, e.1 = 0 ∨ e.1 = 1 ∨ e.1 = 2 := hpre.kinds
  have hm := part_le (E := walkE h 0 l) (pre := pre) (post := (a, k, p) :: post) hE
  rw [whole_asides hh hfit, whole_leafs hs hfit] at hm
  have hm2 := spots_le l hh
  have hab := runM_ab lv bes pre hkd
  have htx := runM_tx lv bes pre hpre
  have hlv' := walkE_levels h 0 l (a, k, p) (by rw [hE]; simp)
  rcases hok pre (a, k, p) post hE with h0 | h0 | ⟨h0, hn2⟩
  · obtain rfl : a = 0 := h0
    have hlt := part_asides (E := walkE h 0 l) hE rfl
    rw [whole_asides hh hfit] at hlt
    exact climb1_aside jc k p (spotsS l h 0).length (by omega) (by omega) hbes hJ
  · obtain rfl : a = 1 := h0
    have hlt := part_leafs (E := walkE h 0 l) hE rfl
    rw [whole_leafs hs hfit] at hlt
    exact climb1_leaf jc k p l.length (by omega) (by omega) hlv hJ
  · obtain rfl : a = 2 := h0
    have hnet := runM_net lv bes pre hpre
    exact climb1_join jc hTb k p (hlv'.2 rfl) (Nat.le_trans hlv'.1 hh) (runM_32 hlv hbes pre hkd (by omega) (by omega)) (by omega) (by omega) (by omega) hJ
set_option maxRecDepth 100000 in
set_option maxHeartbeats 4000000 in
theorem pclimb_ok (jc : JtC gj lbj b0 K) {w W : World} {lv bes : List UInt8} (hTb : ∀ V', Below b0 w V' → Tabs V') {T : Nat → Prop} (hK : K T [] W) (hb0 : b0 ≤ W.heap.size) (hw : Below b0 w W) (h : Nat) (l : List Nat) (A AL AB : Option Addr) (c cl cb : Nat)
    (hr : Nu w b0 A l) (hc : l.length ≤ c) (hL : Rd w b0 AL (ubs lv)) (hB : Rd w b0 AB (ubs bes)) (hcl : l.length ≤ cl) (hcb : (spotsS l h 0).length ≤ cb) (hg : rgtB (h : Int) l = true)
    (hlv : lv.length = 32 * l.length) (hbes : bes.length = 32 * (spotsS l h 0).length) :
    Calls Tryd.prog 78 #[.int .i64 (h : Int), .slice A l.length c, .slice AL l.length cl, .slice AB (spotsS l h 0).length cb, .func (.func gj) #[] lbj] W fun r W' => r = .returned (.tuple #[.agg (ubs (climbS l lv (spotsS l h 0) bes h 0).2).toArray, .nilIface]) ∧ Below b0 w W' ∧ ∃ T', K T' (climbS l lv (spotsS l h 0) bes h 0).1 W' := by
  obtain ⟨hh, hne, hlen, hs, hfit⟩ := rgtB_parts hg
  obtain ⟨s, hse⟩ : ∃ s, s = W.heap.size := ⟨_, rfl⟩
  obtain ⟨m, hm⟩ : ∃ m, m = n32 := ⟨_, rfl⟩
  obtain ⟨W1, hW1⟩ : ∃ V, V = (((W.alloc (.cells #[.slice AL l.length cl] 31)).alloc (.cells #[.slice AB (spotsS l h 0).length cb] 31)).alloc (.cells #[.func (.func gj) #[] lbj] 136)).alloc (.cells (ubs m).toArray 25) := ⟨_, rfl⟩
  have hb1 : Below W.heap.size W W1 := by rw [hW1]; exact ((((Below.refl _ _).alloc (Nat.le_refl _) _).alloc (by simp) _).alloc (by simp; omega) _).alloc (by simp; omega) _
  have hs1 : W1.heap.size = s + 4 := by rw [hW1, hse]; simp
  have X0 := hid (show At W1 s #[.slice AL l.length cl] 31 by rw [hW1, hse]; exact (((At.new _ _ _).alloc _).alloc _).alloc _)
  have X1 := hid (show At W1 (s + 1) #[.slice AB (spotsS l h 0).length cb] 31 by rw [hW1, hse]; exact ((At.new_at (by simp)).alloc _).alloc _)
  have X2 := hid (show At W1 (s + 2) #[.func (.func gj) #[] lbj] 136 by rw [hW1, hse]; exact (At.new_at (by simp)).alloc _)
  have X3 := hid (show At W1 (s + 3) (ubs m).toArray 25 by rw [hW1, hse]; exact At.new_at (by simp))
  have B1 := hid hb1
  have S1 := hid hs1
  have HAH := hid (fun (o : Oper) (a : Go.Act) (W : World) (h : o.op = .alloc 25) => run_alloc_of (o := o) (a := a) (W := W) _ h _ zeroH8)
  have HNL := hid (show m.length = 32 by rw [hm]; exact n32_length)
  rw [← hm] at HAH
  have HCC := hid (show Calls Tryd.prog 102 #[.int .i64 (h : Int), .slice A l.length c, .slice AL l.length cl, .slice AB (spotsS l h 0).length cb] W1 (fun r W' => r = .returned .nilIface ∧ Below W1.heap.size W1 W') from by
    have := pcheckcounts_any (h : Int) l A AL AB c l.length cl (spotsS l h 0).length cb W1 ((hr.below (hw.trans (hb1.mono hb0))).mono (by omega)) hc
    rw [show ccB (h : Int) l l.length (spotsS l h 0).length = 0 by unfold ccB; rw [hg, if_pos rfl, if_pos rfl, Int.toNat_natCast, if_pos rfl]] at this
    exact this)
  have hrun := run_root hs hh hfit lv bes
  have HWK := hid (fun (V : World) (XO : Nat) (hj : ClW gj lbj b0 K w s XO lv bes [] V) =>
    show Calls Tryd.prog 70 #[.int .i64 (h : Int), .int .u64 0, .slice A l.length c, .func (.func 103) #[] #[.pointer (some ⟨XO, 0, none⟩), .pointer (some ⟨s + 1, 0, none⟩), .pointer (some ⟨s, 0, none⟩), .pointer (some ⟨s + 2, 0, none⟩)]] V (fun r W' => r = .returned (.tuple #[]) ∧ ClW gj lbj b0 K w s XO lv bes (walkE h 0 l) W') from
      walk_any (lb := #[.pointer (some ⟨XO, 0, none⟩), .pointer (some ⟨s + 1, 0, none⟩), .pointer (some ⟨s, 0, none⟩), .pointer (some ⟨s + 2, 0, none⟩)]) (fun args V => by kernel_rfl) (climb_reach jc hTb hh hs hlen hfit hlv hbes) h hh 0 l A c [] [] V hs (by omega) hc (by have : (2 : Nat) ^ h ≤ 2 ^ 32 := Nat.pow_le_pow_right (by omega) hh; omega) (by simp)
        (fun pre V hx => (hr.below hx.below).mono (by have h1 := hx.lo; have h2 := hx.r.lt; omega)) hj)
  have HRL := hid (show (climbS l lv (spotsS l h 0) bes h 0).2.length = 32 from climbS_root hlv hbes h 0 (fun q hq => hq))
  have HST := hid (fun (V : World) (XO : Nat) (hx : ClW gj lbj b0 K w s XO lv bes (walkE h 0 l) V) => show (∃ g c, At V XO #[.slice (some ⟨g, 0, none⟩) 1 c] 31 ∧ V.rangeAt g 0 (ubs (climbS l lv (spotsS l h 0) bes h 0).2)) ∧ Below b0 w V ∧ At V (s + 3) (ubs m).toArray 25 ∧ ∃ T', (∀ k, T' k → k ≠ s + 3) ∧ K T' (climbS l lv (spotsS l h 0) bes h 0).1 V from by
    obtain ⟨v, T', h1, h2, h3, h4⟩ := hx.o
    have hr32 := HRL.out
    rw [hrun] at h2 h3
    dsimp only at h2 h3
    obtain ⟨A', c', rfl⟩ := h2.form
    obtain ⟨g, e, h5⟩ := h2.range (i := 0) (by simp)
    subst e
    refine ⟨⟨g, c', h1, ?_⟩, hx.below, by rw [hm]; exact hx.r, T', fun k hk => (h4 k hk).2.2.2.1, h3⟩
    rw [hpart, Nat.mul_zero, List.drop_zero, List.flatten_cons, List.flatten_nil, List.append_nil, List.take_of_length_le (by omega)] at h5
    exact h5)
  have HJ0 := hid (fun (V : World) (q : Below W1.heap.size W1 V) (XO : Nat) (hXO : s + 3 < XO) (ho : At V XO #[.slice none 0 0] 31) => show ClW gj lbj b0 K w s XO lv bes [] V from by
    have hq : Below W.heap.size W V := hb1.trans (q.mono hb1.size)
    have hin := fun k (hk : T k) => (jc.inn hK k hk).2
    refine ⟨⟨.slice none 0 0, T, ho, Ah.nil _ _, jc.keep hK hq.size (KeepsS.of_below hq hin), fun k hk => ?_⟩, ?_, ?_, X2.out.new_ q, by rw [← hm]; exact X3.out.new_ q, ⟨by omega, hXO⟩, hw.trans (hq.mono hb0)⟩
    · have := hin k hk
      exact ⟨by omega, by omega, by omega, by omega, by omega, fun e => by cases e⟩
    · rw [runM_nil, Nat.mul_zero, List.drop_zero]
      exact ⟨AB, _, cb, X1.out.new_ q, hcb, hbes.symm, hB⟩
    · rw [runM_nil, Nat.mul_zero, List.drop_zero]
      exact ⟨AL, _, cl, X0.out.new_ q, hcl, hlv.symm, hL⟩)
  obtain ⟨root, hroot⟩ : ∃ r, r = (climbS l lv (spotsS l h 0) bes h 0).2 := ⟨_, rfl⟩
  rw [← hroot] at HRL HST ⊢
  obtain ⟨tx, htx⟩ : ∃ r, r = (climbS l lv (spotsS l h 0) bes h 0).1 := ⟨_, rfl⟩
  rw [← htx] at HST ⊢
  have HSW := hid (show b0 ≤ s by omega)
  have HJC := hid jc
  have HSE := hid hse
  generalize (spotsS l h 0).length = nb at HCC X1 hW1 ⊢
  obtain ⟨n, hn⟩ : ∃ n, n = l.length := ⟨_, rfl⟩
  rw [← hn] at HCC HWK X0 hW1 ⊢
  have q0 := X0.out.cell 0
  have q1 := X1.out.cell 0
  simp at q0 q1
  clear hTb hK hb0 hw hr hc hL hB hcl hcb hg hlv hbes hh hne hlen hs hfit hm hb1 hs1 hrun hroot htx hn hse jc
  go_enter Tryd.func78, Tryd.ntmps78
  go_wp2_with (first
    | (refine Great.wpList_allocTo rfl _ rfl _ _ (HAH.out _ _ _ rfl) ?_)
    | (rw [← hW1, ← HSE.out]; clear hW1; go_at_call 102; refine HCC.out.mono ?_; rintro r2 w2 ⟨rfl, hb2⟩; have B2 := hid hb2; clear hb2 q0 q1)
    | (generalize hw3 : w2.alloc (.cells #[.slice none 0 0] 31) = w3
       have hb3 : Below w2.heap.size w2 w3 := by rw [← hw3]; exact (Below.refl _ _).alloc (Nat.le_refl _) _
       have B3 := hid (B2.out.trans (hb3.mono B2.out.size))
       obtain ⟨XO, hXO⟩ : ∃ q, q = w2.heap.size := ⟨_, rfl⟩
       have O3 := hid (show At w3 XO #[.slice none 0 0] 31 by rw [← hw3, hXO]; exact At.new _ _ _)
       have L3 := hid (show s + 3 < XO by have := S1.out; have := B2.out.size; omega)
       rw [← hXO]
       clear hw3 hb3 hXO
       go_at_call 70
       refine (HWK.out w3 XO (HJ0.out w3 B3.out XO L3.out O3.out)).mono ?_
       rintro r4 w4 ⟨rfl, h4⟩
       obtain ⟨⟨g, c4, hg4, hr4⟩, hbl, hx3, T', hT3, hk'⟩ := HST.out w4 XO h4
       have q4 := hg4.cell 0
       simp at q4
       have R4 := hid hr4
       have BL := hid hbl
       have X4 := hid hx3
       have K4 := hid hk'
       have N4 := hid hT3
       clear h4 hg4 hr4 hbl hx3 hT3 hk')
    | (refine wpList_valW (by rfl) (run_loadH (.tmp 28) rfl g 0 rfl root R4.out HRL.out) ?_)
    | (refine wpList_store_row rfl _ (.tmp 10) (.tmp 29) rfl (s + 3) (ubs root).toArray rfl rfl 25 (ubs m).toArray X4.out (sizeH_of HRL.out) ?e5 (ubs_all _) ?e6; rotate_right))
  case e5 => simp [ubs_length, HNL.out, HRL.out]
  refine bodyPost_ret (results_row_tmp rfl _ _ (s + 3) 25 (ubs root).toArray (0, 0) _ rfl (setRow_heap _ _ _ _ _ _ X4.out) Tryd.underlying25 rfl (sizeH_of HRL.out)) rfl ?_
  have hf5 : Fr (fun k => k = s + 3) w4 (w4.setRow (s + 3) (ubs root).toArray) := (Fr.refl (fun k => k = s + 3) w4).setRow (.inr rfl) _
  have hsw := HSW.out
  exact ⟨rfl, below_setRow BL.out (by omega) _, T', HJC.out.keep K4.out hf5.size (KeepsS.of_fr hf5 (fun k hk => (HJC.out.inn K4.out k hk).2) (fun k hk e => N4.out k hk e))⟩
set_option maxRecDepth 100000 in
set_option maxHeartbeats 2000000 in
theorem pclimb_no (jc : JtC gj lbj b0 K) {w W : World} {T : Nat → Prop} (hK : K T [] W) (hb0 : b0 ≤ W.heap.size) (hw : Below b0 w W) (h : Int) (l : List Nat) (A AL AB : Option Addr) (c nl cl nb cb : Nat)
    (hr : Nu w b0 A l) (hc : l.length ≤ c) (kx : Nat) (hk : ccB h l nl nb = kx) (hk0 : kx ≠ 0) :
    Calls Tryd.prog 78 #[.int .i64 h, .slice A l.length c, .slice AL nl cl, .slice AB nb cb, .func (.func gj) #[] lbj] W fun r W' => r = .returned (.tuple #[.agg (ubs n32).toArray, errV kx]) ∧ Below b0 w W' ∧ ∃ T', K T' [] W' := by
  obtain ⟨s, hse⟩ : ∃ s, s = W.heap.size := ⟨_, rfl⟩
  obtain ⟨m, hm⟩ : ∃ m, m = n32 := ⟨_, rfl⟩
  obtain ⟨W1, hW1⟩ : ∃ V, V = (((W.alloc (.cells #[.slice AL nl cl] 31)).alloc (.cells #[.slice AB nb cb] 31)).alloc (.cells #[.func (.func gj) #[] lbj] 136)).alloc (.cells (ubs m).toArray 25) := ⟨_, rfl⟩
  have hb1 : Below W.heap.size W W1 := by rw [hW1]; exact ((((Below.refl _ _).alloc (Nat.le_refl _) _).alloc (by simp) _).alloc (by simp; omega) _).alloc (by simp; omega) _
  have X3 := hid (show At W1 (s + 3) (ubs m).toArray 25 by rw [hW1, hse]; exact At.new_at (by simp))
  have HAH := hid (fun (o : Oper) (a : Go.Act) (W : World) (h : o.op = .alloc 25) => run_alloc_of (o := o) (a := a) (W := W) _ h _ zeroH8)
  have HBH := hid (fun (o : Oper) (a : Go.Act) (W : World) (h : o.op = .build 25 #[]) => run_build_hash0 (o := o) (a := a) (W := W) h)
  have HNL := hid (show m.length = 32 by rw [hm]; exact n32_length)
  rw [← hm] at HAH HBH ⊢
  have e1 : errV kx = .iface 42 (.int .i64 (kx : Int)) := errV_pos hk0
  have HCC := hid (show Calls Tryd.prog 102 #[.int .i64 h, .slice A l.length c, .slice AL nl cl, .slice AB nb cb] W1 (fun r W' => r = .returned (errV kx) ∧ Below W1.heap.size W1 W') from by
    have := pcheckcounts_any h l A AL AB c nl cl nb cb W1 ((hr.below (hw.trans (hb1.mono hb0))).mono (by have := hb1.size; omega)) hc
    rw [hk] at this
    exact this)
  rw [e1] at HCC ⊢
  have HEN := hid (fun (V : World) (q : Below W1.heap.size W1 V) => show At V (s + 3) (ubs m).toArray 25 ∧ Below b0 w (V.setRow (s + 3) (ubs m).toArray) ∧ ∃ T', K T' [] (V.setRow (s + 3) (ubs m).toArray) from by
    have hq : Below W.heap.size W V := hb1.trans (q.mono hb1.size)
    have hq2 : Below W.heap.size W (V.setRow (s + 3) (ubs m).toArray) := below_setRow hq (by omega) _
    exact ⟨X3.out.new_ q, hw.trans (hq2.mono hb0), T, jc.keep hK hq2.size (KeepsS.of_below hq2 (fun k hk => (jc.inn hK k hk).2))⟩)
  generalize l.length = n at HCC ⊢
  have HSE := hid hse
  clear hK hb0 hw hr hc hk hk0 hm hb1 hse jc e1 X3
  go_enter Tryd.func78, Tryd.ntmps78
  go_wp2_with (first
    | (refine Great.wpList_allocTo rfl _ rfl _ _ (HAH.out _ _ _ rfl) ?_)
    | (rw [← hW1, ← HSE.out]; clear hW1; go_at_call 102; refine HCC.out.mono ?_; rintro r2 w2 ⟨rfl, hb2⟩; have H2 := hid (HEN.out w2 hb2); clear hb2)
    | (refine wpList_valW (by rfl) (HBH.out _ _ _ rfl) ?_)
    | (refine wpList_store_row rfl _ (.tmp 10) (.tmp 21) rfl (s + 3) (ubs m).toArray rfl rfl 25 (ubs m).toArray H2.out.1 (sizeH_of HNL.out) ?e5 (ubs_all _) ?e6; rotate_right))
  case e5 => rfl
  refine bodyPost_ret (results_row_tmp rfl _ _ (s + 3) 25 (ubs m).toArray (0, 0) _ rfl (setRow_heap _ _ _ _ _ _ H2.out.1) Tryd.underlying25 rfl (sizeH_of HNL.out)) rfl ?_
  exact ⟨rfl, H2.out.2⟩
/-- The root that leaves and a proof yield; the texts. -/
def rootS (h : Int) (l : List Nat) (nl nb : Nat) (lv bes : List UInt8) : List UInt8 := if ccB h l nl nb = 0 then (climbS l lv (spotsS l h.toNat 0) bes h.toNat 0).2 else n32
def textsS (h : Int) (l : List Nat) (nl nb : Nat) (lv bes : List UInt8) : List (List UInt8) := if ccB h l nl nb = 0 then (climbS l lv (spotsS l h.toNat 0) bes h.toNat 0).1 else []
theorem ccB_zero {h : Int} {l : List Nat} {nl nb : Nat} (e : ccB h l nl nb = 0) : rgtB h l = true ∧ nl = l.length ∧ nb = (spotsS l h.toNat 0).length := by
  unfold ccB at e
  split at e
  · rename_i h1
    split at e
    · rename_i h2
      split at e
      · rename_i h3
        exact ⟨h1, h2, h3⟩
      · cases e
    · cases e
  · cases e
theorem rootS_length {h : Int} {l : List Nat} {nl nb : Nat} {lv bes : List UInt8} (hlv : lv.length = 32 * nl) (hbes : bes.length = 32 * nb) : (rootS h l nl nb lv bes).length = 32 := by
  unfold rootS
  split
  · rename_i e
    obtain ⟨-, rfl, rfl⟩ := ccB_zero e
    exact climbS_root hlv hbes _ _ (fun q hq => hq)
  · exact n32_length
theorem pclimb_any (jc : JtC gj lbj b0 K) {w W : World} {lv bes : List UInt8} (hTb : ∀ V', Below b0 w V' → Tabs V') {T : Nat → Prop} (hK : K T [] W) (hb0 : b0 ≤ W.heap.size) (hw : Below b0 w W) (h : Int) (l : List Nat) (A AL AB : Option Addr) (c nl cl nb cb : Nat)
    (hr : Nu w b0 A l) (hc : l.length ≤ c) (hL : Rd w b0 AL (ubs lv)) (hB : Rd w b0 AB (ubs bes)) (hcl : nl ≤ cl) (hcb : nb ≤ cb) (hlv : lv.length = 32 * nl) (hbes : bes.length = 32 * nb) :
    Calls Tryd.prog 78 #[.int .i64 h, .slice A l.length c, .slice AL nl cl, .slice AB nb cb, .func (.func gj) #[] lbj] W fun r W' => r = .returned (.tuple #[.agg (ubs (rootS h l nl nb lv bes)).toArray, errV (ccB h l nl nb)]) ∧ Below b0 w W' ∧ ∃ T', K T' (textsS h l nl nb lv bes) W' := by
  by_cases e : ccB h l nl nb = 0
  · obtain ⟨hg, rfl, rfl⟩ := ccB_zero e
    obtain ⟨k, rfl⟩ := rgtB_nat hg
    rw [rootS, textsS, if_pos e, if_pos e, e, Int.toNat_natCast]
    rw [Int.toNat_natCast] at hcb hbes
    exact pclimb_ok jc hTb hK hb0 hw k l A AL AB c cl cb hr hc hL hB hcl hcb hg hlv hbes
  · rw [rootS, textsS, if_neg e, if_neg e]
    exact pclimb_no jc hK hb0 hw h l A AL AB c nl cl nb cb hr hc _ rfl e
end
end Go.Proofs.YtdegmcfcbndelaaDoor

namespace Go.Proofs.YtdegmcfcbndelaaDoor
open Go.RowKit

set_option maxRecDepth 100000 in
set_option maxHeartbeats 2000000 in
theorem proot_any (h : Int) (l : List Nat) (lv bes : List UInt8) (A AL AB : Option Addr) (c nl cl nb cb : Nat) (W : World) (hr : Nu W W.heap.size A l) (hc : l.length ≤ c) (hL : Rd W W.heap.size AL (ubs lv)) (hB : Rd W W.heap.size AB (ubs bes)) (hcl : nl ≤ cl) (hcb : nb ≤ cb) (hlv : lv.length = 32 * nl) (hbes : bes.length = 32 * nb) (hT : Tabs W) :
    Calls Tryd.prog 38 #[.int .i64 h, .slice A l.length c, .slice AL nl cl, .slice AB nb cb] W fun r W' => r = .returned (.tuple #[.agg (ubs (rootS h l nl nb lv bes)).toArray, errV (ccB h l nl nb)]) ∧ Below W.heap.size W W' := by
  obtain ⟨m, hm⟩ : ∃ m, m = n32 := ⟨_, rfl⟩
  have HAH := hid (fun (o : Oper) (a : Go.Act) (W : World) (h : o.op = .alloc 25) => run_alloc_of (o := o) (a := a) (W := W) _ h _ zeroH8)
  have HNL := hid (show m.length = 32 by rw [hm]; exact n32_length)
  rw [← hm] at HAH
  have hb1 : Below W.heap.size W (W.alloc (.cells (ubs m).toArray 25)) := (Below.refl _ _).alloc (Nat.le_refl _) _
  have HCL := hid (show Calls Tryd.prog 78 #[.int .i64 h, .slice A l.length c, .slice AL nl cl, .slice AB nb cb, .func (.func 79) #[] #[]] (W.alloc (.cells (ubs m).toArray 25)) (fun r W' => r = .returned (.tuple #[.agg (ubs (rootS h l nl nb lv bes)).toArray, errV (ccB h l nl nb)]) ∧ Below W.heap.size W W' ∧ At W' W.heap.size (ubs m).toArray 25) from by
    have h0 := At.new W (ubs m).toArray 25
    refine (pclimb_any (K := fun T _ V => (T = fun k => k = W.heap.size) ∧ At V W.heap.size (ubs m).toArray 25) ?jc (w := W) (b0 := W.heap.size) (fun V' hb => hT.below hb) (T := fun k => k = W.heap.size) ⟨rfl, h0⟩ hb1.size hb1 h l A AL AB c nl cl nb cb hr hc hL hB hcl hcb hlv hbes).mono ?_
    case jc =>
      refine ⟨fun args V => by kernel_rfl, fun {T ts V} h k hk => ?_, fun {T ts V V'} h hs hk => ?_, fun {T ts V bs} A c h _ _ _ _ => ?_⟩
      · obtain ⟨rfl, h2⟩ := h
        have hk' : k = W.heap.size := hk
        have := h2.lt
        exact ⟨by omega, by omega⟩
      · obtain ⟨rfl, h2⟩ := h
        exact ⟨rfl, (hk W.heap.size rfl).trans h2⟩
      · show Calls Tryd.prog 79 #[.slice A 66 c] V _
        have H := hid (show Fr T V V ∧ ∃ T' : Nat → Prop, ((T' = fun k => k = W.heap.size) ∧ At V W.heap.size (ubs m).toArray 25) ∧ ∀ k, T' k → T k ∨ V.heap.size ≤ k ∨ (Value.slice A 66 c).ownBlock = some k from ⟨Fr.refl _ _, T, h, fun k hk => .inl hk⟩)
        clear h
        go_enter Tryd.func79, Tryd.ntmps79
        go_wp2
        refine bodyPost_end (results_none rfl _ _ _) rfl ?_
        exact ⟨rfl, H.out⟩
    · rintro r W' ⟨h1, h2, T', -, h3⟩
      exact ⟨h1, h2, h3⟩)
  have HRL := hid (rootS_length (h := h) (l := l) hlv hbes)
  generalize rootS h l nl nb lv bes = root at HCL HRL ⊢
  generalize errV (ccB h l nl nb) = ev at HCL ⊢
  generalize l.length = n at HCL ⊢
  clear hr hc hL hB hcl hcb hlv hbes hT hm hb1
  go_enter Tryd.func38, Tryd.ntmps38
  go_wp2_with (first
    | (refine Great.wpList_allocTo rfl _ rfl _ _ (HAH.out _ _ _ rfl) ?_)
    | (go_at_call 78; refine HCL.out.mono ?_; rintro r1 w1 ⟨rfl, hb1, hx1⟩; have B1 := hid hb1; have X1 := hid hx1; clear hb1 hx1)
    | (refine wpList_store_row rfl _ (.tmp 8) (.tmp 15) rfl W.heap.size (ubs root).toArray rfl rfl 25 (ubs m).toArray X1.out (sizeH_of HRL.out) ?e5 (ubs_all _) ?e6; rotate_right))
  case e5 => simp [ubs_length, HNL.out, HRL.out]
  refine bodyPost_ret (results_row_tmp rfl _ _ W.heap.size 25 (ubs root).toArray (0, 0) _ rfl (setRow_heap _ _ _ _ _ _ X1.out) Tryd.underlying25 rfl (sizeH_of HRL.out)) rfl ?_
  exact ⟨rfl, below_setRow B1.out (Nat.le_refl _) _⟩
/-- The error's number of Check. -/
def ckB (q : List UInt8) (h : Int) (l : List Nat) (nl nb : Nat) (lv bes : List UInt8) : Nat := if ccB h l nl nb = 0 then (if rootS h l nl nb lv bes = q then 0 else 5) else ccB h l nl nb
set_option maxRecDepth 100000 in
set_option maxHeartbeats 2000000 in
theorem pcheck10_any (q : List UInt8) (hq : q.length = 32) (h : Int) (l : List Nat) (lv bes : List UInt8) (A AL AB : Option Addr) (c nl cl nb cb : Nat) (W : World) (hr : Nu W W.heap.size A l) (hc : l.length ≤ c) (hL : Rd W W.heap.size AL (ubs lv)) (hB : Rd W W.heap.size AB (ubs bes)) (hcl : nl ≤ cl) (hcb : nb ≤ cb) (hlv : lv.length = 32 * nl) (hbes : bes.length = 32 * nb) (hT : Tabs W) :
    Calls Tryd.prog 39 #[.agg (ubs q).toArray, .int .i64 h, .slice A l.length c, .slice AL nl cl, .slice AB nb cb] W fun r W' => r = .returned (errV (ckB q h l nl nb lv bes)) ∧ Below W.heap.size W W' := by
  obtain ⟨m, hm⟩ : ∃ m, m = n32 := ⟨_, rfl⟩
  have HAH := hid (fun (o : Oper) (a : Go.Act) (W : World) (h : o.op = .alloc 25) => run_alloc_of (o := o) (a := a) (W := W) _ h _ zeroH8)
  have HNL := hid (show m.length = 32 by rw [hm]; exact n32_length)
  have HQL := hid hq
  rw [← hm] at HAH
  obtain ⟨w0, hw0⟩ : ∃ w, w = W.alloc (.cells (ubs q).toArray 25) := ⟨_, rfl⟩
  have hb0 : Below W.heap.size W w0 := by rw [hw0]; exact (Below.refl _ _).alloc (Nat.le_refl _) _
  have X0 := hid (show At w0 W.heap.size (ubs q).toArray 25 by rw [hw0]; exact At.new _ _ _)
  have B0 := hid hb0
  have HRT := hid (proot_any h l lv bes A AL AB c nl cl nb cb w0 ((hr.below hb0).mono hb0.size) hc ((hL.below hb0).mono hb0.size) ((hB.below hb0).mono hb0.size) hcl hcb hlv hbes (hT.below hb0))
  have HRL := hid (rootS_length (h := h) (l := l) hlv hbes)
  have e5 : errV 5 = .iface 42 (.int .i64 5) := rfl
  have e0 : errV 0 = .nilIface := rfl
  unfold ckB
  generalize rootS h l nl nb lv bes = root at HRT HRL ⊢
  generalize ccB h l nl nb = kx at HRT ⊢
  generalize l.length = n at HRT ⊢
  clear hr hc hL hB hcl hcb hlv hbes hT hm hb0
  by_cases hk : kx = 0
  · subst hk
    rw [if_pos rfl]
    rw [e0] at HRT
    by_cases he : root = q
    · have HE := hid (show (root == q) = !false by simpa using he)
      rw [if_pos he, e0]
      clear he e5 e0
      go_enter Tryd.func39, Tryd.ntmps39
      go_wp2_with (first
        | (rw [← hw0]; clear hw0; go_at_call 38; refine HRT.out.mono ?_; rintro r1 w1 ⟨rfl, hb1⟩; have B1 := hid (B0.out.trans (hb1.mono B0.out.size)); have X1 := hid (X0.out.new_ hb1); clear hb1)
        | (refine Great.wpList_allocTo rfl _ rfl _ _ (HAH.out _ _ _ rfl) ?_)
        | (refine wpList_store_row rfl _ (.tmp 11) (.tmp 19) rfl w1.heap.size (ubs root).toArray rfl rfl 25 (ubs m).toArray (At.new _ _ _) (sizeH_of HRL.out) (by simp [ubs_length, HNL.out, HRL.out]) (ubs_all _) ?_; have hb2 : Below w1.heap.size w1 ((w1.alloc (.cells (ubs m).toArray 25)).setRow w1.heap.size (ubs root).toArray) := below_setRow ((Below.refl _ _).alloc (Nat.le_refl _) _) (Nat.le_refl _) _; have B2 := hid (B1.out.trans (hb2.mono B1.out.size)); have X2 := hid (X1.out.new_ hb2); have G2 := hid (show At ((w1.alloc (.cells (ubs m).toArray 25)).setRow w1.heap.size (ubs root).toArray) w1.heap.size (ubs root).toArray 25 from setRow_heap _ _ _ _ _ _ (At.new _ _ _)); clear hb2; generalize ((w1.alloc (.cells (ubs m).toArray 25)).setRow w1.heap.size (ubs root).toArray) = w2 at B2 X2 G2 ⊢; generalize w1.heap.size = G at G2 ⊢)
        | (refine wpList_valW (by rfl) (run_loadH (.tmp 11) rfl G 0 rfl root (range_whole G2.out) HRL.out) ?_)
        | (refine wpList_valW (by rfl) (run_loadH (.tmp 5) rfl W.heap.size 0 rfl q (range_whole X2.out) HQL.out) ?_)
        | (refine wpList_valW (by rfl) (run_neqH _ (.tmp 26) (.tmp 27) rfl root q HRL.out HQL.out rfl rfl _ HE.out w2) ?_))
      go_ret
      exact ⟨rfl, B2.out⟩
    · have HE := hid (show (root == q) = !true by simpa using he)
      rw [if_neg he, e5]
      clear he e5 e0
      go_enter Tryd.func39, Tryd.ntmps39
      go_wp2_with (first
        | (rw [← hw0]; clear hw0; go_at_call 38; refine HRT.out.mono ?_; rintro r1 w1 ⟨rfl, hb1⟩; have B1 := hid (B0.out.trans (hb1.mono B0.out.size)); have X1 := hid (X0.out.new_ hb1); clear hb1)
        | (refine Great.wpList_allocTo rfl _ rfl _ _ (HAH.out _ _ _ rfl) ?_)
        | (refine wpList_store_row rfl _ (.tmp 11) (.tmp 19) rfl w1.heap.size (ubs root).toArray rfl rfl 25 (ubs m).toArray (At.new _ _ _) (sizeH_of HRL.out) (by simp [ubs_length, HNL.out, HRL.out]) (ubs_all _) ?_; have hb2 : Below w1.heap.size w1 ((w1.alloc (.cells (ubs m).toArray 25)).setRow w1.heap.size (ubs root).toArray) := below_setRow ((Below.refl _ _).alloc (Nat.le_refl _) _) (Nat.le_refl _) _; have B2 := hid (B1.out.trans (hb2.mono B1.out.size)); have X2 := hid (X1.out.new_ hb2); have G2 := hid (show At ((w1.alloc (.cells (ubs m).toArray 25)).setRow w1.heap.size (ubs root).toArray) w1.heap.size (ubs root).toArray 25 from setRow_heap _ _ _ _ _ _ (At.new _ _ _)); clear hb2; generalize ((w1.alloc (.cells (ubs m).toArray 25)).setRow w1.heap.size (ubs root).toArray) = w2 at B2 X2 G2 ⊢; generalize w1.heap.size = G at G2 ⊢)
        | (refine wpList_valW (by rfl) (run_loadH (.tmp 11) rfl G 0 rfl root (range_whole G2.out) HRL.out) ?_)
        | (refine wpList_valW (by rfl) (run_loadH (.tmp 5) rfl W.heap.size 0 rfl q (range_whole X2.out) HQL.out) ?_)
        | (refine wpList_valW (by rfl) (run_neqH _ (.tmp 26) (.tmp 27) rfl root q HRL.out HQL.out rfl rfl _ HE.out w2) ?_))
      go_ret
      exact ⟨rfl, B2.out⟩
  · rw [if_neg hk]
    have e1 : errV kx = .iface 42 (.int .i64 (kx : Int)) := errV_pos hk
    rw [e1] at HRT ⊢
    clear hk e5 e0 e1
    go_enter Tryd.func39, Tryd.ntmps39
    go_wp2_with (first
      | (rw [← hw0]; clear hw0; go_at_call 38; refine HRT.out.mono ?_; rintro r1 w1 ⟨rfl, hb1⟩; have B1 := hid (B0.out.trans (hb1.mono B0.out.size)); clear hb1)
      | (refine Great.wpList_allocTo rfl _ rfl _ _ (HAH.out _ _ _ rfl) ?_)
      | (refine wpList_store_row rfl _ (.tmp 11) (.tmp 19) rfl w1.heap.size (ubs root).toArray rfl rfl 25 (ubs m).toArray (At.new _ _ _) (sizeH_of HRL.out) (by simp [ubs_length, HNL.out, HRL.out]) (ubs_all _) ?_; have hb2 : Below w1.heap.size w1 ((w1.alloc (.cells (ubs m).toArray 25)).setRow w1.heap.size (ubs root).toArray) := below_setRow ((Below.refl _ _).alloc (Nat.le_refl _) _) (Nat.le_refl _) _; have B2 := hid (B1.out.trans (hb2.mono B1.out.size)); clear hb2; generalize ((w1.alloc (.cells (ubs m).toArray 25)).setRow w1.heap.size (ubs root).toArray) = w2 at B2 ⊢; generalize w1.heap.size = G at ⊢))
    go_ret
    exact ⟨rfl, B2.out⟩
end Go.Proofs.YtdegmcfcbndelaaDoor

namespace Go.Proofs.YtdegmcfcbndelaaDoor
open Go.RowKit

end Go.Proofs.YtdegmcfcbndelaaDoor
