/-
  The program's layer 8: a writer that may bear an error; the texts of leaves and of nodes.
-/
import Derived.Test.YtfmbpdjcoopaeaaDoorNl0
import Derived.Test.YtfmbpdjcoopaeaaDoorUg
namespace Go.Proofs.YtfmbpdjcoopaeaaDoor
open Go.RowKit

/-- A writer that lies where the world w ends, its error's number, and the bytes that it has; nothing else has turned. -/
def WE (w : World) (k : Nat) (bs : List UInt8) (W : World) : Prop := (∃ v, WI W w.heap.size w.heap.size k v bs) ∧ Below w.heap.size w W
theorem WE.of {w W : World} {bs : List UInt8} (h : WN w bs W) : WE w 0 bs W := h
theorem WE.new {w W W' : World} {k : Nat} {bs : List UInt8} (h : WE w k bs W) (hb : Below W.heap.size W W') : WE w k bs W' := by
  obtain ⟨⟨v, h1⟩, h2⟩ := h
  exact ⟨⟨v, h1.keep (Fr.of_new (S := fun _ => False) hb) (fun _ _ => id)⟩, h2.trans (hb.mono h2.size)⟩
theorem WE.leave {w W W' : World} {k k' : Nat} {bs bs' : List UInt8} {v x : Value} (h : WI W w.heap.size w.heap.size k v bs) (hb : Below w.heap.size w W) (ho : WOut w.heap.size w.heap.size k' bs' v W x W') : x = .pointer (some ⟨w.heap.size, 0, none⟩) ∧ WE w k' bs' W' := by
  obtain ⟨rfl, v', h1, h2, -⟩ := ho
  refine ⟨rfl, ⟨v', h1⟩, ?_⟩
  have h3 : Fr (fun k => w.heap.size ≤ k) w W := Fr.of_below hb (fun _ _ h => h)
  refine (h3.next h2 (fun g hg hw => ?_)).below (fun _ h => h) (Nat.le_refl _)
  rcases hw with rfl | hw
  · exact Nat.le_refl _
  · obtain ⟨A, c, rfl, -, -, -, ho, ha⟩ := own_form h.own
    rcases A with _ | a
    · rw [ho] at hw; cases hw
    · rw [ho] at hw
      obtain rfl : a.block = g := by simpa using hw
      exact (ha a rfl).2.2.1
theorem we_num {w W : World} {bs : List UInt8} (h : WN w bs W) (i : Nat) (hi : i < 18446744073709551616) (hl : bs.length ≤ 900000000) :
    Calls Tryd.prog 87 #[.pointer (some ⟨w.heap.size, 0, none⟩), .int .u64 (i : Int), .int .i64 4] W fun e w' => e = .returned (.pointer (some ⟨w.heap.size, 0, none⟩)) ∧ WE w (if ixB i then 0 else 1) (if ixB i then bs ++ toBE 4 i else []) w' := by
  by_cases hx : i ≤ 4294967295
  · have e : ixB i = true := decide_eq_true hx
    rw [e]
    exact (wn_num h i 4 (by unfold Sz; omega) (by omega) hl).mono fun r w' ⟨h1, h2⟩ => ⟨h1, h2⟩
  · have e : ixB i = false := decide_eq_false hx
    rw [e]
    obtain ⟨⟨v, h1⟩, h2⟩ := h
    refine (num_unfit w.heap.size w.heap.size 0 v bs i hi 4 (fun k hk e => ?_) W h1).mono ?_
    · have : k = 4 := by omega
      subst this
      omega
    · rintro r w' ⟨x, rfl, ho⟩
      obtain ⟨rfl, h3⟩ := WE.leave h1 h2 ho
      exact ⟨rfl, h3⟩
theorem we_raw {w W : World} {k : Nat} {bs xs : List UInt8} {A : Option Addr} (c : Nat) (h : WE w k bs W) (hx : Rb W W.heap.size A xs) (hl : bs.length + xs.length ≤ 1000000000) :
    Calls Tryd.prog 88 #[.pointer (some ⟨w.heap.size, 0, none⟩), .slice A xs.length c] W fun e w' => e = .returned (.pointer (some ⟨w.heap.size, 0, none⟩)) ∧ WE w k (wput k bs xs) w' := by
  obtain ⟨⟨v, h1⟩, h2⟩ := h
  refine (raw_any w.heap.size w.heap.size k v bs xs A c W h1 hx h2.size hl).mono ?_
  rintro e w' ⟨x, rfl, ho⟩
  obtain ⟨rfl, h3⟩ := WE.leave h1 h2 ho
  exact ⟨rfl, h3⟩
theorem we_done {w W : World} {k : Nat} {bs : List UInt8} (h : WE w k bs W) (hk : k ≠ 0 → bs = []) (hl : bs.length ≤ 1000000000) :
    Calls Tryd.prog 89 #[.pointer (some ⟨w.heap.size, 0, none⟩)] W fun e w' => ∃ A c, e = .returned (.tuple #[.slice A bs.length c, errV k]) ∧ Rb w' w'.heap.size A bs ∧ Below w.heap.size w w' := by
  by_cases e : k = 0
  · subst e
    exact (wn_done h hl).mono fun r w' ⟨A, c, h1, h2, h3, h4⟩ => ⟨A, c, h1, h3, h4⟩
  · obtain rfl := hk e
    obtain ⟨⟨v, h1⟩, h2⟩ := h
    refine (done_bad w.heap.size w.heap.size k v [] e W h1).mono ?_
    rintro r w' ⟨rfl, n, rfl⟩
    exact ⟨none, 0, rfl, Rd.nil _ _ _, below_drewN h2 n⟩
theorem wn_hash {w W : World} {bs : List UInt8} (h : List UInt8) (hw : WN w bs W) (hh : h.length = 32) (hl : bs.length ≤ 900000000) :
    Calls Tryd.prog 215 #[.pointer (some ⟨w.heap.size, 0, none⟩), .agg (ubs h).toArray] W fun e w' => e = .returned (.pointer (some ⟨w.heap.size, 0, none⟩)) ∧ WN w (bs ++ h) w' := by
  obtain ⟨⟨v, h1⟩, h2⟩ := hw
  refine (hash_any w.heap.size w.heap.size 0 v bs h hh W h1 h2.size hl).mono ?_
  rintro e w' ⟨x, rfl, ho⟩
  obtain ⟨rfl, h3⟩ := WE.leave h1 h2 ho
  exact ⟨rfl, h3⟩
theorem WN.undrew {w W : World} {bs : List UInt8} (h : WN w.drew bs W) : WN w bs W := ⟨h.1, (Below.refl _ w).drew.trans h.2⟩
set_option maxRecDepth 100000 in
set_option maxHeartbeats 1000000 in
theorem pjoined_any (h : Int) (w : World) : Calls Tryd.prog 96 #[.int .i64 h] w fun r w' => r = .returned (.bool (htB h)) ∧ w' = w := by
  by_cases h1 : 1 ≤ h
  · have c1 : decide ((1 : Int) ≤ h) = true := decide_eq_true h1
    by_cases h2 : h ≤ 32
    · have c2 : decide (h ≤ (32 : Int)) = true := decide_eq_true h2
      have hr : htB h = true := by rw [htB, c1, c2]; rfl
      rw [hr]
      clear h1 h2 hr
      go_enter Tryd.func96, Tryd.ntmps96
      go_wp2
      go_ret
      exact ⟨rfl, rfl⟩
    · have c2 : decide (h ≤ (32 : Int)) = false := decide_eq_false h2
      have hr : htB h = false := by rw [htB, c1, c2]; rfl
      rw [hr]
      clear h1 h2 hr
      go_enter Tryd.func96, Tryd.ntmps96
      go_wp2
      go_ret
      exact ⟨rfl, rfl⟩
  · have c1 : decide ((1 : Int) ≤ h) = false := decide_eq_false h1
    have hr : htB h = false := by rw [htB, c1]; rfl
    rw [hr]
    clear h1 hr
    go_enter Tryd.func96, Tryd.ntmps96
    go_wp2
    go_ret
    exact ⟨rfl, rfl⟩
set_option maxRecDepth 100000 in
set_option maxHeartbeats 1000000 in
theorem pbegin_any (k : Nat) (w : World) (hk : k < 200) :
    Calls Tryd.prog 93 #[.int .u64 ((k + 1 : Nat) : Int)] w fun r w' => r = .returned (.pointer (some ⟨w.heap.size, 0, none⟩)) ∧ WN w [UInt8.ofNat k] w' := by
  obtain ⟨m, hm⟩ : ∃ m, m = k + 1 := ⟨_, rfl⟩
  have H0 := hid (show Calls Tryd.prog 87 #[.pointer (some ⟨w.heap.size, 0, none⟩), .int .u64 (k : Int), .int .i64 1] (w.alloc (.cells #[.nilIface, .slice none 0 0] 154)) (fun e w' => e = .returned (.pointer (some ⟨w.heap.size, 0, none⟩)) ∧ WN w [UInt8.ofNat k] w') from by
    have := wn_num (WN.begin w) k 1 (by unfold Sz; omega) (by omega) (by simp)
    rw [List.nil_append, ← be_toBE, be_one] at this
    exact this)
  have e1 : IntKind.u64.wrap ((m : Int) - 1) = (k : Int) := by rw [show (m : Int) - 1 = (k : Int) by omega, wrapN64 k (by omega)]
  rw [← hm]
  clear hm hk
  go_enter Tryd.func93, Tryd.ntmps93
  go_wp2_with (go_at_call 87; refine H0.out.mono ?_; rintro e1 w1 ⟨rfl, h1⟩; have H1 := hid h1; clear h1)
  go_ret
  exact ⟨rfl, H1.out⟩
/-- A sealed block's bytes. -/
theorem pput_rb (d t : List UInt8) (e : Nat) (w : World) (hd : d.length = 32) (ht : t.length = 16) (he : e < 18446744073709551616) :
    Calls Tryd.prog 29 #[.agg (sv e d t).toArray] w fun r w' => ∃ A c, r = .returned (.slice A 56 c) ∧ Rb w' w'.heap.size A (putL e d t) ∧ Below w.heap.size w w' := by
  refine (pput_any d t e w hd ht he).mono ?_
  rintro r w' ⟨g, c, cur, rfl, hg, hA, hc, hb⟩
  refine ⟨_, c, rfl, Rd.of_at hA 0 (fun j u hj => ?_) hA.lt, hb⟩
  rw [Nat.zero_add, ← Array.getElem?_toList]
  have h1 : putL e d t = putL7 e d t := rfl
  rw [h1, ← hc] at hj
  have hlt : j < 56 := by
    have := (List.getElem?_eq_some_iff.1 hj).1
    rw [List.length_take] at this
    omega
  rwa [List.getElem?_take_of_lt hlt] at hj
set_option maxRecDepth 100000 in
set_option maxHeartbeats 2000000 in
theorem pleafText_any (d t : List UInt8) (i e : Nat) (w : World) (hd : d.length = 32) (ht : t.length = 16) (hi : i < 18446744073709551616) (he : e < 18446744073709551616) :
    Calls Tryd.prog 33 #[.int .u64 (i : Int), .agg (sv e d t).toArray] w fun r w' => ∃ A c, r = .returned (.tuple #[.slice A (lfT i e d t).length c, errV (if ixB i then 0 else 1)]) ∧ Rb w' w'.heap.size A (lfT i e d t) ∧ Below w.heap.size w w' := by
  obtain ⟨w0, hw0⟩ : ∃ w0, w0 = w.alloc (.cells (sv e d t).toArray 37) := ⟨_, rfl⟩
  have hx0 : At w0 w.heap.size (sv e d t).toArray 37 := by rw [hw0]; exact At.new _ _ _
  have hb0 : Below w.heap.size w w0 := by rw [hw0]; exact (Below.refl _ _).alloc (Nat.le_refl _) _
  have HX := hid (fun (W : World) (h : Below w0.heap.size w0 W) => hx0.new_ h)
  have HB0 := hid hb0
  have HBG := hid (show Calls Tryd.prog 93 #[.int .u64 2] w0.drew (fun r w' => r = .returned (.pointer (some ⟨w0.heap.size, 0, none⟩)) ∧ WN w0 [1] w') from (pbegin_any 1 w0.drew (by omega)).mono fun r w' ⟨h1, h2⟩ => ⟨h1, h2.undrew⟩)
  have HP := hid (fun W => pput_rb d t e W hd ht he)
  have LP := putL_length e d t hd ht
  obtain ⟨kx, hkx⟩ : ∃ k, k = if ixB i then 0 else 1 := ⟨_, rfl⟩
  obtain ⟨b1, hb1⟩ : ∃ b, b = if ixB i then [1] ++ toBE 4 i else [] := ⟨_, rfl⟩
  have hlt : wput kx b1 (putL e d t) = lfT i e d t := by
    rw [hkx, hb1, lfT]
    cases ixB i <;> rfl
  have hl1 : b1.length ≤ 5 := by
    rw [hb1]
    cases ixB i
    · simp
    · simp [toBE_length]
  have hlk : kx ≠ 0 → lfT i e d t = [] := by
    rw [hkx, lfT]
    cases ixB i <;> simp
  have hll : (lfT i e d t).length ≤ 1000000 := by
    rw [lfT]
    cases ixB i
    · simp
    · simp [leafT_length i e d t hd ht]
  rw [← hkx]
  have HN := hid (fun (W : World) (h : WN w0 [1] W) => show Calls Tryd.prog 87 #[.pointer (some ⟨w0.heap.size, 0, none⟩), .int .u64 (i : Int), .int .i64 4] W (fun e' w' => e' = .returned (.pointer (some ⟨w0.heap.size, 0, none⟩)) ∧ WE w0 kx b1 w') from by
    rw [hkx, hb1]
    exact we_num h i hi (by simp))
  generalize lfT i e d t = lt at hlt hlk hll ⊢
  have HR := hid (fun (W : World) (A : Option Addr) (c : Nat) (h : WE w0 kx b1 W) (hA : Rb W W.heap.size A (putL e d t)) => show Calls Tryd.prog 88 #[.pointer (some ⟨w0.heap.size, 0, none⟩), .slice A 56 c] W (fun e' w' => e' = .returned (.pointer (some ⟨w0.heap.size, 0, none⟩)) ∧ WE w0 kx lt w') from by
    have := we_raw c h hA (by omega)
    rw [LP, hlt] at this
    exact this)
  have HDN := hid (fun (W : World) (h : WE w0 kx lt W) => we_done h hlk (by omega))
  generalize putL e d t = p at HP HR
  have HL := hid (sv_length e d t hd ht)
  generalize sv e d t = x at hw0 HX HP HL ⊢
  clear hx0 hb0 hd ht hi he LP hkx hb1 hlt hl1 hlk hll
  go_enter Tryd.func33, Tryd.ntmps33
  go_upto_region 1 with (fail)
  rw [← hw0]
  clear hw0
  try simp only [Act.put, List.setIfInBounds_toArray, List.set_cons_succ, List.set_cons_zero]
  refine wp_region_upto (fun W => At W w.heap.size x.toArray 37) 11 11 (by kernel_rfl) (by kernel_rfl) ?_
  have AT := hid (show WB w0 w0.drew from ⟨trivial, (Below.refl _ _).drew⟩)
  refine wpUpto_takeL (i := 1) (v := .int .u64 (i : Int)) rfl rfl (by decide +kernel) (by decide +kernel) (by decide +kernel) (by decide +kernel) (by decide) (fun _ _ _ h => h) (Or.inl ⟨by rfl, ?_⟩) (HX.out _ AT.out.2) ?_
  · (intro W hSW; go_simp)
  simp only [List.set_cons_succ, List.set_cons_zero]
  refine wpUpto_takeL (i := 3) (v := .agg x.toArray) rfl rfl (by decide +kernel) (by decide +kernel) (by decide +kernel) (by decide +kernel) (by decide) (fun _ _ _ h => h) (Or.inl ⟨by rfl, ?_⟩) (HX.out _ AT.out.2) ?_
  · (intro W hSW; exact run_loadPs (.tmp 3) rfl w.heap.size rfl x _ hSW HL.out)
  simp only [List.set_cons_succ, List.set_cons_zero]
  refine wpUpto_one (i := 0) rfl (by decide +kernel) rfl ?_
  intro Q0 hQ0
  go_simp
  go_at_call 93
  refine (HBG.out).mono ?_
  rintro e1 v1 ⟨rfl, h1⟩
  have W1 := hid h1
  clear h1 AT
  refine hQ0.out _ _ (fun _ => HX.out _ W1.out.2) ?_
  clear hQ0 Q0
  refine wpUpto_one (i := 2) rfl (by decide +kernel) rfl ?_
  intro Q0 hQ0
  go_simp
  go_at_call 87
  refine (HN.out v1 W1.out).mono ?_
  rintro e1 v2 ⟨rfl, h2⟩
  have W2 := hid h2
  clear h2
  refine hQ0.out _ _ (fun _ => HX.out _ W2.out.2) ?_
  clear hQ0 Q0
  refine wpUpto_one (i := 4) rfl (by decide +kernel) rfl ?_
  intro Q0 hQ0
  go_simp
  go_at_call 29
  refine (HP.out v2).mono ?_
  rintro e1 v3 ⟨A3, c3, rfl, hR3, hB3⟩
  have W3 := hid (W2.out.new hB3)
  have R3 := hid hR3
  clear hR3 hB3
  refine hQ0.out _ _ (fun _ => HX.out _ W3.out.2) ?_
  clear hQ0 Q0
  refine wpUpto_one (i := 5) rfl (by decide +kernel) rfl ?_
  intro Q0 hQ0
  go_simp
  go_at_call 88
  refine (HR.out v3 A3 c3 W3.out R3.out).mono ?_
  rintro e1 v4 ⟨rfl, h4⟩
  have W4 := hid h4
  clear h4
  refine hQ0.out _ _ (fun _ => HX.out _ W4.out.2) ?_
  clear hQ0 Q0
  refine wpUpto_one (i := 6) rfl (by decide +kernel) rfl ?_
  intro Q0 hQ0
  go_simp
  go_at_call 89
  refine (HDN.out v4 W4.out).mono ?_
  rintro e1 v5 ⟨A, c, rfl, h5⟩
  have AT := hid (show WB w0 v5 from ⟨trivial, h5.2⟩)
  have W5 := hid h5
  clear h5
  refine hQ0.out _ _ (fun _ => HX.out _ AT.out.2) ?_
  clear hQ0 Q0
  try simp only [Act.put, List.setIfInBounds_toArray, List.set_cons_succ, List.set_cons_zero]
  refine wpUpto_takeL (i := 7) (v := .slice A lt.length c) rfl rfl (by decide +kernel) (by decide +kernel) (by decide +kernel) (by decide +kernel) (by decide) (fun _ _ _ h => h) (Or.inl ⟨by rfl, ?_⟩) (HX.out _ AT.out.2) ?_
  · (intro W hSW; go_simp)
  simp only [List.set_cons_succ, List.set_cons_zero]
  refine wpUpto_takeL (i := 8) (v := errV kx) rfl rfl (by decide +kernel) (by decide +kernel) (by decide +kernel) (by decide +kernel) (by decide) (fun _ _ _ h => h) (Or.inl ⟨by rfl, ?_⟩) (HX.out _ AT.out.2) ?_
  · (intro W hSW; go_simp)
  simp only [List.set_cons_succ, List.set_cons_zero]
  refine wpUpto_takeL (i := 9) (v := .slice A lt.length c) rfl rfl (by decide +kernel) (by decide +kernel) (by decide +kernel) (by decide +kernel) (by decide) (fun _ _ _ h => h) (Or.inl ⟨by rfl, ?_⟩) (HX.out _ AT.out.2) ?_
  · (intro W hSW; go_simp)
  simp only [List.set_cons_succ, List.set_cons_zero]
  refine wpUpto_takeL (i := 10) (v := errV kx) rfl rfl (by decide +kernel) (by decide +kernel) (by decide +kernel) (by decide +kernel) (by decide) (fun _ _ _ h => h) (Or.inl ⟨by rfl, ?_⟩) (HX.out _ AT.out.2) ?_
  · (intro W hSW; go_simp)
  simp only [List.set_cons_succ, List.set_cons_zero]
  refine wpUpto_done (by decide +kernel) ?_ _
  go_simp
  go_wp2
  go_ret2
  exact ⟨A, c, rfl, W5.out.1, HB0.out.trans (W5.out.2.mono HB0.out.size)⟩
set_option maxRecDepth 100000 in
set_option maxHeartbeats 2000000 in
theorem pjoinText_ok (k : Nat) (l r : List UInt8) (w : World) (hk1 : 1 ≤ k) (hk2 : k ≤ 32) (hl : l.length = 32) (hr : r.length = 32) :
    Calls Tryd.prog 199 #[.int .i64 (k : Int), .agg (ubs l).toArray, .agg (ubs r).toArray] w fun e w' => ∃ A c, e = .returned (.tuple #[.slice A 66 c, .nilIface]) ∧ Rb w' w'.heap.size A (joinT k l r) ∧ Below w.heap.size w w' := by
  obtain ⟨w0, hw0⟩ : ∃ w0, w0 = (w.alloc (.cells (ubs l).toArray 25)).alloc (.cells (ubs r).toArray 25) := ⟨_, rfl⟩
  have hx0 : At w0 w.heap.size (ubs l).toArray 25 := by rw [hw0]; exact (At.new _ _ _).alloc _
  have hy0 : At w0 (w.heap.size + 1) (ubs r).toArray 25 := by rw [hw0]; exact At.new_at (by simp)
  have hb0 : Below w.heap.size w w0 := by rw [hw0]; exact ((Below.refl _ _).alloc (Nat.le_refl _) _).alloc (by simp) _
  have HX := hid (fun (W : World) (h : Below w0.heap.size w0 W) => (⟨hx0.new_ h, hy0.new_ h⟩ : At W w.heap.size (ubs l).toArray 25 ∧ At W (w.heap.size + 1) (ubs r).toArray 25))
  have HB0 := hid hb0
  have HJ := hid (show Calls Tryd.prog 96 #[.int .i64 (k : Int)] w0 (fun r w' => r = .returned (.bool true) ∧ w' = w0) from by
    have := pjoined_any (k : Int) w0
    rwa [show htB (k : Int) = true by rw [htB, decide_eq_true (by omega), decide_eq_true (by omega)]; rfl] at this)
  have HBG := hid (show Calls Tryd.prog 93 #[.int .u64 3] w0.drew (fun r w' => r = .returned (.pointer (some ⟨w0.heap.size, 0, none⟩)) ∧ WN w0 [2] w') from (pbegin_any 2 w0.drew (by omega)).mono fun r w' ⟨h1, h2⟩ => ⟨h1, h2.undrew⟩)
  have HN := hid (fun (W : World) (h : WN w0 [2] W) => show Calls Tryd.prog 87 #[.pointer (some ⟨w0.heap.size, 0, none⟩), .int .u64 (k : Int), .int .i64 1] W (fun e' w' => e' = .returned (.pointer (some ⟨w0.heap.size, 0, none⟩)) ∧ WN w0 [2, UInt8.ofNat k] w') from by
    have := wn_num h k 1 (by unfold Sz; omega) (by omega) (by simp)
    rw [← be_toBE, be_one] at this
    exact this)
  have HL := hid (fun (W : World) (h : WN w0 [2, UInt8.ofNat k] W) => show Calls Tryd.prog 215 #[.pointer (some ⟨w0.heap.size, 0, none⟩), .agg (ubs l).toArray] W (fun e' w' => e' = .returned (.pointer (some ⟨w0.heap.size, 0, none⟩)) ∧ WN w0 ([2, UInt8.ofNat k] ++ l) w') from wn_hash l h hl (by simp))
  have HR := hid (fun (W : World) (h : WN w0 ([2, UInt8.ofNat k] ++ l) W) => show Calls Tryd.prog 215 #[.pointer (some ⟨w0.heap.size, 0, none⟩), .agg (ubs r).toArray] W (fun e' w' => e' = .returned (.pointer (some ⟨w0.heap.size, 0, none⟩)) ∧ WN w0 (joinT k l r) w') from by
    have := wn_hash r h hr (by simp [hl])
    rwa [show ([2, UInt8.ofNat k] ++ l) ++ r = joinT k l r from rfl] at this)
  have HDN := hid (fun (W : World) (h : WN w0 (joinT k l r) W) => by
    have := wn_done h (by rw [joinT_length k l r hl hr]; omega)
    rw [joinT_length k l r hl hr] at this
    exact this)
  have ew : IntKind.u64.wrap (k : Int) = (k : Int) := wrapN64 k (by omega)
  have HLL := hid hl
  have HRL := hid hr
  generalize [2, UInt8.ofNat k] = b1 at HN HL HR
  generalize b1 ++ l = b2 at HL HR
  generalize joinT k l r = jt at HR HDN ⊢
  have hk := hid hk2
  clear hx0 hy0 hb0 hk1 hk2 hl hr
  go_enter Tryd.func199, Tryd.ntmps199
  go_upto_region 3 with (first
    | (rw [← hw0]; clear hw0; go_at_call 96; refine HJ.out.mono ?_; rintro e1 w1 ⟨rfl, rfl⟩))
  try simp only [Act.put, List.setIfInBounds_toArray, List.set_cons_succ, List.set_cons_zero]
  refine wp_region_upto (fun W => At W w.heap.size (ubs l).toArray 25 ∧ At W (w.heap.size + 1) (ubs r).toArray 25) 13 13 (by kernel_rfl) (by kernel_rfl) ?_
  have AT := hid (show WB w1 w1.drew from ⟨trivial, (Below.refl _ _).drew⟩)
  refine wpUpto_takeL (i := 1) (v := .int .i64 (k : Int)) rfl rfl (by decide +kernel) (by decide +kernel) (by decide +kernel) (by decide +kernel) (by decide) (fun _ _ _ h => h) (Or.inl ⟨by rfl, ?_⟩) (HX.out _ AT.out.2) ?_
  · (intro W hSW; go_simp)
  simp only [List.set_cons_succ, List.set_cons_zero]
  refine wpUpto_takeL (i := 2) (v := .int .u64 (k : Int)) rfl rfl (by decide +kernel) (by decide +kernel) (by decide +kernel) (by decide +kernel) (by decide) (fun _ _ _ h => h) (Or.inl ⟨by rfl, ?_⟩) (HX.out _ AT.out.2) ?_
  · (intro W hSW; go_simp)
  simp only [List.set_cons_succ, List.set_cons_zero]
  refine wpUpto_takeL (i := 4) (v := .agg (ubs l).toArray) rfl rfl (by decide +kernel) (by decide +kernel) (by decide +kernel) (by decide +kernel) (by decide) (fun _ _ _ h => h) (Or.inl ⟨by rfl, ?_⟩) (HX.out _ AT.out.2) ?_
  · (intro W hSW; exact run_loadH (.tmp 4) rfl w.heap.size 0 rfl l (range_whole hSW.1) HLL.out)
  simp only [List.set_cons_succ, List.set_cons_zero]
  refine wpUpto_takeL (i := 6) (v := .agg (ubs r).toArray) rfl rfl (by decide +kernel) (by decide +kernel) (by decide +kernel) (by decide +kernel) (by decide) (fun _ _ _ h => h) (Or.inl ⟨by rfl, ?_⟩) (HX.out _ AT.out.2) ?_
  · (intro W hSW; exact run_loadH (.tmp 5) rfl (w.heap.size + 1) 0 rfl r (range_whole hSW.2) HRL.out)
  simp only [List.set_cons_succ, List.set_cons_zero]
  refine wpUpto_one (i := 0) rfl (by decide +kernel) rfl ?_
  intro Q0 hQ0
  go_simp
  go_at_call 93
  refine (HBG.out).mono ?_
  rintro e1 v1 ⟨rfl, h1⟩
  have W1 := hid h1
  clear h1 AT
  refine hQ0.out _ _ (fun _ => HX.out _ W1.out.2) ?_
  clear hQ0 Q0
  refine wpUpto_one (i := 3) rfl (by decide +kernel) rfl ?_
  intro Q0 hQ0
  go_simp
  go_at_call 87
  refine (HN.out v1 W1.out).mono ?_
  rintro e1 v2 ⟨rfl, h2⟩
  have W2 := hid h2
  clear h2
  refine hQ0.out _ _ (fun _ => HX.out _ W2.out.2) ?_
  clear hQ0 Q0
  refine wpUpto_one (i := 5) rfl (by decide +kernel) rfl ?_
  intro Q0 hQ0
  go_simp
  go_at_call 215
  refine (HL.out v2 W2.out).mono ?_
  rintro e1 v3 ⟨rfl, h3⟩
  have W3 := hid h3
  clear h3
  refine hQ0.out _ _ (fun _ => HX.out _ W3.out.2) ?_
  clear hQ0 Q0
  refine wpUpto_one (i := 7) rfl (by decide +kernel) rfl ?_
  intro Q0 hQ0
  go_simp
  go_at_call 215
  refine (HR.out v3 W3.out).mono ?_
  rintro e1 v4 ⟨rfl, h4⟩
  have W4 := hid h4
  clear h4
  refine hQ0.out _ _ (fun _ => HX.out _ W4.out.2) ?_
  clear hQ0 Q0
  refine wpUpto_one (i := 8) rfl (by decide +kernel) rfl ?_
  intro Q0 hQ0
  go_simp
  go_at_call 89
  refine (HDN.out v4 W4.out).mono ?_
  rintro e1 v5 ⟨A, c, rfl, h5⟩
  have AT := hid (show WB w1 v5 from ⟨trivial, h5.2.2⟩)
  have W5 := hid h5
  clear h5
  refine hQ0.out _ _ (fun _ => HX.out _ AT.out.2) ?_
  clear hQ0 Q0
  try simp only [Act.put, List.setIfInBounds_toArray, List.set_cons_succ, List.set_cons_zero]
  refine wpUpto_takeL (i := 9) (v := .slice A 66 c) rfl rfl (by decide +kernel) (by decide +kernel) (by decide +kernel) (by decide +kernel) (by decide) (fun _ _ _ h => h) (Or.inl ⟨by rfl, ?_⟩) (HX.out _ AT.out.2) ?_
  · (intro W hSW; go_simp)
  simp only [List.set_cons_succ, List.set_cons_zero]
  refine wpUpto_takeL (i := 10) (v := .nilIface) rfl rfl (by decide +kernel) (by decide +kernel) (by decide +kernel) (by decide +kernel) (by decide) (fun _ _ _ h => h) (Or.inl ⟨by rfl, ?_⟩) (HX.out _ AT.out.2) ?_
  · (intro W hSW; go_simp)
  simp only [List.set_cons_succ, List.set_cons_zero]
  refine wpUpto_takeL (i := 11) (v := .slice A 66 c) rfl rfl (by decide +kernel) (by decide +kernel) (by decide +kernel) (by decide +kernel) (by decide) (fun _ _ _ h => h) (Or.inl ⟨by rfl, ?_⟩) (HX.out _ AT.out.2) ?_
  · (intro W hSW; go_simp)
  simp only [List.set_cons_succ, List.set_cons_zero]
  refine wpUpto_takeL (i := 12) (v := .nilIface) rfl rfl (by decide +kernel) (by decide +kernel) (by decide +kernel) (by decide +kernel) (by decide) (fun _ _ _ h => h) (Or.inl ⟨by rfl, ?_⟩) (HX.out _ AT.out.2) ?_
  · (intro W hSW; go_simp)
  simp only [List.set_cons_succ, List.set_cons_zero]
  refine wpUpto_done (by decide +kernel) ?_ _
  go_simp
  go_wp2
  go_ret2
  exact ⟨A, c, rfl, W5.out.2.1, HB0.out.trans (W5.out.2.2.mono HB0.out.size)⟩
set_option maxRecDepth 100000 in
set_option maxHeartbeats 1000000 in
theorem pjoinText_no (h : Int) (l r : List UInt8) (w : World) (hh : htB h = false) :
    Calls Tryd.prog 199 #[.int .i64 h, .agg (ubs l).toArray, .agg (ubs r).toArray] w fun e w' => e = .returned (.tuple #[.slice none 0 0, errV 1]) ∧ Below w.heap.size w w' := by
  have hb0 : Below w.heap.size w ((w.alloc (.cells (ubs l).toArray 25)).alloc (.cells (ubs r).toArray 25)) := ((Below.refl _ _).alloc (Nat.le_refl _) _).alloc (by simp) _
  have HB0 := hid hb0
  have HJ := hid (fun W => by
    have := pjoined_any h W
    rwa [hh] at this)
  have e : errV 1 = .iface 49 (.int .i64 1) := rfl
  rw [e]
  clear hb0 hh e
  go_enter Tryd.func199, Tryd.ntmps199
  go_wp2_with (go_at_call 96; refine (HJ.out _).mono ?_; rintro e1 w1 ⟨rfl, rfl⟩)
  go_ret2
  exact ⟨rfl, HB0.out⟩
theorem htB_nat {h : Int} (hh : htB h = true) : ∃ k : Nat, h = (k : Int) ∧ 1 ≤ k ∧ k ≤ 32 := by
  rw [htB, Bool.and_eq_true, decide_eq_true_eq, decide_eq_true_eq] at hh
  exact ⟨h.toNat, by omega, by omega, by omega⟩
theorem pjoinText_any (h : Int) (l r : List UInt8) (w : World) (hl : l.length = 32) (hr : r.length = 32) :
    Calls Tryd.prog 199 #[.int .i64 h, .agg (ubs l).toArray, .agg (ubs r).toArray] w fun e w' => ∃ A c, e = .returned (.tuple #[.slice A (jnT h l r).length c, errV (if htB h then 0 else 1)]) ∧ Rb w' w'.heap.size A (jnT h l r) ∧ Below w.heap.size w w' := by
  cases hh : htB h with
  | true =>
    obtain ⟨k, rfl, h1, h2⟩ := htB_nat hh
    have e : jnT (k : Int) l r = joinT k l r := by rw [jnT, hh]; rfl
    rw [e, joinT_length k l r hl hr]
    exact pjoinText_ok k l r w h1 h2 hl hr
  | false =>
    have e : jnT h l r = [] := by rw [jnT, hh]; rfl
    rw [e]
    exact (pjoinText_no h l r w hh).mono fun e w' ⟨h1, h2⟩ => ⟨none, 0, h1, Rd.nil _ _ _, h2⟩
end Go.Proofs.YtfmbpdjcoopaeaaDoor
