/-
  The program's layer 7: Put.
  The program's layer 8: a writer that may bear an error; the texts of leaves and of nodes.
  The program's layer 8: hashes of leaves and of nodes; what a text is of.
  The program's layer 8: the empty hashes.
-/
import Derived.Test.YtdegmcfcbndelaaDoorV4
import Derived.Test.YtdegmcfcbndelaaDoorY1
import Derived.Test.YtdegmcfcbndelaaDoorL1
import Derived.Deep.Cut
namespace Go.Proofs.YtdegmcfcbndelaaDoor
open Go.RowKit

/-- Only new memory has turned since. -/
def WB (w W : World) : Prop := True ∧ Below w.heap.size w W
end Go.Proofs.YtdegmcfcbndelaaDoor

namespace Go.Proofs.YtdegmcfcbndelaaDoor
open Go.RowKit

/-- A writer that lies where the world w ends, its error's number, and the bytes that it has; nothing else has turned. -/
def WE (w : World) (k : Nat) (bs : List UInt8) (W : World) : Prop := (∃ v, WI W w.heap.size w.heap.size k v bs) ∧ Below w.heap.size w W
theorem WE.new {w W W' : World} {k : Nat} {bs : List UInt8} (h : WE w k bs W) (hb : Below W.heap.size W W') : WE w k bs W' := by
  obtain ⟨⟨v, h1⟩, h2⟩ := h
  exact ⟨⟨v, h1.keep (Fr.of_new (S := fun _ => False) hb) (fun _ _ => id)⟩, h2.trans (hb.mono h2.size)⟩
theorem WE.leave {w W W' : World} {k k' : Nat} {bs bs' : List UInt8} {v x : Value} (h : WI W w.heap.size w.heap.size k v bs) (hb : Below w.heap.size w W) (ho : WOut w.heap.size w.heap.size k' bs' v W x W') : x = .pointer (some ⟨w.heap.size, 0, none⟩) ∧ WE w k' bs' W' := by
  obtain ⟨rfl, v', h1, h2, -⟩ := ho
  refine ⟨rfl, ⟨v', h1⟩, ?_⟩
  have h3 : Fr (fun k => w.heap.size ≤ k) w W := Fr.of_below hb (fun _ _ h => h)
  refine (h3.next h2 (fun g hg hw => ?_)).below (fun _ h => h) (Nat.le_refl _)
  rcases hw with rfl | hw
  · exact Nat.le_refl _
  · obtain ⟨A, c, rfl, -, -, -, ho, ha⟩ := own_form h.own
    rcases A with _ | a
    · rw [ho] at hw; cases hw
    · rw [ho] at hw
      obtain rfl : a.block = g := by simpa using hw
      exact (ha a rfl).2.2.1
theorem wn_hash {w W : World} {bs : List UInt8} (h : List UInt8) (hw : WN w bs W) (hh : h.length = 32) (hl : bs.length ≤ 900000000) :
    Calls Tryd.prog 95 #[.pointer (some ⟨w.heap.size, 0, none⟩), .agg (ubs h).toArray] W fun e w' => e = .returned (.pointer (some ⟨w.heap.size, 0, none⟩)) ∧ WN w (bs ++ h) w' := by
  obtain ⟨⟨v, h1⟩, h2⟩ := hw
  refine (hash_any w.heap.size w.heap.size 0 v bs h hh W h1 h2.size hl).mono ?_
  rintro e w' ⟨x, rfl, ho⟩
  obtain ⟨rfl, h3⟩ := WE.leave h1 h2 ho
  exact ⟨rfl, h3⟩
theorem WN.undrew {w W : World} {bs : List UInt8} (h : WN w.drew bs W) : WN w bs W := ⟨h.1, (Below.refl _ w).drew.trans h.2⟩
set_option maxRecDepth 100000 in
set_option maxHeartbeats 1000000 in
theorem pjoined_any (h : Int) (w : World) : Calls Tryd.prog 92 #[.int .i64 h] w fun r w' => r = .returned (.bool (htB h)) ∧ w' = w := by
  by_cases h1 : 1 ≤ h
  · have c1 : decide ((1 : Int) ≤ h) = true := decide_eq_true h1
    by_cases h2 : h ≤ 32
    · have c2 : decide (h ≤ (32 : Int)) = true := decide_eq_true h2
      have hr : htB h = true := by rw [htB, c1, c2]; rfl
      rw [hr]
      clear h1 h2 hr
      go_enter Tryd.func92, Tryd.ntmps92
      go_wp2
      go_ret
      exact ⟨rfl, rfl⟩
    · have c2 : decide (h ≤ (32 : Int)) = false := decide_eq_false h2
      have hr : htB h = false := by rw [htB, c1, c2]; rfl
      rw [hr]
      clear h1 h2 hr
      go_enter Tryd.func92, Tryd.ntmps92
      go_wp2
      go_ret
      exact ⟨rfl, rfl⟩
  · have c1 : decide ((1 : Int) ≤ h) = false := decide_eq_false h1
    have hr : htB h = false := by rw [htB, c1]; rfl
    rw [hr]
    clear h1 hr
    go_enter Tryd.func92, Tryd.ntmps92
    go_wp2
    go_ret
    exact ⟨rfl, rfl⟩
set_option maxRecDepth 100000 in
set_option maxHeartbeats 1000000 in
theorem pbegin_any (k : Nat) (w : World) (hk : k < 200) :
    Calls Tryd.prog 93 #[.int .u64 ((k + 1 : Nat) : Int)] w fun r w' => r = .returned (.pointer (some ⟨w.heap.size, 0, none⟩)) ∧ WN w [UInt8.ofNat k] w' := by
  obtain ⟨m, hm⟩ : ∃ m, m = k + 1 := ⟨_, rfl⟩
  have H0 := hid (show Calls Tryd.prog 94 #[.pointer (some ⟨w.heap.size, 0, none⟩), .int .u64 (k : Int), .int .i64 1] (w.alloc (.cells #[.nilIface, .slice none 0 0] 175)) (fun e w' => e = .returned (.pointer (some ⟨w.heap.size, 0, none⟩)) ∧ WN w [UInt8.ofNat k] w') from by
    have := wn_num (WN.begin w) k 1 (by unfold Sz; omega) (by omega) (by simp)
    rw [List.nil_append, ← be_toBE, be_one] at this
    exact this)
  have e1 : IntKind.u64.wrap ((m : Int) - 1) = (k : Int) := by rw [show (m : Int) - 1 = (k : Int) by omega, wrapN64 k (by omega)]
  rw [← hm]
  clear hm hk
  go_enter Tryd.func93, Tryd.ntmps93
  go_wp2_with (go_at_call 94; refine H0.out.mono ?_; rintro e1 w1 ⟨rfl, h1⟩; have H1 := hid h1; clear h1)
  go_ret
  exact ⟨rfl, H1.out⟩
set_option maxRecDepth 100000 in
set_option maxHeartbeats 2000000 in
theorem pjoinText_ok (k : Nat) (l r : List UInt8) (w : World) (hk1 : 1 ≤ k) (hk2 : k ≤ 32) (hl : l.length = 32) (hr : r.length = 32) :
    Calls Tryd.prog 68 #[.int .i64 (k : Int), .agg (ubs l).toArray, .agg (ubs r).toArray] w fun e w' => ∃ A c, e = .returned (.tuple #[.slice A 66 c, .nilIface]) ∧ Rb w' w'.heap.size A (joinT k l r) ∧ Below w.heap.size w w' := by
  obtain ⟨w0, hw0⟩ : ∃ w0, w0 = (w.alloc (.cells (ubs l).toArray 25)).alloc (.cells (ubs r).toArray 25) := ⟨_, rfl⟩
  have hx0 : At w0 w.heap.size (ubs l).toArray 25 := by rw [hw0]; exact (At.new _ _ _).alloc _
  have hy0 : At w0 (w.heap.size + 1) (ubs r).toArray 25 := by rw [hw0]; exact At.new_at (by simp)
  have hb0 : Below w.heap.size w w0 := by rw [hw0]; exact ((Below.refl _ _).alloc (Nat.le_refl _) _).alloc (by simp) _
  have HX := hid (fun (W : World) (h : Below w0.heap.size w0 W) => (⟨hx0.new_ h, hy0.new_ h⟩ : At W w.heap.size (ubs l).toArray 25 ∧ At W (w.heap.size + 1) (ubs r).toArray 25))
  have HB0 := hid hb0
  have HJ := hid (show Calls Tryd.prog 92 #[.int .i64 (k : Int)] w0 (fun r w' => r = .returned (.bool true) ∧ w' = w0) from by
    have := pjoined_any (k : Int) w0
    rwa [show htB (k : Int) = true by rw [htB, decide_eq_true (by omega), decide_eq_true (by omega)]; rfl] at this)
  have HBG := hid (show Calls Tryd.prog 93 #[.int .u64 3] w0.drew (fun r w' => r = .returned (.pointer (some ⟨w0.heap.size, 0, none⟩)) ∧ WN w0 [2] w') from (pbegin_any 2 w0.drew (by omega)).mono fun r w' ⟨h1, h2⟩ => ⟨h1, h2.undrew⟩)
  have HN := hid (fun (W : World) (h : WN w0 [2] W) => show Calls Tryd.prog 94 #[.pointer (some ⟨w0.heap.size, 0, none⟩), .int .u64 (k : Int), .int .i64 1] W (fun e' w' => e' = .returned (.pointer (some ⟨w0.heap.size, 0, none⟩)) ∧ WN w0 [2, UInt8.ofNat k] w') from by
    have := wn_num h k 1 (by unfold Sz; omega) (by omega) (by simp)
    rw [← be_toBE, be_one] at this
    exact this)
  have HL := hid (fun (W : World) (h : WN w0 [2, UInt8.ofNat k] W) => show Calls Tryd.prog 95 #[.pointer (some ⟨w0.heap.size, 0, none⟩), .agg (ubs l).toArray] W (fun e' w' => e' = .returned (.pointer (some ⟨w0.heap.size, 0, none⟩)) ∧ WN w0 ([2, UInt8.ofNat k] ++ l) w') from wn_hash l h hl (by simp))
  have HR := hid (fun (W : World) (h : WN w0 ([2, UInt8.ofNat k] ++ l) W) => show Calls Tryd.prog 95 #[.pointer (some ⟨w0.heap.size, 0, none⟩), .agg (ubs r).toArray] W (fun e' w' => e' = .returned (.pointer (some ⟨w0.heap.size, 0, none⟩)) ∧ WN w0 (joinT k l r) w') from by
    have := wn_hash r h hr (by simp [hl])
    rwa [show ([2, UInt8.ofNat k] ++ l) ++ r = joinT k l r from rfl] at this)
  have HDN := hid (fun (W : World) (h : WN w0 (joinT k l r) W) => by
    have := wn_done h (by rw [joinT_length k l r hl hr]; omega)
    rw [joinT_length k l r hl hr] at this
    exact this)
  have ew : IntKind.u64.wrap (k : Int) = (k : Int) := wrapN64 k (by omega)
  have HLL := hid hl
  have HRL := hid hr
  generalize [2, UInt8.ofNat k] = b1 at HN HL HR
  generalize b1 ++ l = b2 at HL HR
  generalize joinT k l r = jt at HR HDN ⊢
  have hk := hid hk2
  clear hx0 hy0 hb0 hk1 hk2 hl hr
  go_enter Tryd.func68, Tryd.ntmps68
  go_upto_region 3 with (first
    | (rw [← hw0]; clear hw0; go_at_call 92; refine HJ.out.mono ?_; rintro e1 w1 ⟨rfl, rfl⟩))
  try simp only [Act.put, List.setIfInBounds_toArray, List.set_cons_succ, List.set_cons_zero]
  refine wp_region_upto (fun W => At W w.heap.size (ubs l).toArray 25 ∧ At W (w.heap.size + 1) (ubs r).toArray 25) 13 13 (by kernel_rfl) (by kernel_rfl) ?_
  have AT := hid (show WB w1 w1.drew from ⟨trivial, (Below.refl _ _).drew⟩)
  refine wpUpto_takeL (i := 1) (v := .int .i64 (k : Int)) rfl rfl (by decide +kernel) (by decide +kernel) (by decide +kernel) (by decide +kernel) (by decide) (fun _ _ _ h => h) (Or.inl ⟨by rfl, ?_⟩) (HX.out _ AT.out.2) ?_
  · (intro W hSW; go_simp)
  simp only [List.set_cons_succ, List.set_cons_zero]
  refine wpUpto_takeL (i := 2) (v := .int .u64 (k : Int)) rfl rfl (by decide +kernel) (by decide +kernel) (by decide +kernel) (by decide +kernel) (by decide) (fun _ _ _ h => h) (Or.inl ⟨by rfl, ?_⟩) (HX.out _ AT.out.2) ?_
  · (intro W hSW; go_simp)
  simp only [List.set_cons_succ, List.set_cons_zero]
  refine wpUpto_takeL (i := 4) (v := .agg (ubs l).toArray) rfl rfl (by decide +kernel) (by decide +kernel) (by decide +kernel) (by decide +kernel) (by decide) (fun _ _ _ h => h) (Or.inl ⟨by rfl, ?_⟩) (HX.out _ AT.out.2) ?_
  · (intro W hSW; exact run_loadH (.tmp 4) rfl w.heap.size 0 rfl l (range_whole hSW.1) HLL.out)
  simp only [List.set_cons_succ, List.set_cons_zero]
  refine wpUpto_takeL (i := 6) (v := .agg (ubs r).toArray) rfl rfl (by decide +kernel) (by decide +kernel) (by decide +kernel) (by decide +kernel) (by decide) (fun _ _ _ h => h) (Or.inl ⟨by rfl, ?_⟩) (HX.out _ AT.out.2) ?_
  · (intro W hSW; exact run_loadH (.tmp 5) rfl (w.heap.size + 1) 0 rfl r (range_whole hSW.2) HRL.out)
  simp only [List.set_cons_succ, List.set_cons_zero]
  refine wpUpto_one (i := 0) rfl (by decide +kernel) rfl ?_
  intro Q0 hQ0
  go_simp
  go_at_call 93
  refine (HBG.out).mono ?_
  rintro e1 v1 ⟨rfl, h1⟩
  have W1 := hid h1
  clear h1 AT
  refine hQ0.out _ _ (fun _ => HX.out _ W1.out.2) ?_
  clear hQ0 Q0
  refine wpUpto_one (i := 3) rfl (by decide +kernel) rfl ?_
  intro Q0 hQ0
  go_simp
  go_at_call 94
  refine (HN.out v1 W1.out).mono ?_
  rintro e1 v2 ⟨rfl, h2⟩
  have W2 := hid h2
  clear h2
  refine hQ0.out _ _ (fun _ => HX.out _ W2.out.2) ?_
  clear hQ0 Q0
  refine wpUpto_one (i := 5) rfl (by decide +kernel) rfl ?_
  intro Q0 hQ0
  go_simp
  go_at_call 95
  refine (HL.out v2 W2.out).mono ?_
  rintro e1 v3 ⟨rfl, h3⟩
  have W3 := hid h3
  clear h3
  refine hQ0.out _ _ (fun _ => HX.out _ W3.out.2) ?_
  clear hQ0 Q0
  refine wpUpto_one (i := 7) rfl (by decide +kernel) rfl ?_
  intro Q0 hQ0
  go_simp
  go_at_call 95
  refine (HR.out v3 W3.out).mono ?_
  rintro e1 v4 ⟨rfl, h4⟩
  have W4 := hid h4
  clear h4
  refine hQ0.out _ _ (fun _ => HX.out _ W4.out.2) ?_
  clear hQ0 Q0
  refine wpUpto_one (i := 8) rfl (by decide +kernel) rfl ?_
  intro Q0 hQ0
  go_simp
  go_at_call 96
  refine (HDN.out v4 W4.out).mono ?_
  rintro e1 v5 ⟨A, c, rfl, h5⟩
  have AT := hid (show WB w1 v5 from ⟨trivial, h5.2.2⟩)
  have W5 := hid h5
  clear h5
  refine hQ0.out _ _ (fun _ => HX.out _ AT.out.2) ?_
  clear hQ0 Q0
  try simp only [Act.put, List.setIfInBounds_toArray, List.set_cons_succ, List.set_cons_zero]
  refine wpUpto_takeL (i := 9) (v := .slice A 66 c) rfl rfl (by decide +kernel) (by decide +kernel) (by decide +kernel) (by decide +kernel) (by decide) (fun _ _ _ h => h) (Or.inl ⟨by rfl, ?_⟩) (HX.out _ AT.out.2) ?_
  · (intro W hSW; go_simp)
  simp only [List.set_cons_succ, List.set_cons_zero]
  refine wpUpto_takeL (i := 10) (v := .nilIface) rfl rfl (by decide +kernel) (by decide +kernel) (by decide +kernel) (by decide +kernel) (by decide) (fun _ _ _ h => h) (Or.inl ⟨by rfl, ?_⟩) (HX.out _ AT.out.2) ?_
  · (intro W hSW; go_simp)
  simp only [List.set_cons_succ, List.set_cons_zero]
  refine wpUpto_takeL (i := 11) (v := .slice A 66 c) rfl rfl (by decide +kernel) (by decide +kernel) (by decide +kernel) (by decide +kernel) (by decide) (fun _ _ _ h => h) (Or.inl ⟨by rfl, ?_⟩) (HX.out _ AT.out.2) ?_
  · (intro W hSW; go_simp)
  simp only [List.set_cons_succ, List.set_cons_zero]
  refine wpUpto_takeL (i := 12) (v := .nilIface) rfl rfl (by decide +kernel) (by decide +kernel) (by decide +kernel) (by decide +kernel) (by decide) (fun _ _ _ h => h) (Or.inl ⟨by rfl, ?_⟩) (HX.out _ AT.out.2) ?_
  · (intro W hSW; go_simp)
  simp only [List.set_cons_succ, List.set_cons_zero]
  refine wpUpto_done (by decide +kernel) ?_ _
  go_simp
  go_wp2
  go_ret2
  exact ⟨A, c, rfl, W5.out.2.1, HB0.out.trans (W5.out.2.2.mono HB0.out.size)⟩
set_option maxRecDepth 100000 in
set_option maxHeartbeats 1000000 in
theorem pjoinText_no (h : Int) (l r : List UInt8) (w : World) (hh : htB h = false) :
    Calls Tryd.prog 68 #[.int .i64 h, .agg (ubs l).toArray, .agg (ubs r).toArray] w fun e w' => e = .returned (.tuple #[.slice none 0 0, errV 1]) ∧ Below w.heap.size w w' := by
  have hb0 : Below w.heap.size w ((w.alloc (.cells (ubs l).toArray 25)).alloc (.cells (ubs r).toArray 25)) := ((Below.refl _ _).alloc (Nat.le_refl _) _).alloc (by simp) _
  have HB0 := hid hb0
  have HJ := hid (fun W => by
    have := pjoined_any h W
    rwa [hh] at this)
  have e : errV 1 = .iface 42 (.int .i64 1) := rfl
  rw [e]
  clear hb0 hh e
  go_enter Tryd.func68, Tryd.ntmps68
  go_wp2_with (go_at_call 92; refine (HJ.out _).mono ?_; rintro e1 w1 ⟨rfl, rfl⟩)
  go_ret2
  exact ⟨rfl, HB0.out⟩
theorem htB_nat {h : Int} (hh : htB h = true) : ∃ k : Nat, h = (k : Int) ∧ 1 ≤ k ∧ k ≤ 32 := by
  rw [htB, Bool.and_eq_true, decide_eq_true_eq, decide_eq_true_eq] at hh
  exact ⟨h.toNat, by omega, by omega, by omega⟩
theorem pjoinText_any (h : Int) (l r : List UInt8) (w : World) (hl : l.length = 32) (hr : r.length = 32) :
    Calls Tryd.prog 68 #[.int .i64 h, .agg (ubs l).toArray, .agg (ubs r).toArray] w fun e w' => ∃ A c, e = .returned (.tuple #[.slice A (jnT h l r).length c, errV (if htB h then 0 else 1)]) ∧ Rb w' w'.heap.size A (jnT h l r) ∧ Below w.heap.size w w' := by
  cases hh : htB h with
  | true =>
    obtain ⟨k, rfl, h1, h2⟩ := htB_nat hh
    have e : jnT (k : Int) l r = joinT k l r := by rw [jnT, hh]; rfl
    rw [e, joinT_length k l r hl hr]
    exact pjoinText_ok k l r w h1 h2 hl hr
  | false =>
    have e : jnT h l r = [] := by rw [jnT, hh]; rfl
    rw [e]
    exact (pjoinText_no h l r w hh).mono fun e w' ⟨h1, h2⟩ => ⟨none, 0, h1, Rd.nil _ _ _, h2⟩
end Go.Proofs.YtdegmcfcbndelaaDoor

namespace Go.Proofs.YtdegmcfcbndelaaDoor
open Go.RowKit

set_option maxRecDepth 100000 in
set_option maxHeartbeats 1000000 in
theorem phashOf_ok (bs : List UInt8) (A : Option Addr) (c : Nat) (w : World) (hr : Rb w w.heap.size A bs) (hl : bs.length ≤ 1000000) (hT : Tabs w) :
    Calls Tryd.prog 67 #[.slice A bs.length c, .nilIface] w fun r w' => r = .returned (.tuple #[.agg (ubs (hashL bs)).toArray, .nilIface]) ∧ Below w.heap.size w w' := by
  have hb0 : Below w.heap.size w (w.alloc (.cells (ubs n32).toArray 25)) := (Below.refl _ _).alloc (Nat.le_refl _) _
  have HS := hid (sum_any bs A c (w.alloc (.cells (ubs n32).toArray 25)) ((hr.below hb0).mono (by simp)) (by omega) (hT.below hb0))
  have H0 := hid (At.new w (ubs n32).toArray 25)
  have HB0 := hid hb0
  have HML := hid (hashL_length bs)
  have HAH := hid (fun (o : Oper) (a : Go.Act) (W : World) (h : o.op = .alloc 25) => run_alloc_of (o := o) (a := a) (W := W) _ h _ zeroH8)
  generalize hashL bs = m at HS HML ⊢
  generalize bs.length = n at HS ⊢
  clear hr hl hT hb0
  go_enter Tryd.func67, Tryd.ntmps67
  go_wp2_with (first
    | (refine Great.wpList_allocTo rfl _ rfl _ _ (HAH.out _ _ _ rfl) ?_)
    | (go_at_call 91; refine HS.out.mono ?_; rintro e1 w1 ⟨rfl, hb1⟩; have H1 := hid (H0.out.new_ hb1); have B1 := hid (HB0.out.trans (hb1.mono HB0.out.size)); clear hb1)
    | (refine wpList_store_row rfl _ (.tmp 4) (.tmp 11) rfl w.heap.size (ubs m).toArray rfl rfl 25 (ubs n32).toArray H1.out (sizeH_of HML.out) ?e5 (ubs_all _) ?e6; rotate_right))
  case e5 => simp [ubs_length, n32_length, HML.out]
  refine bodyPost_ret (results_row_tmp rfl _ _ w.heap.size 25 (ubs m).toArray (0, 0) _ rfl (setRow_heap _ _ _ _ _ _ H1.out) Tryd.underlying25 rfl (sizeH_of HML.out)) rfl ?_
  exact ⟨rfl, below_setRow B1.out (Nat.le_refl _) _⟩
set_option maxRecDepth 100000 in
set_option maxHeartbeats 1000000 in
theorem phashOf_no (v : Value) (w : World) :
    Calls Tryd.prog 67 #[v, errV 1] w fun r w' => r = .returned (.tuple #[.agg (ubs n32).toArray, errV 1]) ∧ Below w.heap.size w w' := by
  have H0 := hid (At.new w (ubs n32).toArray 25)
  have HB0 := hid ((Below.refl w.heap.size w).alloc (Nat.le_refl _) (.cells (ubs n32).toArray 25))
  have HML := hid n32_length
  have HAH := hid (fun (o : Oper) (a : Go.Act) (W : World) (h : o.op = .alloc 25) => run_alloc_of (o := o) (a := a) (W := W) _ h _ zeroH8)
  have e : errV 1 = .iface 42 (.int .i64 1) := rfl
  rw [e]
  clear e
  obtain ⟨m, hm⟩ : ∃ m, m = n32 := ⟨_, rfl⟩
  have HBH := hid (fun (o : Oper) (a : Go.Act) (W : World) (h : o.op = .build 25 #[]) => show (execOp a.eval o).run Tryd.prog W = .ok (.value (.agg (ubs m).toArray)) W by rw [hm]; exact run_build_hash0 h)
  rw [← hm] at HML ⊢
  have HNL := hid n32_length
  clear hm
  go_enter Tryd.func67, Tryd.ntmps67
  go_wp2_with (first
    | (refine Great.wpList_allocTo rfl _ rfl _ _ (HAH.out _ _ _ rfl) ?_)
    | (refine wpList_valW (by rfl) (HBH.out _ _ _ rfl) ?_)
    | (refine wpList_store_row rfl _ (.tmp 4) (.tmp 8) rfl w.heap.size (ubs m).toArray rfl rfl 25 (ubs n32).toArray H0.out (sizeH_of HML.out) ?e5 (ubs_all _) ?e6; rotate_right))
  case e5 => simp [ubs_length, HNL.out, HML.out]
  refine bodyPost_ret (results_row_tmp rfl _ _ w.heap.size 25 (ubs m).toArray (0, 0) _ rfl (setRow_heap _ _ _ _ _ _ H0.out) Tryd.underlying25 rfl (sizeH_of HML.out)) rfl ?_
  exact ⟨rfl, below_setRow HB0.out (Nat.le_refl _) _⟩
/-- A text's hash, or the error for which there is none. -/
theorem phashOf_any (g : Bool) (bs : List UInt8) (A : Option Addr) (c : Nat) (w : World) (hr : Rb w w.heap.size A bs) (hl : bs.length ≤ 1000000) (hT : Tabs w) :
    Calls Tryd.prog 67 #[.slice A bs.length c, errV (if g then 0 else 1)] w fun r w' => r = .returned (.tuple #[.agg (ubs (if g then hashL bs else n32)).toArray, errV (if g then 0 else 1)]) ∧ Below w.heap.size w w' := by
  cases g with
  | true => exact phashOf_ok bs A c w hr hl hT
  | false => exact phashOf_no _ w
set_option maxRecDepth 100000 in
set_option maxHeartbeats 1000000 in
theorem pjoin_any (h : Int) (l r : List UInt8) (w : World) (hl : l.length = 32) (hr : r.length = 32) (hT : Tabs w) :
    Calls Tryd.prog 25 #[.int .i64 h, .agg (ubs l).toArray, .agg (ubs r).toArray] w fun e w' => e = .returned (.tuple #[.agg (ubs (jnH h l r)).toArray, errV (if htB h then 0 else 1)]) ∧ Below w.heap.size w w' := by
  obtain ⟨W0, hW0⟩ : ∃ W0, W0 = ((w.alloc (.cells (ubs l).toArray 25)).alloc (.cells (ubs r).toArray 25)).alloc (.cells (ubs n32).toArray 25) := ⟨_, rfl⟩
  have HA := hid (show At W0 w.heap.size (ubs l).toArray 25 by rw [hW0]; exact ((At.new _ _ _).alloc _).alloc _)
  have HC := hid (show At W0 (w.heap.size + 1) (ubs r).toArray 25 by rw [hW0]; exact (At.new_at (by simp)).alloc _)
  have H1 := hid (show At W0 (w.heap.size + 1 + 1) (ubs n32).toArray 25 by rw [hW0]; exact At.new_at (by simp))
  have HB := hid (show Below w.heap.size w W0 by rw [hW0]; exact (((Below.refl _ _).alloc (Nat.le_refl _) _).alloc (by simp) _).alloc (by simp; omega) _)
  have HX := hid (fun W => pjoinText_any h l r W hl hr)
  have hH : (if htB h then hashL (jnT h l r) else n32) = jnH h l r := by
    rw [jnH, jnT]
    cases htB h <;> rfl
  have hll : (jnT h l r).length ≤ 1000000 := by
    rw [jnT]
    cases htB h
    · simp
    · simp [joinT_length h.toNat l r hl hr]
  have HML := hid (show (jnH h l r).length = 32 by
    rw [jnH]
    cases htB h
    · exact n32_length
    · exact hashL_length _)
  obtain ⟨kx, hkx⟩ : ∃ k, k = if htB h then 0 else 1 := ⟨_, rfl⟩
  have HS := hid (fun (W : World) (A : Option Addr) (c : Nat) (hb : Below w.heap.size w W) (hA : Rb W W.heap.size A (jnT h l r)) => show Calls Tryd.prog 67 #[.slice A (jnT h l r).length c, errV kx] W (fun e w' => e = .returned (.tuple #[.agg (ubs (jnH h l r)).toArray, errV kx]) ∧ Below W.heap.size W w') by
    have := phashOf_any (htB h) (jnT h l r) A c W hA hll (hT.below hb)
    rwa [← hkx, hH] at this)
  rw [← hkx] at HX ⊢
  have HLL := hid hl
  have HRL := hid hr
  have HAH := hid (fun (o : Oper) (a : Go.Act) (W : World) (h : o.op = .alloc 25) => run_alloc_of (o := o) (a := a) (W := W) _ h _ zeroH8)
  generalize jnH h l r = m at HS HML ⊢
  generalize jnT h l r = lt at HX HS
  generalize hln : lt.length = ln at HX HS
  clear hl hr hT hH hll hkx hln
  subst hW0
  go_enter Tryd.func25, Tryd.ntmps25
  go_wp2_with (first
    | (refine Great.wpList_allocTo rfl _ rfl _ _ (HAH.out _ _ _ rfl) ?_)
    | (refine wpList_valW (by rfl) (run_loadH (.tmp 4) rfl w.heap.size 0 rfl l (range_whole HA.out) HLL.out) ?_)
    | (refine wpList_valW (by rfl) (run_loadH (.tmp 5) rfl (w.heap.size + 1) 0 rfl r (range_whole HC.out) HRL.out) ?_)
    | (go_at_call 68; refine (HX.out _).mono ?_; rintro e1 w1 ⟨A1, c1, rfl, hA1, hb1⟩; have H2 := hid (H1.out.new_ hb1); have B2 := hid (HB.out.trans (hb1.mono HB.out.size)); have S2 := hid (HS.out w1 A1 c1 B2.out hA1); clear hA1 hb1)
    | (go_at_call 67; refine S2.out.mono ?_; rintro e2 w2 ⟨rfl, hb2⟩; have H3 := hid (H2.out.new_ hb2); have B3 := hid (B2.out.trans (hb2.mono B2.out.size)); clear hb2)
    | (refine wpList_store_row rfl _ (.tmp 6) (.tmp 15) rfl (w.heap.size + 1 + 1) (ubs m).toArray rfl rfl 25 (ubs n32).toArray H3.out (sizeH_of HML.out) ?e5 (ubs_all _) ?e6; rotate_right))
  case e5 => simp [ubs_length, n32_length, HML.out]
  refine bodyPost_ret (results_row_tmp rfl _ _ (w.heap.size + 1 + 1) 25 (ubs m).toArray (0, 0) _ rfl (setRow_heap _ _ _ _ _ _ H3.out) Tryd.underlying25 rfl (sizeH_of HML.out)) rfl ?_
  exact ⟨rfl, below_setRow B3.out (by omega) _⟩
theorem join_c (w : World) (hT : Tabs w) : JoinC w := fun W h l r hb _ _ hl hr => pjoin_any h l r W hl hr (hT.below hb)
end Go.Proofs.YtdegmcfcbndelaaDoor

namespace Go.Proofs.YtdegmcfcbndelaaDoor
open Go.RowKit

/-- The first m empty hashes, and noughts behind them. -/
def eTo (m : Nat) : List UInt8 := eRow m ++ List.replicate (32 * (33 - m)) 0
def z1056 : List UInt8 := List.replicate 1056 0
theorem z1056_length : z1056.length = 1056 := List.length_replicate
theorem eTo_zero : eTo 0 = z1056 := by
  have h : eRow 0 = [] := by with_unfolding_all rfl
  unfold eTo z1056
  rw [h]
  rfl
theorem eTo_all : eTo 33 = eRow 33 := by simp [eTo]
theorem eTo_length (m : Nat) (h : m ≤ 33) : (eTo m).length = 1056 := by
  rw [eTo, List.length_append, eRow_length, List.length_replicate]
  omega
theorem eTo_next (m : Nat) (h : m ≤ 32) : spl (eTo m) (32 * m) (emptyL m) = eTo (m + 1) := by
  have h1 : List.replicate (32 * (33 - m)) (0 : UInt8) = List.replicate 32 0 ++ List.replicate (32 * (33 - (m + 1))) 0 := by
    rw [List.replicate_append_replicate]
    congr 1
    omega
  have := spl_at (eRow m) (List.replicate 32 0) (List.replicate (32 * (33 - (m + 1))) 0) (emptyL m) (by rw [emptyL_length, List.length_replicate])
  rw [eRow_length] at this
  rw [eTo, h1, this, eTo, eRow_succ, List.append_assoc]
theorem eTo_part (m n : Nat) (hn : n < m) : ∃ z, eTo m = eRow n ++ (emptyL n ++ z) := by
  obtain ⟨z, hz⟩ := eRow_at m n hn
  exact ⟨z ++ List.replicate (32 * (33 - m)) 0, by rw [eTo, hz]; simp⟩
theorem zeroAH : (Tryd.prog.info? 112).bind (·.zero) = some (.agg (ubs z1056).toArray) := by kernel_rfl
theorem sizeAH : (Tryd.prog.info? 112).map (·.size) = some 1056 := by kernel_rfl
theorem sizeAH_of {l : List UInt8} (h : l.length = 1056) : (Tryd.prog.info? 112).map (·.size) = some (ubs l).toArray.size := by rw [sizeAH]; simp [ubs_length, h]
/-- The array in the making. -/
structure EtW (w : World) (m : Nat) (W : World) : Prop where
  r : At W w.heap.size (ubs z1056).toArray 112
  c : At W (w.heap.size + 1) (ubs (eTo m)).toArray 112
  size : w.heap.size + 2 ≤ W.heap.size
  below : Below w.heap.size w W
theorem EtW.start (w : World) : EtW w 0 ((w.alloc (.cells (ubs z1056).toArray 112)).alloc (.cells (ubs z1056).toArray 112)) :=
  ⟨(At.new _ _ _).alloc _, by rw [eTo_zero]; exact At.new_at (by simp), by simp, ((Below.refl _ _).alloc (Nat.le_refl _) _).alloc (by simp) _⟩
theorem EtW.new {w W W' : World} {m : Nat} (h : EtW w m W) (hb : Below W.heap.size W W') : EtW w m W' :=
  ⟨h.r.new_ hb, h.c.new_ hb, Nat.le_trans h.size hb.size, h.below.trans (hb.mono h.below.size)⟩
theorem EtW.drew {w W : World} {m : Nat} (h : EtW w m W) : EtW w m W.drew := h.new (Below.refl _ _).drew
theorem EtW.store {w W : World} {m : Nat} (hm : m ≤ 32) (h : EtW w m W) : EtW w (m + 1) (W.setCells (w.heap.size + 1) (32 * m) (ubs (emptyL m))) := by
  have hz : ∀ (vs : List Value) (g o : Nat) (W : World), (W.setCells g o vs).heap.size = W.heap.size := by
    intro vs g
    induction vs with
    | nil => exact fun _ _ => rfl
    | cons v r ih => exact fun o W => (ih (o + 1) _).trans (by simp)
  refine ⟨far_setCells h.r (by omega) _ _, ?_, by rw [hz]; exact h.size, below_setCells h.below (by omega) _ _⟩
  have := at_setCells h.c (32 * m) (emptyL m)
  rwa [eTo_next m hm] at this
theorem EtW.range {w W : World} {m : Nat} (h : EtW w m W) (n : Nat) (hn : n < m) : W.rangeAt (w.heap.size + 1) (32 * n) (ubs (emptyL n)) := by
  obtain ⟨z, hz⟩ := eTo_part m n hn
  have := range_at h.c hz
  rwa [eRow_length] at this
theorem EtW.there {w W : World} {m : Nat} (h : EtW w m W) (hm : m ≤ 32) : W.there (w.heap.size + 1) (32 * m) 32 :=
  there_at h.c _ _ (by rw [eTo_length m (by omega)]; omega)
set_option maxRecDepth 100000 in
set_option maxHeartbeats 2000000 in
theorem pemptiesTo_any (k : Nat) (w : World) (hk : k ≤ 32) (hT : Tabs w) :
    Calls Tryd.prog 90 #[.int .i64 (k : Int)] w fun r w' => r = .returned (.agg (ubs (eTo (k + 1))).toArray) ∧ Below w.heap.size w w' := by
  have H0 := hid (EtW.start w)
  have HBG := hid (fun (W : World) => show Calls Tryd.prog 93 #[.int .u64 1] W (fun r w' => r = .returned (.pointer (some ⟨W.heap.size, 0, none⟩)) ∧ WN W [0] w') from pbegin_any 0 W (by omega))
  have HDN := hid (fun (V W : World) (h : WN V [0] W) => show Calls Tryd.prog 96 #[.pointer (some ⟨V.heap.size, 0, none⟩)] W (fun e w' => ∃ A c, e = .returned (.tuple #[.slice A 1 c, .nilIface]) ∧ Rb w' w'.heap.size A [0] ∧ Below V.heap.size V w') from (wn_done h (by simp)).mono fun r w' ⟨A, c, h1, h2, h3, h4⟩ => ⟨A, c, h1, h3, h4⟩)
  have HSH := hid (fun (W : World) (A : Option Addr) (c : Nat) (h : EtW w 0 W) (hA : Rb W W.heap.size A [0]) => show Calls Tryd.prog 67 #[.slice A 1 c, .nilIface] W (fun r w' => r = .returned (.tuple #[.agg (ubs (emptyL 0)).toArray, .nilIface]) ∧ Below W.heap.size W w') from by
    have := phashOf_ok [0] A c W hA (by simp) (hT.below h.below)
    rwa [← emptyL_zero] at this)
  have HJ := hid (fun (W : World) (j : Nat) (hj : j < 32) (h : Below w.heap.size w W) => show Calls Tryd.prog 25 #[.int .i64 ((j + 1 : Nat) : Int), .agg (ubs (emptyL j)).toArray, .agg (ubs (emptyL j)).toArray] W (fun e w' => e = .returned (.tuple #[.agg (ubs (emptyL (j + 1))).toArray, .nilIface]) ∧ Below W.heap.size W w') by
    have hB : htB ((j + 1 : Nat) : Int) = true := by rw [htB, decide_eq_true (by omega), decide_eq_true (by omega)]; rfl
    have := pjoin_any ((j + 1 : Nat) : Int) (emptyL j) (emptyL j) W (emptyL_length j) (emptyL_length j) (hT.below h)
    rw [jnH, hB, if_pos rfl, Int.toNat_natCast, ← emptyL_succ] at this
    exact this)
  have HAH := hid (fun (o : Oper) (a : Go.Act) (W : World) (h : o.op = .alloc 112) => run_alloc_of (o := o) (a := a) (W := W) _ h _ zeroAH)
  have HE0 := hid (emptyL_length 0)
  have hk' := hid hk
  clear hT hk
  go_enter Tryd.func90, Tryd.ntmps90
  go_upto_region 2 with (refine Great.wpList_allocTo rfl _ rfl _ _ (HAH.out _ _ _ rfl) ?_; try simp only [World.size_alloc])
  generalize ((w.alloc (.cells (ubs z1056).toArray 112)).alloc (.cells (ubs z1056).toArray 112)) = W0 at H0 ⊢
  go_wp2_with (first
    | (go_at_call 93; refine (HBG.out _).mono ?_; rintro e1 w1 ⟨rfl, h1⟩; have N1 := hid h1; have W1 := hid (H0.out.new h1.2); clear h1)
    | (go_at_call 96; refine (HDN.out _ _ N1.out).mono ?_; rintro e2 w2 ⟨A2, c2, rfl, hA2, hb2⟩; have W2 := hid (H0.out.new hb2); have S2 := hid (HSH.out w2 A2 c2 W2.out hA2); clear hA2 hb2)
    | (go_at_call 67; refine S2.out.mono ?_; rintro e3 w3 ⟨rfl, hb3⟩; have W3 := hid (W2.out.new hb3); clear hb3)
    | (refine wpList_store_mid rfl 25 (.tmp 13) (.tmp 11) rfl (w.heap.size + 1) 0 (ubs (emptyL 0)).toArray rfl rfl ?t1 (sizeH_of HE0.out) (ubs_all _) ?_; rotate_right; have W4 := hid (W3.out.store (by omega)); rw [List.toList_toArray]; rw [Nat.mul_zero] at W4; generalize (w3.setCells (w.heap.size + 1) 0 (ubs (emptyL 0))) = w4 at W4 ⊢))
  case t1 => have := W3.out.there (by omega); simpa [ubs_length, HE0.out] using this
  clear H0 HBG HDN HSH HE0
  go_loopw [15] (fun v wr => ∃ j : Nat, j ≤ k ∧ v = .int .i64 (j : Int) ∧ EtW w (j + 1) wr) (fun v _ => k - (intOf v).toNat)
  case atStart => exact ⟨0, by omega, rfl, W4.out⟩
  case round =>
    clear W4 W3 W2 W1 S2 N1
    obtain ⟨j, hj, rfl, hA⟩ := hrel
    have HA := hid hA
    clear hA
    by_cases hlt : j < k
    · have hd : decide ((j : Int) < (k : Int)) = true := by simp; omega
      obtain ⟨j1, hj1⟩ : ∃ m, m = j + 1 := ⟨_, rfl⟩
      obtain ⟨o, ho⟩ : ∃ m, m = 32 * j := ⟨_, rfl⟩
      obtain ⟨o1, ho1⟩ : ∃ m, m = 32 * j1 := ⟨_, rfl⟩
      have HJ1 := hid hj1
      have HO := hid ho
      have HO1 := hid ho1
      have HRG := hid (fun (W : World) (h : EtW w j1 W) => show W.rangeAt (w.heap.size + 1) o (ubs (emptyL j)) by rw [ho]; exact h.range j (by omega))
      have HEL := hid (emptyL_length j)
      have HEM := hid (emptyL_length j1)
      have HN := hid (fun (W : World) (h : EtW w j1 W) => HJ.out W j (by have := hk'.out; omega) h.below)
      rw [← hj1] at HN HA
      have e1 : IntKind.i64.wrap ((j : Int) + 1) = (j1 : Int) := by rw [IntKind.wrap_i64] <;> have := hk'.out <;> omega
      have e2 : (j : Int) + 1 = (j1 : Int) := by omega
      have ew : IntKind.i64.wrap (j1 : Int) = (j1 : Int) := by rw [IntKind.wrap_i64] <;> have := hk'.out <;> omega
      have i0 : (j : Int) < 33 := by have := hk'.out; omega
      have i1 : (j1 : Int) < 33 := by have := hk'.out; omega
      have HI1 := hid (show j1 ≤ 32 by have := hk'.out; omega)
      have e3 : j * 32 = o := by omega
      have e4 : j1 * 32 = o1 := by omega
      clear hj1 ho ho1
      go_upto_region 6 with (fail)
      have AT := hid (show EtW w j1 wr.drew from HA.out.drew)
      clear HA
      refine wp_region_upto (fun W => W.rangeAt (w.heap.size + 1) o (ubs (emptyL j))) 16 16 (by kernel_rfl) (by kernel_rfl) ?_
      generalize wr.drew = V0 at AT ⊢
      refine wpUpto_takeL (i := 0) (v := .int .i64 (j : Int)) rfl rfl (by decide +kernel) (by decide +kernel) (by decide +kernel) (by decide +kernel) (by decide) (fun _ _ _ h => h) (Or.inl ⟨by rfl, ?_⟩) (HRG.out _ AT.out) ?_
      · (intro W hSW; go_simp)
      simp only [List.set_cons_succ, List.set_cons_zero]
      refine wpUpto_takeL (i := 1) (v := .int .i64 (j1 : Int)) rfl rfl (by decide +kernel) (by decide +kernel) (by decide +kernel) (by decide +kernel) (by decide) (fun _ _ _ h => h) (Or.inl ⟨by rfl, ?_⟩) (HRG.out _ AT.out) ?_
      · (intro W hSW; go_simp)
      simp only [List.set_cons_succ, List.set_cons_zero]
      refine wpUpto_takeL (i := 2) (v := .int .i64 (j : Int)) rfl rfl (by decide +kernel) (by decide +kernel) (by decide +kernel) (by decide +kernel) (by decide) (fun _ _ _ h => h) (Or.inl ⟨by rfl, ?_⟩) (HRG.out _ AT.out) ?_
      · (intro W hSW; go_simp)
      simp only [List.set_cons_succ, List.set_cons_zero]
      refine wpUpto_takeL (i := 3) (v := .int .i64 (j1 : Int)) rfl rfl (by decide +kernel) (by decide +kernel) (by decide +kernel) (by decide +kernel) (by decide) (fun _ _ _ h => h) (Or.inl ⟨by rfl, ?_⟩) (HRG.out _ AT.out) ?_
      · (intro W hSW; go_simp)
      simp only [List.set_cons_succ, List.set_cons_zero]
      refine wpUpto_takeL (i := 4) (v := .int .i64 (j : Int)) rfl rfl (by decide +kernel) (by decide +kernel) (by decide +kernel) (by decide +kernel) (by decide) (fun _ _ _ h => h) (Or.inl ⟨by rfl, ?_⟩) (HRG.out _ AT.out) ?_
      · (intro W hSW; go_simp)
      simp only [List.set_cons_succ, List.set_cons_zero]
      refine wpUpto_takeL (i := 5) (v := .pointer (some ⟨w.heap.size + 1, o, none⟩)) rfl rfl (by decide +kernel) (by decide +kernel) (by decide +kernel) (by decide +kernel) (by decide) (fun _ _ _ h => h) (Or.inl ⟨by rfl, ?_⟩) (HRG.out _ AT.out) ?_
      · (intro W hSW; go_simp)
      simp only [List.set_cons_succ, List.set_cons_zero]
      refine wpUpto_takeL (i := 6) (v := .agg (ubs (emptyL j)).toArray) rfl rfl (by decide +kernel) (by decide +kernel) (by decide +kernel) (by decide +kernel) (by decide) (fun _ _ _ h => h) (Or.inl ⟨by rfl, ?_⟩) (HRG.out _ AT.out) ?_
      · (intro W hSW; exact run_loadH (.tmp 24) rfl (w.heap.size + 1) o rfl (emptyL j) hSW HEL.out)
      simp only [List.set_cons_succ, List.set_cons_zero]
      refine wpUpto_takeL (i := 7) (v := .int .i64 (j : Int)) rfl rfl (by decide +kernel) (by decide +kernel) (by decide +kernel) (by decide +kernel) (by decide) (fun _ _ _ h => h) (Or.inl ⟨by rfl, ?_⟩) (HRG.out _ AT.out) ?_
      · (intro W hSW; go_simp)
      simp only [List.set_cons_succ, List.set_cons_zero]
      refine wpUpto_takeL (i := 8) (v := .pointer (some ⟨w.heap.size + 1, o, none⟩)) rfl rfl (by decide +kernel) (by decide +kernel) (by decide +kernel) (by decide +kernel) (by decide) (fun _ _ _ h => h) (Or.inl ⟨by rfl, ?_⟩) (HRG.out _ AT.out) ?_
      · (intro W hSW; go_simp)
      simp only [List.set_cons_succ, List.set_cons_zero]
      refine wpUpto_takeL (i := 9) (v := .agg (ubs (emptyL j)).toArray) rfl rfl (by decide +kernel) (by decide +kernel) (by decide +kernel) (by decide +kernel) (by decide) (fun _ _ _ h => h) (Or.inl ⟨by rfl, ?_⟩) (HRG.out _ AT.out) ?_
      · (intro W hSW; exact run_loadH (.tmp 27) rfl (w.heap.size + 1) o rfl (emptyL j) hSW HEL.out)
      simp only [List.set_cons_succ, List.set_cons_zero]
      refine wpUpto_one (i := 10) rfl (by decide +kernel) rfl ?_
      intro Q0 hQ0
      go_simp
      go_at_call 25
      refine (HN.out V0 AT.out).mono ?_
      rintro e1 v1 ⟨rfl, h1⟩
      have BT := hid (AT.out.new h1)
      clear h1 AT
      refine hQ0.out _ _ (fun _ => HRG.out _ BT.out) ?_
      clear hQ0 Q0
      try simp only [Act.put, List.setIfInBounds_toArray, List.set_cons_succ, List.set_cons_zero]
      refine wpUpto_takeL (i := 11) (v := .tuple #[.agg (ubs (emptyL j1)).toArray, .nilIface]) rfl rfl (by decide +kernel) (by decide +kernel) (by decide +kernel) (by decide +kernel) (by decide) (fun _ _ _ h => h) (Or.inl ⟨by rfl, ?_⟩) (HRG.out _ BT.out) ?_
      · (intro W hSW; go_simp)
      simp only [List.set_cons_succ, List.set_cons_zero]
      refine wpUpto_takeL (i := 12) (v := .agg (ubs (emptyL j1)).toArray) rfl rfl (by decide +kernel) (by decide +kernel) (by decide +kernel) (by decide +kernel) (by decide) (fun _ _ _ h => h) (Or.inl ⟨by rfl, ?_⟩) (HRG.out _ BT.out) ?_
      · (intro W hSW; go_simp)
      simp only [List.set_cons_succ, List.set_cons_zero]
      refine wpUpto_takeL (i := 13) (v := .nilIface) rfl rfl (by decide +kernel) (by decide +kernel) (by decide +kernel) (by decide +kernel) (by decide) (fun _ _ _ h => h) (Or.inl ⟨by rfl, ?_⟩) (HRG.out _ BT.out) ?_
      · (intro W hSW; go_simp)
      simp only [List.set_cons_succ, List.set_cons_zero]
      refine wpUpto_takeL (i := 14) (v := .pointer (some ⟨w.heap.size + 1, o1, none⟩)) rfl rfl (by decide +kernel) (by decide +kernel) (by decide +kernel) (by decide +kernel) (by decide) (fun _ _ _ h => h) (Or.inl ⟨by rfl, ?_⟩) (HRG.out _ BT.out) ?_
      · (intro W hSW; go_simp)
      simp only [List.set_cons_succ, List.set_cons_zero]
      refine wpUpto_one (i := 15) rfl (by decide +kernel) rfl ?_
      intro Q0 hQ0
      refine wp_store_mid 25 (.tmp 32) (.tmp 30) rfl (w.heap.size + 1) o1 (ubs (emptyL j1)).toArray rfl rfl ?t2 (sizeH_of HEM.out) (ubs_all _) ?_
      case t2 => have := BT.out.there HI1.out; rw [← HO1.out] at this; simpa [ubs_length, HEM.out] using this
      have HE := hid (BT.out.store HI1.out)
      rw [← HO1.out] at HE
      rw [List.toList_toArray]
      generalize (v1.setCells (w.heap.size + 1) o1 (ubs (emptyL j1))) = W5 at HE ⊢
      refine hQ0.out _ _ (fun _ => by rw [HO.out]; exact HE.out.range j (by have := HJ1.out; omega)) ?_
      clear hQ0 Q0 BT
      refine wpUpto_done (by decide +kernel) ?_ _
      go_simp
      go_wp2
      go_roundw
      case rel => exact ⟨j1, by have := HJ1.out; omega, rfl, HE.out⟩
      case measure => have := HJ1.out; simp [intOf]; omega
    · obtain rfl : j = k := by omega
      have hd : decide ((j : Int) < (j : Int)) = false := by simp
      have HTL := hid (eTo_length (j + 1) (by have := hk'.out; omega))
      have HNL := hid z1056_length
      have HR := hid HA.out.r
      have HC := hid HA.out.c
      have HB := hid HA.out.below
      clear HA
      obtain ⟨t, ht⟩ : ∃ t, t = eTo (j + 1) := ⟨_, rfl⟩
      rw [← ht] at HTL HC
      have HTE := hid ht
      clear ht
      go_wp2_with (first
        | (refine wpList_load_row rfl _ (.tmp 3) rfl (w.heap.size + 1) rfl 112 (ubs t).toArray (0, 0) _ HC.out Tryd.underlying112 rfl (sizeAH_of HTL.out) ?_)
        | (refine wpList_store_row rfl _ (.tmp 2) (.tmp 34) rfl w.heap.size (ubs t).toArray rfl rfl 112 (ubs z1056).toArray HR.out (sizeAH_of HTL.out) ?e5 (ubs_all _) ?e6; rotate_right))
      case e5 => simp [ubs_length, HTL.out, HNL.out]
      refine bodyPost_ret (results_cell_row rfl _ _ w.heap.size 112 (ubs t).toArray (0, 0) _ rfl (setRow_heap _ _ _ _ _ _ HR.out) Tryd.underlying112 rfl (sizeAH_of HTL.out)) rfl ?_
      exact ⟨by rw [HTE.out], below_setRow HB.out (Nat.le_refl _) _⟩
set_option maxRecDepth 100000 in
set_option maxHeartbeats 1000000 in
theorem pempties_any (w : World) (hT : Tabs w) :
    Calls Tryd.prog 64 #[] w fun e w' => e = .returned (.agg (ubs (eRow 33)).toArray) ∧ Below w.heap.size w w' := by
  have H0 := hid (At.new w (ubs z1056).toArray 112)
  have HB0 := hid ((Below.refl w.heap.size w).alloc (Nat.le_refl _) (.cells (ubs z1056).toArray 112))
  have HE := hid (show Calls Tryd.prog 90 #[.int .i64 32] (w.alloc (.cells (ubs z1056).toArray 112)) (fun r w' => r = .returned (.agg (ubs (eRow 33)).toArray) ∧ Below (w.alloc (.cells (ubs z1056).toArray 112)).heap.size (w.alloc (.cells (ubs z1056).toArray 112)) w') from by
    have := pemptiesTo_any 32 (w.alloc (.cells (ubs z1056).toArray 112)) (by omega) (hT.below HB0.out)
    rwa [eTo_all] at this)
  have HTL := hid (show (eRow 33).length = 1056 by rw [eRow_length])
  have HNL := hid z1056_length
  have HAH := hid (fun (o : Oper) (a : Go.Act) (W : World) (h : o.op = .alloc 112) => run_alloc_of (o := o) (a := a) (W := W) _ h _ zeroAH)
  generalize eRow 33 = t at HE HTL ⊢
  clear hT
  go_enter Tryd.func64, Tryd.ntmps64
  go_wp2_with (first
    | (refine Great.wpList_allocTo rfl _ rfl _ _ (HAH.out _ _ _ rfl) ?_)
    | (go_at_call 90; refine HE.out.mono ?_; rintro e1 w1 ⟨rfl, hb1⟩; have H1 := hid (H0.out.new_ hb1); have B1 := hid (HB0.out.trans (hb1.mono HB0.out.size)); clear hb1)
    | (refine wpList_store_row rfl _ (.tmp 0) (.tmp 1) rfl w.heap.size (ubs t).toArray rfl rfl 112 (ubs z1056).toArray H1.out (sizeAH_of HTL.out) ?e5 (ubs_all _) ?e6; rotate_right))
  case e5 => simp [ubs_length, HTL.out, HNL.out]
  refine bodyPost_ret (results_cell_row rfl _ _ w.heap.size 112 (ubs t).toArray (0, 0) _ rfl (setRow_heap _ _ _ _ _ _ H1.out) Tryd.underlying112 rfl (sizeAH_of HTL.out)) rfl ?_
  exact ⟨rfl, below_setRow B1.out (Nat.le_refl _) _⟩
theorem empties_c (w : World) (hT : Tabs w) : EmptiesC w := fun W hb => pempties_any W (hT.below hb)
end Go.Proofs.YtdegmcfcbndelaaDoor
