/-
  Layer 12, the document's side: Cut.
-/
import Derived.Test.YtdegmcfcbndelaaDoorL6
import Derived.Test.YtdegmcfcbndelaaDoorK8
namespace Go.Proofs.YtdegmcfcbndelaaDoor
open Go.RowKit

/-- The error's number of a cutting step. -/
def ctN (root leaf path : List UInt8) (n was blocks : Nat) : Nat := if hgB blocks was then (if n = highN was then (if climbH leaf path (blocks - 1) n = root then 0 else 5) else 2) else 1
/-- The root behind it. -/
def ctE (root leaf path : List UInt8) (n was blocks : Nat) : List UInt8 := if ctN root leaf path n was blocks = 0 then climbH leaf (cutP path (blocks - 1) (highN blocks)) (blocks - 1) (highN blocks) else n32
theorem ctE_length {root leaf path : List UInt8} {n was blocks : Nat} (h : leaf.length = 32) : (ctE root leaf path n was blocks).length = 32 := by
  unfold ctE
  split
  · exact climbH_length h _
  · exact n32_length
theorem ctN_one {root leaf path : List UInt8} {n was blocks : Nat} (h : hgB blocks was = false) : ctN root leaf path n was blocks = 1 := by unfold ctN; rw [h, if_neg (by simp)]
theorem ctN_two {root leaf path : List UInt8} {n was blocks : Nat} (h : hgB blocks was = true) (hn : n ≠ highN was) : ctN root leaf path n was blocks = 2 := by unfold ctN; rw [h, if_pos rfl, if_neg hn]
theorem ctN_five {root leaf path : List UInt8} {n was blocks : Nat} (h : hgB blocks was = true) (hn : n = highN was) (hr : climbH leaf path (blocks - 1) n ≠ root) : ctN root leaf path n was blocks = 5 := by unfold ctN; rw [h, if_pos rfl, if_pos hn, if_neg hr]
theorem ctN_zero {root leaf path : List UInt8} {n was blocks : Nat} (h : hgB blocks was = true) (hn : n = highN was) (hr : climbH leaf path (blocks - 1) n = root) : ctN root leaf path n was blocks = 0 := by unfold ctN; rw [h, if_pos rfl, if_pos hn, if_pos hr]
theorem ctE_no {root leaf path : List UInt8} {n was blocks : Nat} (h : ctN root leaf path n was blocks ≠ 0) : ctE root leaf path n was blocks = n32 := by unfold ctE; rw [if_neg h]
theorem ctE_ok {root leaf path : List UInt8} {n was blocks : Nat} (h : ctN root leaf path n was blocks = 0) : ctE root leaf path n was blocks = climbH leaf (cutP path (blocks - 1) (highN blocks)) (blocks - 1) (highN blocks) := by unfold ctE; rw [if_pos h]
/-- A cut's memory. -/
structure QtW (W : World) (root leaf : List UInt8) (V : World) : Prop where
  b : Below W.heap.size W V
  a : At V W.heap.size (ubs root).toArray 25
  l : At V (W.heap.size + 1) (ubs leaf).toArray 25
  z : At V (W.heap.size + 2) (ubs n32).toArray 25
theorem QtW.new {W V V' : World} {root leaf : List UInt8} (k : QtW W root leaf V) (hb : Below V.heap.size V V') : QtW W root leaf V' := ⟨k.b.trans (hb.mono k.b.size), k.a.new_ hb, k.l.new_ hb, k.z.new_ hb⟩
theorem QtW.drew {W V : World} {root leaf : List UInt8} (k : QtW W root leaf V) : QtW W root leaf V.drew := k.new (Below.refl _ _).drew
theorem QtW.start {W : World} {root leaf : List UInt8} : QtW W root leaf (((W.alloc (.cells (ubs root).toArray 25)).alloc (.cells (ubs leaf).toArray 25)).alloc (.cells (ubs n32).toArray 25)) :=
  ⟨(((Below.refl _ _).alloc (Nat.le_refl _) _).alloc (by simp) _).alloc (by simp; omega) _, ((At.new _ _ _).alloc _).alloc _, (At.new_at (by simp)).alloc _, At.new_at (by simp)⟩
/-- .. with a path in the making. -/
structure QpW (U : World) (path : List UInt8) (i j : Nat) (A : Option Addr) (c : Nat) (V : World) : Prop where
  b : Below U.heap.size U V
  p : Ah V U.heap.size (.slice A j c) j (cutP path i j)
/-- What the region of the check yields. -/
def qt12 (A : Option Addr) (n c i1 i : Nat) (leaf x root : List UInt8) (r : Bool) : Nat → Value
  | 0 => .agg (ubs leaf).toArray
  | 1 => .int .u64 (i1 : Int)
  | 2 => .int .u64 (i : Int)
  | 3 => .slice A n c
  | 4 => .agg (ubs x).toArray
  | 5 => .agg (ubs root).toArray
  | _ => .bool r
set_option maxRecDepth 100000 in
set_option maxHeartbeats 4000000 in
theorem cutR_range (root leaf : List UInt8) (n c was blocks : Nat) (A : Option Addr) (W : World) (hg : hgB blocks was = false) :
    Calls Tryd.prog 48 #[.agg (ubs root).toArray, .agg (ubs leaf).toArray, .slice A n c, .int .u64 (was : Int), .int .u64 (blocks : Int)] W fun r W' => r = .returned (.tuple #[.agg (ubs (n32)).toArray, .int .i64 1]) ∧ Below W.heap.size W W' := by
  have HAH := hid (fun (o : Oper) (a : Go.Act) (W : World) (h : o.op = .alloc 25) => run_alloc_of (o := o) (a := a) (W := W) _ h _ zeroH8)
  have HNL := hid n32_length
  have HC := hid (QtW.start (W := W) (root := root) (leaf := leaf))
  have HH1 := hid (fun (V : World) => highR_any was V)
  have HH2 := hid (fun (V : World) => highR_any blocks V)
  by_cases g1 : highOk was = false
  · rw [g1, if_neg (by simp)] at HH1
    generalize (if highOk blocks then highN blocks else 0) = z2 at HH2
    generalize highOk blocks = b2 at HH2
    clear g1 hg
    go_enter Tryd.func48, Tryd.ntmps48
    go_wp2_with (first
      | (refine Great.wpList_allocTo rfl _ rfl _ _ (HAH.out _ _ _ rfl) ?_)
      | (generalize ((W.alloc (.cells (ubs root).toArray 25)).alloc (.cells (ubs leaf).toArray 25)).alloc (.cells (ubs n32).toArray 25) = W0 at HC ⊢; go_at_call 86; with_reducible (refine (HH1.out W0).mono ?_); rintro r1 w1 ⟨rfl, hw⟩; rw [hw]; clear hw)
      | (go_at_call 86; with_reducible (refine (HH2.out W0).mono ?_); rintro r1 w1 ⟨rfl, hw⟩; rw [hw]; clear hw)
      | (refine wpList_valW (by rfl) (run_build_hash0 rfl) ?_)
      | (refine wpList_store_row rfl _ (.tmp 10) (.tmp 41) rfl (W.heap.size + 2) (ubs n32).toArray rfl rfl 25 (ubs n32).toArray HC.out.z (sizeH_of HNL.out) (Eq.refl _) (ubs_all _) ?_))
    refine bodyPost_ret (results_row_tmp rfl _ _ (W.heap.size + 2) 25 (ubs n32).toArray (0, 0) _ rfl (setRow_heap _ _ (ubs n32).toArray _ _ _ HC.out.z) Tryd.underlying25 rfl (sizeH_of HNL.out)) rfl ?_
    exact ⟨rfl, below_setRow HC.out.b (by omega) _⟩
  have g1' : highOk was = true := by simpa using g1
  rw [g1', if_pos rfl] at HH1
  by_cases g2 : highOk blocks = false
  · rw [g2, if_neg (by simp)] at HH2
    generalize highN was = z1 at HH1
    clear g1 g1' g2 hg
    go_enter Tryd.func48, Tryd.ntmps48
    go_wp2_with (first
      | (refine Great.wpList_allocTo rfl _ rfl _ _ (HAH.out _ _ _ rfl) ?_)
      | (generalize ((W.alloc (.cells (ubs root).toArray 25)).alloc (.cells (ubs leaf).toArray 25)).alloc (.cells (ubs n32).toArray 25) = W0 at HC ⊢; go_at_call 86; with_reducible (refine (HH1.out W0).mono ?_); rintro r1 w1 ⟨rfl, hw⟩; rw [hw]; clear hw)
      | (go_at_call 86; with_reducible (refine (HH2.out W0).mono ?_); rintro r1 w1 ⟨rfl, hw⟩; rw [hw]; clear hw)
      | (refine wpList_valW (by rfl) (run_build_hash0 rfl) ?_)
      | (refine wpList_store_row rfl _ (.tmp 10) (.tmp 41) rfl (W.heap.size + 2) (ubs n32).toArray rfl rfl 25 (ubs n32).toArray HC.out.z (sizeH_of HNL.out) (Eq.refl _) (ubs_all _) ?_))
    refine bodyPost_ret (results_row_tmp rfl _ _ (W.heap.size + 2) 25 (ubs n32).toArray (0, 0) _ rfl (setRow_heap _ _ (ubs n32).toArray _ _ _ HC.out.z) Tryd.underlying25 rfl (sizeH_of HNL.out)) rfl ?_
    exact ⟨rfl, below_setRow HC.out.b (by omega) _⟩
  have g2' : highOk blocks = true := by simpa using g2
  rw [g2', if_pos rfl] at HH2
  have g3 : was < blocks := by
    rw [hgB_ok, g1', g2'] at hg
    simpa using hg
  have c3 : decide ((was : Int) < (blocks : Int)) = true := by simp; omega
  have c3n : decide (was < blocks) = true := by simp; omega
  generalize highN was = z1 at HH1
  generalize highN blocks = z2 at HH2
  clear g1 g1' g2 g2' g3 hg
  go_enter Tryd.func48, Tryd.ntmps48
  go_wp2_with (first
    | (refine Great.wpList_allocTo rfl _ rfl _ _ (HAH.out _ _ _ rfl) ?_)
    | (generalize ((W.alloc (.cells (ubs root).toArray 25)).alloc (.cells (ubs leaf).toArray 25)).alloc (.cells (ubs n32).toArray 25) = W0 at HC ⊢; go_at_call 86; with_reducible (refine (HH1.out W0).mono ?_); rintro r1 w1 ⟨rfl, hw⟩; rw [hw]; clear hw)
    | (go_at_call 86; with_reducible (refine (HH2.out W0).mono ?_); rintro r1 w1 ⟨rfl, hw⟩; rw [hw]; clear hw)
    | (refine wpList_valW (by rfl) (run_build_hash0 rfl) ?_)
    | (refine wpList_store_row rfl _ (.tmp 10) (.tmp 41) rfl (W.heap.size + 2) (ubs n32).toArray rfl rfl 25 (ubs n32).toArray HC.out.z (sizeH_of HNL.out) (Eq.refl _) (ubs_all _) ?_))
  refine bodyPost_ret (results_row_tmp rfl _ _ (W.heap.size + 2) 25 (ubs n32).toArray (0, 0) _ rfl (setRow_heap _ _ (ubs n32).toArray _ _ _ HC.out.z) Tryd.underlying25 rfl (sizeH_of HNL.out)) rfl ?_
  exact ⟨rfl, below_setRow HC.out.b (by omega) _⟩
set_option maxRecDepth 100000 in
set_option maxHeartbeats 4000000 in
theorem cutR_form (root leaf : List UInt8) (n c was blocks : Nat) (A : Option Addr) (W : World) (hg : hgB blocks was = true) (hn : n ≠ highN was) :
    Calls Tryd.prog 48 #[.agg (ubs root).toArray, .agg (ubs leaf).toArray, .slice A n c, .int .u64 (was : Int), .int .u64 (blocks : Int)] W fun r W' => r = .returned (.tuple #[.agg (ubs (n32)).toArray, .int .i64 2]) ∧ Below W.heap.size W W' := by
  have HAH := hid (fun (o : Oper) (a : Go.Act) (W : World) (h : o.op = .alloc 25) => run_alloc_of (o := o) (a := a) (W := W) _ h _ zeroH8)
  have HNL := hid n32_length
  have HC := hid (QtW.start (W := W) (root := root) (leaf := leaf))
  have HH1 := hid (fun (V : World) => highR_any was V)
  have HH2 := hid (fun (V : World) => highR_any blocks V)
  obtain ⟨q1, q2, q3⟩ := hgB_parts hg
  have hle := high_le q2 q3
  have hh := (highN_spec (b := was) q3).2.1
  rw [highOk_of (by omega) q3, if_pos rfl] at HH1
  rw [highOk_of q1 (by omega), if_pos rfl] at HH2
  have c3 : decide ((was : Int) < (blocks : Int)) = false := by simp; omega
  have c3n : decide (was < blocks) = false := by simp; omega
  obtain ⟨z1, hz1⟩ : ∃ z, z = highN was := ⟨_, rfl⟩
  rw [← hz1] at HH1 hn
  generalize highN blocks = z2 at HH2
  have d1 : ((n : Int) != (z1 : Int)) = true := by simp; omega
  have d2 : decide ((n : Int) = (z1 : Int)) = false := by simp; omega
  have d3 : decide (n = z1) = false := by simp; omega
  have d4 : ((n : Int) == (z1 : Int)) = false := by simp; omega
  clear hg hn q1 q2 q3 hle hh hz1
  go_enter Tryd.func48, Tryd.ntmps48
  go_wp2_with (first
    | (refine Great.wpList_allocTo rfl _ rfl _ _ (HAH.out _ _ _ rfl) ?_)
    | (generalize ((W.alloc (.cells (ubs root).toArray 25)).alloc (.cells (ubs leaf).toArray 25)).alloc (.cells (ubs n32).toArray 25) = W0 at HC ⊢; go_at_call 86; with_reducible (refine (HH1.out W0).mono ?_); rintro r1 w1 ⟨rfl, hw⟩; rw [hw]; clear hw)
    | (go_at_call 86; with_reducible (refine (HH2.out W0).mono ?_); rintro r1 w1 ⟨rfl, hw⟩; rw [hw]; clear hw)
    | (refine wpList_valW (by rfl) (run_build_hash0 rfl) ?_)
    | (refine wpList_store_row rfl _ (.tmp 10) (.tmp 46) rfl (W.heap.size + 2) (ubs n32).toArray rfl rfl 25 (ubs n32).toArray HC.out.z (sizeH_of HNL.out) (Eq.refl _) (ubs_all _) ?_))
  refine bodyPost_ret (results_row_tmp rfl _ _ (W.heap.size + 2) 25 (ubs n32).toArray (0, 0) _ rfl (setRow_heap _ _ (ubs n32).toArray _ _ _ HC.out.z) Tryd.underlying25 rfl (sizeH_of HNL.out)) rfl ?_
  exact ⟨rfl, below_setRow HC.out.b (by omega) _⟩
set_option maxRecDepth 100000 in
set_option maxHeartbeats 4000000 in
theorem cutR_proof (root leaf path : List UInt8) (n c was blocks : Nat) (A : Option Addr) (W : World) (hl : root.length = 32) (hf : leaf.length = 32) (h2 : blocks < 18446744073709551616) (hp : path.length = 32 * n) (hr : Rd W W.heap.size A (ubs path)) (hT : Tabr W) (hI : Tab W 1 IV.l) (hg : hgB blocks was = true) (hn : n = highN was) (hx : climbH leaf path (blocks - 1) n ≠ root) :
    Calls Tryd.prog 48 #[.agg (ubs root).toArray, .agg (ubs leaf).toArray, .slice A n c, .int .u64 (was : Int), .int .u64 (blocks : Int)] W fun r W' => r = .returned (.tuple #[.agg (ubs (n32)).toArray, .int .i64 5]) ∧ Below W.heap.size W W' := by
  have HAH := hid (fun (o : Oper) (a : Go.Act) (W : World) (h : o.op = .alloc 25) => run_alloc_of (o := o) (a := a) (W := W) _ h _ zeroH8)
  have HNL := hid n32_length
  have HC := hid (QtW.start (W := W) (root := root) (leaf := leaf))
  have HH1 := hid (fun (V : World) => highR_any was V)
  have HH2 := hid (fun (V : World) => highR_any blocks V)
  obtain ⟨q1, q2, q3⟩ := hgB_parts hg
  have hle := high_le q2 q3
  have hh := (highN_spec (b := was) q3).2.1
  rw [highOk_of (by omega) q3, if_pos rfl] at HH1
  rw [highOk_of q1 (by omega), if_pos rfl] at HH2
  have c3 : decide ((was : Int) < (blocks : Int)) = false := by simp; omega
  have c3n : decide (was < blocks) = false := by simp; omega
  obtain ⟨i, hi⟩ : ∃ i, i = blocks - 1 := ⟨_, rfl⟩
  have e1 : (blocks : Int) - 1 = (i : Int) := by omega
  have ew1 : IntKind.u64.wrap (i : Int) = (i : Int) := by simp [IntKind.wrap, IntKind.signed, IntKind.bits]; omega
  have HRL := hid hl
  have HFL := hid hf
  have HCL := hid (fun (V : World) (b : Below W.heap.size W V) => climbR12_any leaf path i n c A V hf (by rw [hn]; exact hh) (by omega) hp ((hr.below b).mono b.size) (hT.below b) (Tab.below (x := IV.a) (xs := [IV.b, IV.c, IV.d, IV.e, IV.f, IV.g, IV.h]) hI b))
  have HXL := hid (climbH_length (path := path) (i := i) hf n)
  rw [← hi] at hx
  obtain ⟨x, hxe⟩ : ∃ x, x = climbH leaf path i n := ⟨_, rfl⟩
  rw [← hxe] at HCL HXL hx
  have HEQ := hid (show (x == root) = !true by simpa using hx)
  obtain ⟨z1, hz1⟩ : ∃ z, z = highN was := ⟨_, rfl⟩
  rw [← hz1] at HH1 hn hle
  have d1 : ((n : Int) != (z1 : Int)) = false := by simp; omega
  have d2 : decide ((n : Int) = (z1 : Int)) = true := by simp; omega
  have d3 : decide (n = z1) = true := by simp; omega
  have d4 : ((n : Int) == (z1 : Int)) = true := by simp; omega
  generalize highN blocks = z2 at HH2
  clear hg hn q1 q2 q3 hle hh hz1 hx hi h2 hl hf hp hr hT hI hxe
  go_enter Tryd.func48, Tryd.ntmps48
  go_wp2_with (first
    | (refine Great.wpList_allocTo rfl _ rfl _ _ (HAH.out _ _ _ rfl) ?_)
    | (generalize ((W.alloc (.cells (ubs root).toArray 25)).alloc (.cells (ubs leaf).toArray 25)).alloc (.cells (ubs n32).toArray 25) = W0 at HC ⊢; go_at_call 86; with_reducible (refine (HH1.out W0).mono ?_); rintro r1 w1 ⟨rfl, hw⟩; rw [hw]; clear hw)
    | (go_at_call 86; with_reducible (refine (HH2.out W0).mono ?_); rintro r1 w1 ⟨rfl, hw⟩; rw [hw]; clear hw))
  try simp only [Act.put, List.setIfInBounds_toArray, List.set_cons_succ, List.set_cons_zero]
  refine wp_region_facts 7 7 [47, 48, 49, 50, 51, 52, 53] (fun k v _ => v = qt12 A n c blocks i leaf x root true k) (QtW W root leaf) (by kernel_rfl) (by kernel_rfl)
    (fun W W' h hb => h.new hb) (fun _ _ _ _ h _ => h) (HC.out.drew) ?_ ?_
  · intro k hi' vals W1 K hB hn hK
    simp only [frm_cons, frm_nil, List.set_cons_succ, List.set_cons_zero, Nat.reduceAdd] at hK ⊢
    rcases (by omega : k = 0 ∨ k = 1 ∨ k = 2 ∨ k = 3 ∨ k = 4 ∨ k = 5 ∨ k = 6) with rfl | rfl | rfl | rfl | rfl | rfl | rfl
    · refine wpOp_plain rfl rfl (wp_val (run_loadH (.tmp 6) rfl (W.heap.size + 1) 0 rfl leaf (range_whole hB.l) HFL.out) ?_)
      exact hK _ _ rfl (Below.refl _ _)
    · refine wpOp_plain rfl rfl (wp_val (w' := W1) (v := .int .u64 (blocks : Int)) (by go_simp) ?_)
      exact hK _ _ rfl (Below.refl _ _)
    · have h1 := hn 1 (by decide +kernel)
      simp only [qt12] at h1
      simp only [h1] at hK ⊢
      refine wpOp_plain rfl rfl (wp_val (w' := W1) (v := .int .u64 (i : Int)) (by go_simp) ?_)
      exact hK _ _ rfl (Below.refl _ _)
    · refine wpOp_plain rfl rfl (wp_val (w' := W1) (v := .slice A n c) (by go_simp) ?_)
      exact hK _ _ rfl (Below.refl _ _)
    · have h0 := hn 0 (by decide +kernel)
      have h2 := hn 2 (by decide +kernel)
      have h3 := hn 3 (by decide +kernel)
      simp only [qt12] at h0 h2 h3
      simp only [h0, h2, h3] at hK ⊢
      refine wpOp_plain rfl rfl ?_
      go_simp
      go_at_call 46
      refine (HCL.out W1 hB.b).mono ?_
      rintro e W' ⟨rfl, hb⟩
      exact hK _ _ rfl hb
    · refine wpOp_plain rfl rfl (wp_val (run_loadH (.tmp 5) rfl W.heap.size 0 rfl root (range_whole hB.a) HRL.out) ?_)
      exact hK _ _ rfl (Below.refl _ _)
    · have h4 := hn 4 (by decide +kernel)
      have h5 := hn 5 (by decide +kernel)
      simp only [qt12] at h4 h5
      simp only [h4, h5] at hK ⊢
      refine wpOp_plain rfl rfl (wp_val (run_neqH _ (.tmp 51) (.tmp 52) rfl x root HXL.out HRL.out rfl rfl true HEQ.out W1) ?_)
      exact hK _ _ rfl (Below.refl _ _)
  · intro vals W1 hB hF
    have h6 := hF 6 (by omega)
    simp only [qt12] at h6
    simp only [frm_cons, frm_nil, List.set_cons_succ, List.set_cons_zero, Nat.reduceAdd, h6]
    refine wpUpto_done (by decide +kernel) ?_ _
    have HC9 := hid hB
    clear hB hF h6
    
    go_simp
    go_wp2_with (first
      | (refine wpList_valW (by rfl) (run_build_hash0 rfl) ?_)
      | (refine wpList_store_row rfl _ (.tmp 10) (.tmp 54) rfl (W.heap.size + 2) (ubs n32).toArray rfl rfl 25 (ubs n32).toArray HC9.out.z (sizeH_of HNL.out) (Eq.refl _) (ubs_all _) ?_))
    refine bodyPost_ret (results_row_tmp rfl _ _ (W.heap.size + 2) 25 (ubs n32).toArray (0, 0) _ rfl (setRow_heap _ _ (ubs n32).toArray _ _ _ HC9.out.z) Tryd.underlying25 rfl (sizeH_of HNL.out)) rfl ?_
    exact ⟨rfl, below_setRow HC9.out.b (by omega) _⟩
set_option maxRecDepth 100000 in
set_option maxHeartbeats 4000000 in
theorem cutR_ok (root leaf path : List UInt8) (n c was blocks : Nat) (A : Option Addr) (W : World) (hl : root.length = 32) (hf : leaf.length = 32) (h2 : blocks < 18446744073709551616) (hp : path.length = 32 * n) (hr : Rd W W.heap.size A (ubs path)) (hT : Tabr W) (hI : Tab W 1 IV.l) (hg : hgB blocks was = true) (hn : n = highN was) (hx : climbH leaf path (blocks - 1) n = root) :
    Calls Tryd.prog 48 #[.agg (ubs root).toArray, .agg (ubs leaf).toArray, .slice A n c, .int .u64 (was : Int), .int .u64 (blocks : Int)] W fun r W' => r = .returned (.tuple #[.agg (ubs (climbH leaf (cutP path (blocks - 1) (highN blocks)) (blocks - 1) (highN blocks))).toArray, .int .i64 0]) ∧ Below W.heap.size W W' := by
  have HAH := hid (fun (o : Oper) (a : Go.Act) (W : World) (h : o.op = .alloc 25) => run_alloc_of (o := o) (a := a) (W := W) _ h _ zeroH8)
  have HNL := hid n32_length
  have HC := hid (QtW.start (W := W) (root := root) (leaf := leaf))
  have HH1 := hid (fun (V : World) => highR_any was V)
  have HH2 := hid (fun (V : World) => highR_any blocks V)
  obtain ⟨q1, q2, q3⟩ := hgB_parts hg
  have hle := high_le q2 q3
  have hh := (highN_spec (b := was) q3).2.1
  rw [highOk_of (by omega) q3, if_pos rfl] at HH1
  rw [highOk_of q1 (by omega), if_pos rfl] at HH2
  have c3 : decide ((was : Int) < (blocks : Int)) = false := by simp; omega
  have c3n : decide (was < blocks) = false := by simp; omega
  obtain ⟨i, hi⟩ : ∃ i, i = blocks - 1 := ⟨_, rfl⟩
  have e1 : (blocks : Int) - 1 = (i : Int) := by omega
  have ew1 : IntKind.u64.wrap (i : Int) = (i : Int) := by simp [IntKind.wrap, IntKind.signed, IntKind.bits]; omega
  have HRL := hid hl
  have HFL := hid hf
  have HCL := hid (fun (V : World) (b : Below W.heap.size W V) => climbR12_any leaf path i n c A V hf (by rw [hn]; exact hh) (by omega) hp ((hr.below b).mono b.size) (hT.below b) (Tab.below (x := IV.a) (xs := [IV.b, IV.c, IV.d, IV.e, IV.f, IV.g, IV.h]) hI b))
  have HXL := hid (climbH_length (path := path) (i := i) hf n)
  rw [← hi] at hx
  obtain ⟨x, hxe⟩ : ∃ x, x = climbH leaf path i n := ⟨_, rfl⟩
  rw [← hxe] at HCL HXL hx
  rw [← hi]
  have HEQ := hid (show (x == root) = !false by simpa using hx)
  obtain ⟨z1, hz1⟩ : ∃ z, z = highN was := ⟨_, rfl⟩
  rw [← hz1] at HH1 hn hle
  have d1 : ((n : Int) != (z1 : Int)) = false := by simp; omega
  have d2 : decide ((n : Int) = (z1 : Int)) = true := by simp; omega
  have d3 : decide (n = z1) = true := by simp; omega
  have d4 : ((n : Int) == (z1 : Int)) = true := by simp; omega
  obtain ⟨z2, hz2⟩ : ∃ z, z = highN blocks := ⟨_, rfl⟩
  rw [← hz2] at HH2 hle ⊢
  obtain ⟨y, hy⟩ : ∃ y, y = climbH leaf (cutP path i z2) i z2 := ⟨_, rfl⟩
  rw [← hy]
  have HYL := hid (show y.length = 32 by rw [hy]; exact climbH_length hf z2)
  have HZ := hid (show z2 ≤ n ∧ z2 ≤ 32 by omega)
  have HI := hid (show i < 18446744073709551616 by omega)
  have HP := hid hp
  have HR := hid hr
  have HCP := hid (fun (V : World) (A3 : Option Addr) (c3 : Nat) (b : Below W.heap.size W V) (r : Rd V V.heap.size A3 (ubs (cutP path i z2))) => show Calls Tryd.prog 46 #[.agg (ubs leaf).toArray, .int .u64 (i : Int), .slice A3 z2 c3] V (fun r V' => r = .returned (.agg (ubs y).toArray) ∧ Below V.heap.size V V') from by
    rw [hy]
    exact climbR12_any leaf (cutP path i z2) i z2 c3 A3 V hf (by omega) (by omega) (cutP_length hp i z2 (by omega)) r (hT.below b) (Tab.below (x := IV.a) (xs := [IV.b, IV.c, IV.d, IV.e, IV.f, IV.g, IV.h]) hI b))
  have HEM := hid (fun (V : World) (b : Below W.heap.size W V) => emptiesR_any V (hT.below b) (Tab.below (x := IV.a) (xs := [IV.b, IV.c, IV.d, IV.e, IV.f, IV.g, IV.h]) hI b))
  clear hg hn q1 q2 q3 hle hh hz1 hz2 hx hi h2 hl hf hp hr hT hI hxe hy
  go_enter Tryd.func48, Tryd.ntmps48
  go_wp2_with (first
    | (refine Great.wpList_allocTo rfl _ rfl _ _ (HAH.out _ _ _ rfl) ?_)
    | (generalize ((W.alloc (.cells (ubs root).toArray 25)).alloc (.cells (ubs leaf).toArray 25)).alloc (.cells (ubs n32).toArray 25) = W0 at HC ⊢; go_at_call 86; with_reducible (refine (HH1.out W0).mono ?_); rintro r1 w1 ⟨rfl, hw⟩; rw [hw]; clear hw)
    | (go_at_call 86; with_reducible (refine (HH2.out W0).mono ?_); rintro r1 w1 ⟨rfl, hw⟩; rw [hw]; clear hw))
  try simp only [Act.put, List.setIfInBounds_toArray, List.set_cons_succ, List.set_cons_zero]
  refine wp_region_facts 7 7 [47, 48, 49, 50, 51, 52, 53] (fun k v _ => v = qt12 A n c blocks i leaf x root false k) (QtW W root leaf) (by kernel_rfl) (by kernel_rfl)
    (fun W W' h hb => h.new hb) (fun _ _ _ _ h _ => h) (HC.out.drew) ?_ ?_
  · intro k hi' vals W1 K hB hn hK
    simp only [frm_cons, frm_nil, List.set_cons_succ, List.set_cons_zero, Nat.reduceAdd] at hK ⊢
    rcases (by omega : k = 0 ∨ k = 1 ∨ k = 2 ∨ k = 3 ∨ k = 4 ∨ k = 5 ∨ k = 6) with rfl | rfl | rfl | rfl | rfl | rfl | rfl
    · refine wpOp_plain rfl rfl (wp_val (run_loadH (.tmp 6) rfl (W.heap.size + 1) 0 rfl leaf (range_whole hB.l) HFL.out) ?_)
      exact hK _ _ rfl (Below.refl _ _)
    · refine wpOp_plain rfl rfl (wp_val (w' := W1) (v := .int .u64 (blocks : Int)) (by go_simp) ?_)
      exact hK _ _ rfl (Below.refl _ _)
    · have h1 := hn 1 (by decide +kernel)
      simp only [qt12] at h1
      simp only [h1] at hK ⊢
      refine wpOp_plain rfl rfl (wp_val (w' := W1) (v := .int .u64 (i : Int)) (by go_simp) ?_)
      exact hK _ _ rfl (Below.refl _ _)
    · refine wpOp_plain rfl rfl (wp_val (w' := W1) (v := .slice A n c) (by go_simp) ?_)
      exact hK _ _ rfl (Below.refl _ _)
    · have h0 := hn 0 (by decide +kernel)
      have h2 := hn 2 (by decide +kernel)
      have h3 := hn 3 (by decide +kernel)
      simp only [qt12] at h0 h2 h3
      simp only [h0, h2, h3] at hK ⊢
      refine wpOp_plain rfl rfl ?_
      go_simp
      go_at_call 46
      refine (HCL.out W1 hB.b).mono ?_
      rintro e W' ⟨rfl, hb⟩
      exact hK _ _ rfl hb
    · refine wpOp_plain rfl rfl (wp_val (run_loadH (.tmp 5) rfl W.heap.size 0 rfl root (range_whole hB.a) HRL.out) ?_)
      exact hK _ _ rfl (Below.refl _ _)
    · have h4 := hn 4 (by decide +kernel)
      have h5 := hn 5 (by decide +kernel)
      simp only [qt12] at h4 h5
      simp only [h4, h5] at hK ⊢
      refine wpOp_plain rfl rfl (wp_val (run_neqH _ (.tmp 51) (.tmp 52) rfl x root HXL.out HRL.out rfl rfl false HEQ.out W1) ?_)
      exact hK _ _ rfl (Below.refl _ _)
  · intro vals W1 hB hF
    have h6 := hF 6 (by omega)
    simp only [qt12] at h6
    simp only [frm_cons, frm_nil, List.set_cons_succ, List.set_cons_zero, Nat.reduceAdd, h6]
    refine wpUpto_done (by decide +kernel) ?_ _
    have HC9 := hid hB
    clear hB hF h6
    
    go_simp
    go_wp2_with (first
      | (go_at_call 87; refine (HEM.out W1 HC9.out.b).mono ?_; rintro r2 w2 ⟨g, ce, rfl, he2, hb2⟩))
    have HU := hid (show QtW W root leaf w2 ∧ w2.rangeAt g 0 (ubs (eRow 33)) ∧ g < w2.heap.size from ⟨HC9.out.new hb2, ev_range he2, ev_hi he2⟩)
    clear he2 hb2 HC9
    generalize w2 = U at HU ⊢
    go_loopw [17, 18, 19] (fun v17 v18 v19 wr => ∃ (j : Nat) (A3 : Option Addr) (c3 : Nat), j ≤ z2 ∧ v17 = .slice A3 j c3 ∧ v18 = .int .u64 ((i >>> j : Nat) : Int) ∧ v19 = .int .i64 (j : Int) ∧ QpW U path i j A3 c3 wr) (fun _ _ v19 _ => z2 - (intOf v19).toNat)
    case atStart => exact ⟨0, none, 0, by omega, rfl, by rw [Nat.shiftRight_zero], rfl, ⟨Below.refl _ _, Ah.nil _ _⟩⟩
    case round =>
      obtain ⟨j, A3, c3, hj, rfl, rfl, rfl, hX⟩ := hrel
      by_cases hlt : j < z2
      · have d1 : decide ((j : Int) < (z2 : Int)) = true := by simp; omega
        have d1n : decide (j < z2) = true := by simp; omega
        have ik : (j : Int) < 33 := by have := HZ.out; omega
        have ikn : (j : Int) < (n : Int) := by have := HZ.out; omega
        obtain ⟨u, hu⟩ : ∃ u, u = i >>> j := ⟨_, rfl⟩
        obtain ⟨u2, hu2⟩ : ∃ v, v = u / 2 := ⟨_, rfl⟩
        have hu3 : i >>> (j + 1) = u2 := by rw [Nat.shiftRight_succ, ← hu, hu2]
        have hle : u < 18446744073709551616 := by rw [hu]; exact Nat.lt_of_le_of_lt (Nat.shiftRight_le _ _) HI.out
        have e2 : (u : Int).tdiv 2 = (u2 : Int) := by rw [hu2]; exact (Int.ofNat_tdiv u 2).symm
        have wu : IntKind.u64.wrap (u2 : Int) = (u2 : Int) := by simp [IntKind.wrap, IntKind.signed, IntKind.bits]; omega
        obtain ⟨j1, hj1⟩ : ∃ m, m = j + 1 := ⟨_, rfl⟩
        have e3 : (j : Int) + 1 = (j1 : Int) := by omega
        have ew : IntKind.i64.wrap (j1 : Int) = (j1 : Int) := by rw [IntKind.wrap_i64] <;> have := HZ.out <;> omega
        have HM := hid (show j1 ≤ z2 ∧ z2 - j1 < z2 - j ∧ j + 1 = j1 by omega)
        have HS9 := hid (show i >>> j1 = u2 by rw [hj1]; exact hu3)
        have hcn := cutP_next path i j
        rw [← hj1, ← hu] at hcn
        have HX := hid hX
        have HJZ := hid (show j ≤ 33 ∧ j < n by have := HZ.out; omega)
        rcases Nat.mod_two_eq_zero_or_one u with hpar | hpar
        · have hm2 : (u : Int).tmod 2 = 0 := by rw [Int.tmod_eq_emod_of_nonneg (by omega)]; omega
          rw [if_pos hpar] at hcn
          obtain ⟨q, hq⟩ : ∃ q, q = 32 * j := ⟨_, rfl⟩
          have eq : (j : Int) * 32 = (q : Int) := by omega
          have eqn : j * 32 = q := by omega
          obtain ⟨s, hs⟩ : ∃ s, s = emptyL j := ⟨_, rfl⟩
          have HRS := hid (show wr.rangeAt g q (ubs s) from by rw [hs, hq]; exact range_empty (range_new HX.out.b HU.out.2.2 HU.out.2.1) (by omega))
          have HSL := hid (show s.length = 32 by rw [hs]; exact emptyL_length j)
          rw [← hs] at hcn
          have HCN := hid hcn
          rw [← hu]
          clear hs hcn hX hu hu2 hu3 hle hq hj1 hlt hj hpar
          go_wp2_with (first
            | (refine wpList_valW (by rfl) (run_loadH (.tmp 69) rfl g q rfl s HRS.out HSL.out) ?_)
            | (refine wpList_valW (by rfl) (run_buildH (.tmp 70) rfl s HSL.out rfl) ?_)
            | (refine wpList_append_hh (by rfl) (.tmp 66) (.tmp 71) rfl U.heap.size (.slice A3 j c3) j (cutP path i j) rfl (HX.out.p.kept ((Below.refl _ _).alloc (Nat.le_refl _) _)) wr.heap.size s rfl (At.new _ _ _) HSL.out (by have := HJZ.out; omega) (by have := HX.out.b.size; simp; omega) ?_; intro A4 c4 w4 h1 h2; have HX4 := hid (show QpW U path i j1 A4 c4 w4 from ⟨(HX.out.b.alloc HX.out.b.size _).grown h2 (HX.out.b.alloc HX.out.b.size _).size (fun k hk => (HX.out.p.lt k hk).1), by rw [HCN.out, ← HM.out.2.2]; exact h1⟩); clear h1 h2; rw [HM.out.2.2]))
          exact ⟨⟨j1, A4, c4, HM.out.1, rfl, by rw [HS9.out], rfl, HX4.out⟩, by
            show z2 - ((j1 : Int)).toNat < z2 - ((j : Int)).toNat
            rw [Int.toNat_natCast, Int.toNat_natCast]
            exact HM.out.2.1⟩
        · have hm2 : (u : Int).tmod 2 = 1 := by rw [Int.tmod_eq_emod_of_nonneg (by omega)]; omega
          rw [if_neg (by omega)] at hcn
          obtain ⟨gp, op, eA, hgb, hra⟩ := hpart_range HR.out HP.out HJZ.out.2
          obtain ⟨q, hq⟩ : ∃ q, q = op + 32 * j := ⟨_, rfl⟩
          rw [← hq] at hra
          have eq : op + j * 32 = q := by omega
          obtain ⟨s, hs⟩ : ∃ s, s = hpart path j := ⟨_, rfl⟩
          have HSL := hid (show s.length = 32 by rw [hs]; exact hpart_length (bs := path) HP.out HJZ.out.2)
          rw [← hs] at hra hcn
          have HRS := hid (show wr.rangeAt gp q (ubs s) from range_new (HU.out.1.b.trans (HX.out.b.mono HU.out.1.b.size)) hgb hra)
          have HCN := hid hcn
          rw [← hu]
          subst eA
          clear hs hcn hX hu hu2 hu3 hle hq hj1 hlt hj hpar hra hgb HCP HR
          go_wp2_with (first
            | (refine wpList_valW (by rfl) (run_loadH (.tmp 76) rfl gp q rfl s HRS.out HSL.out) ?_)
            | (refine wpList_valW (by rfl) (run_buildH (.tmp 77) rfl s HSL.out rfl) ?_)
            | (refine wpList_append_hh (by rfl) (.tmp 73) (.tmp 78) rfl U.heap.size (.slice A3 j c3) j (cutP path i j) rfl (HX.out.p.kept ((Below.refl _ _).alloc (Nat.le_refl _) _)) wr.heap.size s rfl (At.new _ _ _) HSL.out (by have := HJZ.out; omega) (by have := HX.out.b.size; simp; omega) ?_; intro A4 c4 w4 h1 h2; have HX4 := hid (show QpW U path i j1 A4 c4 w4 from ⟨(HX.out.b.alloc HX.out.b.size _).grown h2 (HX.out.b.alloc HX.out.b.size _).size (fun k hk => (HX.out.p.lt k hk).1), by rw [HCN.out, ← HM.out.2.2]; exact h1⟩); clear h1 h2; rw [HM.out.2.2]))
          exact ⟨⟨j1, A4, c4, HM.out.1, rfl, by rw [HS9.out], rfl, HX4.out⟩, by
            show z2 - ((j1 : Int)).toNat < z2 - ((j : Int)).toNat
            rw [Int.toNat_natCast, Int.toNat_natCast]
            exact HM.out.2.1⟩
      · obtain rfl : j = z2 := by omega
        have d1 : decide ((j : Int) < (j : Int)) = false := by simp
        have HX := hid hX
        obtain ⟨u, hu⟩ : ∃ u, u = i >>> j := ⟨_, rfl⟩
        rw [← hu]
        have HQ := hid (HU.out.1.new (show Below U.heap.size U wr from HX.out.b))
        have HCQ := hid (HCP.out wr A3 c3 HQ.out.b HX.out.p.rd)
        clear hlt hj hX hu HCP
        go_wp2_with (first
          | (refine wpList_valW (by rfl) (run_loadH (.tmp 6) rfl (W.heap.size + 1) 0 rfl leaf (range_whole HQ.out.l) HFL.out) ?_)
          | (go_at_call 46; refine HCQ.out.mono ?_; rintro r9 w9 ⟨rfl, hb9⟩; have A9 := hid (HQ.out.new hb9); have HQ9 := hid A9.out.b; clear hb9)
          | (refine wpList_store_row rfl _ (.tmp 10) (.tmp 86) rfl (W.heap.size + 2) (ubs y).toArray rfl rfl 25 (ubs n32).toArray A9.out.z (sizeH_of HYL.out) ?e5 (ubs_all _) ?e6; rotate_right))
        case e5 => simp [ubs_length, n32_length, HYL.out]
        refine bodyPost_ret (results_row_tmp rfl _ _ (W.heap.size + 2) 25 (ubs y).toArray (0, 0) _ rfl (setRow_heap _ _ (ubs n32).toArray _ _ _ A9.out.z) Tryd.underlying25 rfl (sizeH_of HYL.out)) rfl ?_
        exact ⟨rfl, below_setRow HQ9.out (by omega) _⟩
theorem cutR_any (root leaf path : List UInt8) (n c was blocks : Nat) (A : Option Addr) (W : World) (hl : root.length = 32) (hf : leaf.length = 32) (h2 : blocks < 18446744073709551616) (hp : path.length = 32 * n) (hr : Rd W W.heap.size A (ubs path)) (hT : Tabr W) (hI : Tab W 1 IV.l) :
    Calls Tryd.prog 48 #[.agg (ubs root).toArray, .agg (ubs leaf).toArray, .slice A n c, .int .u64 (was : Int), .int .u64 (blocks : Int)] W fun r W' => r = .returned (.tuple #[.agg (ubs (ctE root leaf path n was blocks)).toArray, .int .i64 (ctN root leaf path n was blocks : Int)]) ∧ Below W.heap.size W W' := by
  cases hg : hgB blocks was with
  | false =>
    rw [ctE_no (by rw [ctN_one hg]; omega), ctN_one hg]
    exact cutR_range root leaf n c was blocks A W hg
  | true =>
    by_cases hn : n = highN was
    · by_cases hx : climbH leaf path (blocks - 1) n = root
      · rw [ctE_ok (ctN_zero hg hn hx), ctN_zero hg hn hx]
        exact cutR_ok root leaf path n c was blocks A W hl hf h2 hp hr hT hI hg hn hx
      · rw [ctE_no (by rw [ctN_five hg hn hx]; omega), ctN_five hg hn hx]
        exact cutR_proof root leaf path n c was blocks A W hl hf h2 hp hr hT hI hg hn hx
    · rw [ctE_no (by rw [ctN_two hg hn]; omega), ctN_two hg hn]
      exact cutR_form root leaf n c was blocks A W hg hn
end Go.Proofs.YtdegmcfcbndelaaDoor
