/-
  Layer 12, the program's side: onRight, climb.
  Layer 12, the program's side: heights, Climb, Grow.
-/
import Derived.Test.YtdegmcfcbndelaaDoorL4
import Derived.Test.YtdegmcfcbndelaaDoorJ6
import Derived.Test.YtdegmcfcbndelaaDoorY1
import Derived.Test.YtdegmcfcbndelaaDoorL3
namespace Go.Proofs.YtdegmcfcbndelaaDoor
open Go.RowKit

/-- What a node yields with the siblings from its level on up. -/
def climbK (lev pl : Nat) (h sib : List UInt8) : Nat → List UInt8
  | 0 => h
  | k + 1 => if (pl >>> k) % 2 = 0 then hashL (joinT (lev + k + 1) (climbK lev pl h sib k) (hpart sib k)) else hashL (joinT (lev + k + 1) (hpart sib k) (climbK lev pl h sib k))
theorem climbK_even {lev pl k : Nat} {h sib : List UInt8} (g : (pl >>> k) % 2 = 0) : climbK lev pl h sib (k + 1) = hashL (joinT (lev + k + 1) (climbK lev pl h sib k) (hpart sib k)) := by
  show (if _ then _ else _) = _
  rw [if_pos g]
theorem climbK_odd {lev pl k : Nat} {h sib : List UInt8} (g : ¬ (pl >>> k) % 2 = 0) : climbK lev pl h sib (k + 1) = hashL (joinT (lev + k + 1) (hpart sib k) (climbK lev pl h sib k)) := by
  show (if _ then _ else _) = _
  rw [if_neg g]
theorem climbK_length {lev pl : Nat} {h sib : List UInt8} (e : h.length = 32) : ∀ k, (climbK lev pl h sib k).length = 32
  | 0 => e
  | k + 1 => by
    by_cases g : (pl >>> k) % 2 = 0
    · rw [climbK_even g]; exact hashL_length _
    · rw [climbK_odd g]; exact hashL_length _
/-- Of the first one, with empty hashes. -/
theorem climbK_grow (root sib : List UInt8) (low : Nat) : ∀ k, (∀ j, j < k → hpart sib j = emptyL (low + j)) → climbK low 0 root sib k = growH root low k
  | 0, _ => rfl
  | k + 1, e => by
    rw [climbK_even (by simp), growH_next, climbK_grow root sib low k (fun j hj => e j (by omega)), e k (by omega)]
set_option maxRecDepth 100000 in
theorem ponRight_any (p : Nat) (hp : p < 18446744073709551616) (w : World) : Calls Tryd.prog 106 #[.int .u64 (p : Int)] w fun r w' => r = .returned (.bool (decide (p % 2 = 0))) ∧ w' = w := by
  have hm : (p : Int).tmod 2 = ((p % 2 : Nat) : Int) := by rw [Int.tmod_eq_emod_of_nonneg (by omega)]; omega
  obtain ⟨m, hm2⟩ : ∃ m, m = p % 2 := ⟨_, rfl⟩
  have hm3 : m < 2 := by omega
  rw [← hm2] at hm ⊢
  have wu : IntKind.u64.wrap (m : Int) = (m : Int) := by simp [IntKind.wrap, IntKind.signed, IntKind.bits]; omega
  have HE := hid (show ((m : Int) == 0) = decide (m = 0) by by_cases e : m = 0 <;> simp [e])
  clear hm2 hp
  go_enter Tryd.func106, Tryd.ntmps106
  go_wp2
  go_ret
  exact ⟨congrArg (fun b => Ending.returned (Value.bool b)) HE.out, rfl⟩
/-- A region that lays two pointers (slots p, q) beside two values (slots s, t): what follows it is walked once, in whatever order it went. -/
theorem wp_region_pair {P : Program} {id : Nat} {ops : Array Oper} {Q : Exit → Go.Act → World → Prop} {l : List Value} {d : List Deferred} {w : World} (s t p q : Nat) (u v : Value) (R : Nat → Nat → World → Prop)
    (h1 : (Code.region id ops true).wp P (fun e a W => ∃ gl gr, e = .normal ∧ a = { tmps := ((((l.set s u).set t v).set p (.pointer (some ⟨gl, 0, none⟩))).set q (.pointer (some ⟨gr, 0, none⟩))).toArray, defers := d } ∧ R gl gr W) { tmps := l.toArray, defers := d } w)
    (h2 : ∀ gl gr W, R gl gr W → Q .normal { tmps := ((((l.set s u).set t v).set p (.pointer (some ⟨gl, 0, none⟩))).set q (.pointer (some ⟨gr, 0, none⟩))).toArray, defers := d } W) :
    (Code.region id ops true).wp P Q { tmps := l.toArray, defers := d } w :=
  wp_mono h1 fun e a W ⟨gl, gr, he, ha, hr⟩ => by
    rw [he, ha]
    exact h2 gl gr W hr
theorem wp_region_upto_from {P : Program} {ops : Array Oper} {Q : Exit → Go.Act → World → Prop} {id : Nat} {a : Go.Act} {w V : World} (S : World → Prop) (z n : Nat) (hV : w.drew = V) (hn : ops.size = n) (hm : P.follows .mixedOrders = true)
    (h : wpUpto P .any ops Q S z n (Array.replicate n false) a V) : (Code.region id ops true).wp P Q a w :=
  wp_region_upto S z n hn hm (by rw [hV]; exact h)
set_option maxRecDepth 100000 in
set_option maxHeartbeats 4000000 in
theorem pclimb12_any (lev pl n c : Nat) (h sib : List UInt8) (A : Option Addr) (W : World) (hl : h.length = 32) (hn : lev + n ≤ 32) (hi : pl < 18446744073709551616) (hp : sib.length = 32 * n) (hr : Rd W W.heap.size A (ubs sib)) (hT : Tabs W) :
    Calls Tryd.prog 84 #[.int .i64 (lev : Int), .int .u64 (pl : Int), .agg (ubs h).toArray, .slice A n c] W fun r W' => r = .returned (.agg (ubs (climbK lev pl h sib n)).toArray) ∧ Below W.heap.size W W' := by
  obtain ⟨m, hm⟩ : ∃ m, m = n32 := ⟨_, rfl⟩
  have HAH := hid (fun (o : Oper) (a : Go.Act) (W : World) (h : o.op = .alloc 25) => run_alloc_of (o := o) (a := a) (W := W) _ h _ zeroH8)
  have HNL := hid (show m.length = 32 by rw [hm]; exact n32_length)
  have HC := hid (CbW.start (W := W) (x := h))
  rw [← hm] at HAH
  have HM0 := hid hm
  have HL := hid hl
  have HN := hid hn
  have HI := hid hi
  have HP := hid hp
  have HR := hid hr
  have HT := hid hT
  obtain ⟨fin, hfin⟩ : ∃ f, f = climbK lev pl h sib n := ⟨_, rfl⟩
  have HFN := hid hfin
  rw [← hfin]
  clear hl hn hi hp hr hT hm hfin
  go_enter Tryd.func84, Tryd.ntmps84
  go_wp2_with (first
    | (refine Great.wpList_allocTo rfl _ rfl _ _ (HAH.out _ _ _ rfl) ?_))
  rw [HM0.out]
  generalize (W.alloc (.cells (ubs h).toArray 25)).alloc (.cells (ubs n32).toArray 25) = W0 at HC ⊢
  go_loopw [0, 1, 15] (fun v0 v1 v15 wr => ∃ j : Nat, j ≤ n ∧ v0 = .int .i64 ((lev + j : Nat) : Int) ∧ v1 = .int .u64 ((pl >>> j : Nat) : Int) ∧ v15 = .int .i64 (j : Int) ∧ CbW W (climbK lev pl h sib j) wr) (fun _ _ v15 _ => n - (intOf v15).toNat)
  case atStart => exact ⟨0, by omega, rfl, by rw [Nat.shiftRight_zero], rfl, HC.out⟩
  case round =>
    clear HC
    obtain ⟨j, hj, rfl, rfl, rfl, hX⟩ := hrel
    by_cases hlt : j < n
    · have d1 : decide ((j : Int) < (n : Int)) = true := by simp; omega
      have d1n : decide (j < n) = true := by simp; omega
      have ik : (j : Int) < (n : Int) := by omega
      obtain ⟨u, hu⟩ : ∃ u, u = pl >>> j := ⟨_, rfl⟩
      obtain ⟨u2, hu2⟩ : ∃ v, v = u / 2 := ⟨_, rfl⟩
      have hu3 : pl >>> (j + 1) = u2 := by rw [Nat.shiftRight_succ, ← hu, hu2]
      have hle : u < 18446744073709551616 := by rw [hu]; exact Nat.lt_of_le_of_lt (Nat.shiftRight_le _ _) HI.out
      have e2 : (u : Int).tdiv 2 = (u2 : Int) := by rw [hu2]; exact (Int.ofNat_tdiv u 2).symm
      have wu : IntKind.u64.wrap (u2 : Int) = (u2 : Int) := by simp [IntKind.wrap, IntKind.signed, IntKind.bits]; omega
      obtain ⟨g, o, rfl, hgb, hra⟩ := hpart_range HR.out HP.out hlt
      obtain ⟨q, hq⟩ : ∃ q, q = o + 32 * j := ⟨_, rfl⟩
      rw [← hq] at hra
      have eq : o + j * 32 = q := by omega
      have HRA := hid (range_new hX.b hgb hra)
      have HSL := hid (hpart_length (bs := sib) HP.out hlt)
      have HXL := hid (climbK_length (lev := lev) (pl := pl) (sib := sib) HL.out j)
      obtain ⟨j1, hj1⟩ : ∃ m, m = j + 1 := ⟨_, rfl⟩
      have e3 : (j : Int) + 1 = (j1 : Int) := by omega
      have ew : IntKind.i64.wrap (j1 : Int) = (j1 : Int) := by rw [IntKind.wrap_i64] <;> have := HN.out <;> omega
      obtain ⟨l0, hl0⟩ : ∃ l, l = lev + j := ⟨_, rfl⟩
      obtain ⟨l1, hl1⟩ : ∃ l, l = l0 + 1 := ⟨_, rfl⟩
      have e4 : (l0 : Int) + 1 = (l1 : Int) := by omega
      have ew4 : IntKind.i64.wrap (l1 : Int) = (l1 : Int) := by rw [IntKind.wrap_i64] <;> have := HN.out <;> omega
      have HM := hid (show j1 ≤ n ∧ n - j1 < n - j by omega)
      have HLV := hid (show lev + j1 = l1 by omega)
      have HS9 := hid (show pl >>> j1 = u2 by rw [hj1]; exact hu3)
      have HON := hid (ponRight_any u hle)
      have hye : (u % 2 = 0 → climbK lev pl h sib j1 = hashL (joinT l1 (climbK lev pl h sib j) (hpart sib j))) ∧ (¬ u % 2 = 0 → climbK lev pl h sib j1 = hashL (joinT l1 (hpart sib j) (climbK lev pl h sib j))) := by
        rw [hj1, show l1 = lev + j + 1 by omega]
        exact ⟨fun e => climbK_even (by rw [← hu]; exact e), fun e => climbK_odd (by rw [← hu]; exact e)⟩
      obtain ⟨s, hs⟩ : ∃ s, s = hpart sib j := ⟨_, rfl⟩
      obtain ⟨x, hx⟩ : ∃ x, x = climbK lev pl h sib j := ⟨_, rfl⟩
      obtain ⟨y, hy⟩ : ∃ y, y = climbK lev pl h sib j1 := ⟨_, rfl⟩
      have HYL := hid (show y.length = 32 by rw [hy]; exact climbK_length HL.out j1)
      have HYE := hid hy.symm
      rw [← hs] at HRA HSL hye
      rw [← hx] at HXL hye hX
      rw [← hy] at hye
      have HYY := hid hye
      have HX := hid hX
      have HJ := hid (fun (V : World) (a b : List UInt8) (la : a.length = 32) (lb : b.length = 32) (q : Below W.heap.size W V) => show Calls Tryd.prog 25 #[.int .i64 (l1 : Int), .agg (ubs a).toArray, .agg (ubs b).toArray] V (fun r V' => r = .returned (.tuple #[.agg (ubs (hashL (joinT l1 a b))).toArray, .nilIface]) ∧ Below V.heap.size V V') from by
        have := pjoin_any (l1 : Int) a b V la lb (HT.out.below q)
        have hb : htB (l1 : Int) = true := by unfold htB; simp; have := HN.out; omega
        rw [jnH, hb, if_pos rfl, Int.toNat_natCast] at this
        exact this)
      rw [← hu, ← hl0]
      clear hs hx hy hye hX hu hu2 hu3 hle hra hgb hq hj1 hlt hj HR hl0 hl1
      go_wp2_with (first
        | (refine wpList_valW (by rfl) (run_loadH (.tmp 17) rfl g q rfl s HRA.out HSL.out) ?_)
        | (refine Great.wpList_allocTo rfl _ rfl _ _ (HAH.out _ _ _ rfl) ?_)
        | (refine wpList_store_row rfl _ (.tmp 10) (.tmp 18) rfl wr.heap.size (ubs s).toArray rfl rfl 25 (ubs m).toArray (At.new _ _ _) (sizeH_of HSL.out) (by simp [ubs_length, HNL.out, HSL.out]) (ubs_all _) ?_; have hb1 : Below wr.heap.size wr ((wr.alloc (.cells (ubs m).toArray 25)).setRow wr.heap.size (ubs s).toArray) := below_setRow ((Below.refl _ _).alloc (Nat.le_refl _) _) (Nat.le_refl _) _; have A1 := hid (show At ((wr.alloc (.cells (ubs m).toArray 25)).setRow wr.heap.size (ubs s).toArray) wr.heap.size (ubs s).toArray 25 from setRow_heap _ _ _ _ _ _ (At.new wr (ubs m).toArray 25)); have K1 := hid (HX.out.new hb1); clear hb1; generalize ((wr.alloc (.cells (ubs m).toArray 25)).setRow wr.heap.size (ubs s).toArray) = w1 at A1 K1 ⊢; generalize wr.heap.size = Gb at A1 ⊢))
      have KD := hid (K1.out.drew)
      have AD := hid (show At w1.drew Gb (ubs s).toArray 25 from A1.out)
      obtain ⟨V0, hV0⟩ : ∃ V, V = w1.drew := ⟨_, rfl⟩
      have HVD := hid hV0.symm
      rw [← hV0] at KD AD
      clear K1 A1 hV0 HRA
      try simp only [Act.put, List.setIfInBounds_toArray, List.set_cons_succ, List.set_cons_zero]
      obtain ⟨n0, hn0⟩ : ∃ n, n = V0.heap.size := ⟨_, rfl⟩
      have HN0 := hid hn0
      clear hn0
      refine wp_region_pair 19 20 11 12 (.agg (ubs s).toArray) (.agg (ubs x).toArray) (fun Gl Gr W => Gl ≠ Gr ∧ At W Gl (ubs s).toArray 25 ∧ At W Gr (ubs x).toArray 25 ∧ Below n0 V0 W ∧ n0 ≤ Gl ∧ n0 ≤ Gr) ?_ ?_
      · have SS := hid (fun (U : World) (q : Below V0.heap.size V0 U) => show U.rangeAt Gb 0 (ubs s) ∧ U.rangeAt W.heap.size 0 (ubs x) from ⟨range_whole (AD.out.below q AD.out.lt), range_whole (KD.out.h.below q KD.out.h.lt)⟩)
        have SD := hid (SS.out V0 (Below.refl _ _))
        have BD := hid (Below.refl V0.heap.size V0)
        refine wp_region_upto_from (fun U => U.rangeAt Gb 0 (ubs s) ∧ U.rangeAt W.heap.size 0 (ubs x)) 6 6 HVD.out (by kernel_rfl) (by kernel_rfl) ?_
        refine wpUpto_takeL (i := 0) (v := .agg (ubs s).toArray) rfl rfl (by decide +kernel) (by decide +kernel) (by decide +kernel) (by decide +kernel) (by decide) (fun _ _ _ ⟨_, _, h, _⟩ => by cases h) (Or.inl ⟨by rfl, ?_⟩) SD.out ?_
        · (intro U hSW; exact run_loadH (.tmp 10) rfl Gb 0 rfl s hSW.1 HSL.out)
        simp only [List.set_cons_succ, List.set_cons_zero]
        refine wpUpto_takeL (i := 1) (v := .agg (ubs x).toArray) rfl rfl (by decide +kernel) (by decide +kernel) (by decide +kernel) (by decide +kernel) (by decide) (fun _ _ _ ⟨_, _, h, _⟩ => by cases h) (Or.inl ⟨by rfl, ?_⟩) SD.out ?_
        · (intro U hSW; exact run_loadH (.tmp 6) rfl W.heap.size 0 rfl x hSW.2 HXL.out)
        simp only [List.set_cons_succ, List.set_cons_zero]
        refine wpUpto_two (i := 2) (j := 3) rfl rfl (by decide +kernel) rfl rfl ?_ ?_
        · intro Q0 hQ0
          refine wp_val (HAH.out _ _ _ rfl) ?_
          have b1x := hid (BD.out.alloc BD.out.size (.cells (ubs m).toArray 25))
          have Agl := hid (show At (V0.alloc (.cells (ubs m).toArray 25)) V0.heap.size (ubs m).toArray 25 from At.new _ _ _)
          have Lgl := hid (show V0.heap.size ≤ V0.heap.size from BD.out.size)
          refine hQ0.out _ _ (fun _ => SS.out _ b1x.out) ?_
          clear hQ0 Q0
          simp only [Act.put, List.setIfInBounds_toArray]
          generalize (V0.alloc (.cells (ubs m).toArray 25)) = W1 at b1x Agl ⊢
          obtain ⟨gl, hg⟩ : ∃ g, g = V0.heap.size := ⟨_, rfl⟩
          replace Lgl := hid (show V0.heap.size ≤ gl from Nat.le_of_eq hg.symm)
          rw [← hg] at Agl ⊢
          clear hg
          refine wpUpto_one (i := 3) rfl (by decide +kernel) rfl ?_
          intro Q0 hQ0
          refine wp_val (HAH.out _ _ _ rfl) ?_
          have b2x := hid (b1x.out.alloc b1x.out.size (.cells (ubs m).toArray 25))
          have Agr := hid (show At (W1.alloc (.cells (ubs m).toArray 25)) W1.heap.size (ubs m).toArray 25 from At.new _ _ _)
          have Lgr := hid (show V0.heap.size ≤ W1.heap.size from b1x.out.size)
          have Agl2 := hid (Agl.out.alloc (.cells (ubs m).toArray 25))
          have NEx := hid (show gl ≠ W1.heap.size from Nat.ne_of_lt Agl.out.lt)
          refine hQ0.out _ _ (fun _ => SS.out _ b2x.out) ?_
          clear hQ0 Q0
          simp only [Act.put]
          generalize (W1.alloc (.cells (ubs m).toArray 25)) = W2 at b2x Agr Agl2 ⊢
          generalize W1.heap.size = gr at Agr Lgr NEx ⊢
          refine wpUpto_one (i := 4) rfl (by decide +kernel) rfl ?_
          intro Q0 hQ0
          refine wp_unit (run_store_row 25 (.tmp 11) (.tmp 19) rfl gl (ubs s).toArray rfl rfl 25 (ubs m).toArray Agl2.out (sizeH_of HSL.out) (by simp [ubs_length, HNL.out, HSL.out]) (ubs_all _)) ?_
          have b3x := hid (below_setRow b2x.out Lgl.out (ubs s).toArray)
          have Agl3 := hid (show At (W2.setRow gl (ubs s).toArray) gl (ubs s).toArray 25 from setRow_heap _ _ _ _ _ _ Agl2.out)
          have Agr3 := hid (show At (W2.setRow gl (ubs s).toArray) gr (ubs m).toArray 25 from At.setRow_far Agr.out (Ne.symm NEx.out))
          refine hQ0.out _ _ (fun _ => SS.out _ b3x.out) ?_
          clear hQ0 Q0
          simp only [Act.put]
          generalize (W2.setRow gl (ubs s).toArray) = W3 at b3x Agl3 Agr3 ⊢
          refine wpUpto_one (i := 5) rfl (by decide +kernel) rfl ?_
          intro Q0 hQ0
          refine wp_unit (run_store_row 25 (.tmp 12) (.tmp 20) rfl gr (ubs x).toArray rfl rfl 25 (ubs m).toArray Agr3.out (sizeH_of HXL.out) (by simp [ubs_length, HNL.out, HXL.out]) (ubs_all _)) ?_
          have b4x := hid (below_setRow b3x.out Lgr.out (ubs x).toArray)
          have Agr4 := hid (show At (W3.setRow gr (ubs x).toArray) gr (ubs x).toArray 25 from setRow_heap _ _ _ _ _ _ Agr3.out)
          have Agl4 := hid (show At (W3.setRow gr (ubs x).toArray) gl (ubs s).toArray 25 from At.setRow_far Agl3.out NEx.out)
          refine hQ0.out _ _ (fun _ => SS.out _ b4x.out) ?_
          clear hQ0 Q0
          simp only [Act.put]
          generalize (W3.setRow gr (ubs x).toArray) = W4 at b4x Agr4 Agl4 ⊢
          refine wpUpto_done (by decide +kernel) ?_ _
          exact ⟨gl, gr, rfl, rfl, NEx.out, Agl4.out, Agr4.out, by rw [HN0.out]; exact b4x.out, by rw [HN0.out]; exact Lgl.out, by rw [HN0.out]; exact Lgr.out⟩

        · intro Q0 hQ0
          refine wp_val (HAH.out _ _ _ rfl) ?_
          have b1x := hid (BD.out.alloc BD.out.size (.cells (ubs m).toArray 25))
          have Agr := hid (show At (V0.alloc (.cells (ubs m).toArray 25)) V0.heap.size (ubs m).toArray 25 from At.new _ _ _)
          have Lgr := hid (show V0.heap.size ≤ V0.heap.size from BD.out.size)
          refine hQ0.out _ _ (fun _ => SS.out _ b1x.out) ?_
          clear hQ0 Q0
          simp only [Act.put, List.setIfInBounds_toArray]
          generalize (V0.alloc (.cells (ubs m).toArray 25)) = W1 at b1x Agr ⊢
          obtain ⟨gr, hg⟩ : ∃ g, g = V0.heap.size := ⟨_, rfl⟩
          replace Lgr := hid (show V0.heap.size ≤ gr from Nat.le_of_eq hg.symm)
          rw [← hg] at Agr ⊢
          clear hg
          refine wpUpto_one (i := 2) rfl (by decide +kernel) rfl ?_
          intro Q0 hQ0
          refine wp_val (HAH.out _ _ _ rfl) ?_
          have b2x := hid (b1x.out.alloc b1x.out.size (.cells (ubs m).toArray 25))
          have Agl := hid (show At (W1.alloc (.cells (ubs m).toArray 25)) W1.heap.size (ubs m).toArray 25 from At.new _ _ _)
          have Lgl := hid (show V0.heap.size ≤ W1.heap.size from b1x.out.size)
          have Agr2 := hid (Agr.out.alloc (.cells (ubs m).toArray 25))
          have NEx := hid (show gr ≠ W1.heap.size from Nat.ne_of_lt Agr.out.lt)
          refine hQ0.out _ _ (fun _ => SS.out _ b2x.out) ?_
          clear hQ0 Q0
          simp only [Act.put]
          generalize (W1.alloc (.cells (ubs m).toArray 25)) = W2 at b2x Agl Agr2 ⊢
          generalize W1.heap.size = gl at Agl Lgl NEx ⊢
          refine wpUpto_one (i := 4) rfl (by decide +kernel) rfl ?_
          intro Q0 hQ0
          refine wp_unit (run_store_row 25 (.tmp 11) (.tmp 19) rfl gl (ubs s).toArray rfl rfl 25 (ubs m).toArray Agl.out (sizeH_of HSL.out) (by simp [ubs_length, HNL.out, HSL.out]) (ubs_all _)) ?_
          have b3x := hid (below_setRow b2x.out Lgl.out (ubs s).toArray)
          have Agl3 := hid (show At (W2.setRow gl (ubs s).toArray) gl (ubs s).toArray 25 from setRow_heap _ _ _ _ _ _ Agl.out)
          have Agr3 := hid (show At (W2.setRow gl (ubs s).toArray) gr (ubs m).toArray 25 from At.setRow_far Agr2.out NEx.out)
          refine hQ0.out _ _ (fun _ => SS.out _ b3x.out) ?_
          clear hQ0 Q0
          simp only [Act.put]
          generalize (W2.setRow gl (ubs s).toArray) = W3 at b3x Agl3 Agr3 ⊢
          refine wpUpto_one (i := 5) rfl (by decide +kernel) rfl ?_
          intro Q0 hQ0
          refine wp_unit (run_store_row 25 (.tmp 12) (.tmp 20) rfl gr (ubs x).toArray rfl rfl 25 (ubs m).toArray Agr3.out (sizeH_of HXL.out) (by simp [ubs_length, HNL.out, HXL.out]) (ubs_all _)) ?_
          have b4x := hid (below_setRow b3x.out Lgr.out (ubs x).toArray)
          have Agr4 := hid (show At (W3.setRow gr (ubs x).toArray) gr (ubs x).toArray 25 from setRow_heap _ _ _ _ _ _ Agr3.out)
          have Agl4 := hid (show At (W3.setRow gr (ubs x).toArray) gl (ubs s).toArray 25 from At.setRow_far Agl3.out (Ne.symm NEx.out))
          refine hQ0.out _ _ (fun _ => SS.out _ b4x.out) ?_
          clear hQ0 Q0
          simp only [Act.put]
          generalize (W3.setRow gr (ubs x).toArray) = W4 at b4x Agr4 Agl4 ⊢
          refine wpUpto_done (by decide +kernel) ?_ _
          exact ⟨gl, gr, rfl, rfl, (Ne.symm NEx.out), Agl4.out, Agr4.out, by rw [HN0.out]; exact b4x.out, by rw [HN0.out]; exact Lgl.out, by rw [HN0.out]; exact Lgr.out⟩

      · intro Gl Gr W3 hR
        simp only [List.set_cons_succ, List.set_cons_zero]
        obtain ⟨hne, al, ar, bw, lo2, lo3⟩ := hR
        rw [HN0.out] at bw lo2 lo3
        have hlb : Gb < V0.heap.size := AD.out.lt
        have NE := hid hne
        have LO := hid (show V0.heap.size ≤ Gl ∧ V0.heap.size ≤ Gr from ⟨lo2, lo3⟩)
        have LB := hid hlb
        have LG := hid (show W.heap.size < V0.heap.size from KD.out.h.lt)
        have LG1 := hid (show W.heap.size + 1 < V0.heap.size from KD.out.r.lt)
        have AL2 := hid al
        have AR2 := hid ar
        have AB2 := hid (show At W3 Gb (ubs s).toArray 25 from AD.out.below bw hlb)
        have K2 := hid (KD.out.new bw)
        clear hne al ar bw lo2 lo3 hlb KD AD HVD HN0
        rcases Nat.mod_two_eq_zero_or_one u with hpar | hpar
        · have HPC := hid (show decide (u % 2 = 0) = true by simp [hpar])
          rw [HPC.out] at HON
          have HY := hid (HYY.out.1 hpar)
          clear hpar HYY
          go_simp
          go_wp2_with (first
            | (go_at_call 106; refine (HON.out W3).mono ?_; rintro r9 w9 ⟨rfl, rfl⟩))
          have AL3 := hid (show At w9.drew Gl (ubs s).toArray 25 from AL2.out)
          have AR3 := hid (show At w9.drew Gr (ubs x).toArray 25 from AR2.out)
          have AB3 := hid (show At w9.drew Gb (ubs s).toArray 25 from AB2.out)
          have K3 := hid (K2.out.drew)
          refine wp_region_upto (fun U => U.rangeAt W.heap.size 0 (ubs x) ∧ U.rangeAt Gb 0 (ubs s)) 4 4 (by kernel_rfl) (by kernel_rfl) ?_
          clear AL2 AR2 AB2 K2
          generalize w9.drew = V1 at AL3 AR3 AB3 K3 ⊢
          have SD := hid (show V1.rangeAt W.heap.size 0 (ubs x) ∧ V1.rangeAt Gb 0 (ubs s) from ⟨range_whole K3.out.h, range_whole AB3.out⟩)
          refine wpUpto_takeL (i := 0) (v := .agg (ubs x).toArray) rfl rfl (by decide +kernel) (by decide +kernel) (by decide +kernel) (by decide +kernel) (by decide) (fun _ _ _ h => h) (Or.inl ⟨by rfl, ?_⟩) SD.out ?_
          · (intro U hSW; exact run_loadH (.tmp 6) rfl W.heap.size 0 rfl x hSW.1 HXL.out)
          simp only [List.set_cons_succ, List.set_cons_zero]
          refine wpUpto_takeL (i := 1) (v := .agg (ubs s).toArray) rfl rfl (by decide +kernel) (by decide +kernel) (by decide +kernel) (by decide +kernel) (by decide) (fun _ _ _ h => h) (Or.inl ⟨by rfl, ?_⟩) SD.out ?_
          · (intro U hSW; exact run_loadH (.tmp 10) rfl Gb 0 rfl s hSW.2 HSL.out)
          simp only [List.set_cons_succ, List.set_cons_zero]

          have GB4 := hid (show At (V1.setRow Gl (ubs x).toArray) W.heap.size (ubs x).toArray 25 from At.setRow_far K3.out.h (by have := LG.out; have := LO.out; omega))
          have GR4 := hid (show At (V1.setRow Gl (ubs x).toArray) (W.heap.size + 1) (ubs n32).toArray 25 from At.setRow_far K3.out.r (by have := LG1.out; have := LO.out; omega))
          have AB4 := hid (show At (V1.setRow Gl (ubs x).toArray) Gb (ubs s).toArray 25 from At.setRow_far AB3.out (by have := LB.out; have := LO.out; omega))
          have AR4 := hid (show At (V1.setRow Gl (ubs x).toArray) Gr (ubs x).toArray 25 from At.setRow_far AR3.out (Ne.symm NE.out))
          have AL4 := hid (show At (V1.setRow Gl (ubs x).toArray) Gl (ubs x).toArray 25 from setRow_heap _ _ _ _ _ _ AL3.out)
          have BW4 := hid (show Below W.heap.size W (V1.setRow Gl (ubs x).toArray) from below_setRow K3.out.b (by have := LG.out; have := LO.out; omega) _)
          refine wpUpto_one (i := 2) rfl (by decide +kernel) rfl ?_
          intro Q0 hQ0
          refine wp_unit (run_store_row 25 (.tmp 11) (.tmp 23) rfl Gl (ubs x).toArray rfl rfl 25 (ubs s).toArray AL3.out (sizeH_of HXL.out) (by simp [ubs_length, HSL.out, HXL.out]) (ubs_all _)) ?_
          refine hQ0.out _ _ (fun _ => ⟨range_whole GB4.out, range_whole AB4.out⟩) ?_
          clear hQ0 Q0 K3 AL3 AR3 AB3 SD
          generalize (V1.setRow Gl (ubs x).toArray) = V2 at GB4 GR4 AB4 AR4 AL4 BW4 ⊢
          have GB5 := hid (show At (V2.setRow Gr (ubs s).toArray) W.heap.size (ubs x).toArray 25 from At.setRow_far GB4.out (by have := LG.out; have := LO.out; omega))
          have GR5 := hid (show At (V2.setRow Gr (ubs s).toArray) (W.heap.size + 1) (ubs n32).toArray 25 from At.setRow_far GR4.out (by have := LG1.out; have := LO.out; omega))
          have AB5 := hid (show At (V2.setRow Gr (ubs s).toArray) Gb (ubs s).toArray 25 from At.setRow_far AB4.out (by have := LB.out; have := LO.out; omega))
          have AL5 := hid (show At (V2.setRow Gr (ubs s).toArray) Gl (ubs x).toArray 25 from At.setRow_far AL4.out NE.out)
          have AR5 := hid (show At (V2.setRow Gr (ubs s).toArray) Gr (ubs s).toArray 25 from setRow_heap _ _ _ _ _ _ AR4.out)
          have BW5 := hid (show Below W.heap.size W (V2.setRow Gr (ubs s).toArray) from below_setRow BW4.out (by have := LG.out; have := LO.out; omega) _)
          refine wpUpto_one (i := 3) rfl (by decide +kernel) rfl ?_
          intro Q0 hQ0
          refine wp_unit (run_store_row 25 (.tmp 12) (.tmp 24) rfl Gr (ubs s).toArray rfl rfl 25 (ubs x).toArray AR4.out (sizeH_of HSL.out) (by simp [ubs_length, HSL.out, HXL.out]) (ubs_all _)) ?_
          refine hQ0.out _ _ (fun _ => ⟨range_whole GB5.out, range_whole AB5.out⟩) ?_
          clear hQ0 Q0
          refine wpUpto_done (by decide +kernel) ?_ _
          have K5 := hid (CbW.mk BW5.out GB5.out GR5.out)
          clear GB4 GR4 AB4 AR4 AL4 BW4 GB5 GR5 AB5 BW5
          generalize (V2.setRow Gr (ubs s).toArray) = V3 at AL5 AR5 K5 ⊢
          go_simp
          go_wp2_with (first
            | (refine wpList_valW (by rfl) (run_loadH (.tmp 11) rfl Gl 0 rfl x (range_whole AL5.out) HXL.out) ?_)
            | (refine wpList_valW (by rfl) (run_loadH (.tmp 12) rfl Gr 0 rfl s (range_whole AR5.out) HSL.out) ?_)
            | (go_at_call 25; refine (HJ.out V3 x s HXL.out HSL.out K5.out.b).mono ?_; rintro re we ⟨rfl, hbe⟩; rw [← HY.out]; have K6 := hid (K5.out.new hbe); clear hbe)
            | (refine wpList_store_row rfl _ (.tmp 6) (.tmp 34) rfl W.heap.size (ubs y).toArray rfl rfl 25 (ubs x).toArray K6.out.h (sizeH_of HYL.out) (by simp [ubs_length, HXL.out, HYL.out]) (ubs_all _) ?_; have K8 := hid (K6.out.put (y := y)); generalize (we.setRow W.heap.size (ubs y).toArray) = wg at K8 ⊢))
          go_roundw
          case rel => exact ⟨j1, HM.out.1, by rw [HLV.out], by rw [HS9.out], rfl, by rw [HYE.out]; exact K8.out⟩
          case measure =>
            show n - ((j1 : Int)).toNat < n - (j : Int).toNat
            rw [Int.toNat_natCast, Int.toNat_natCast]
            exact HM.out.2
        · have HPC := hid (show decide (u % 2 = 0) = false by simp [hpar])
          rw [HPC.out] at HON
          have HY := hid (HYY.out.2 (by omega))
          clear hpar HYY AB2
          go_simp
          go_wp2_with (first
            | (go_at_call 106; refine (HON.out W3).mono ?_; rintro r9 w9 ⟨rfl, rfl⟩)
            | (refine wpList_valW (by rfl) (run_loadH (.tmp 11) rfl Gl 0 rfl s (range_whole AL2.out) HSL.out) ?_)
            | (refine wpList_valW (by rfl) (run_loadH (.tmp 12) rfl Gr 0 rfl x (range_whole AR2.out) HXL.out) ?_)
            | (go_at_call 25; refine (HJ.out w9 s x HSL.out HXL.out K2.out.b).mono ?_; rintro re we ⟨rfl, hbe⟩; rw [← HY.out]; have K6 := hid (K2.out.new hbe); clear hbe)
            | (refine wpList_store_row rfl _ (.tmp 6) (.tmp 34) rfl W.heap.size (ubs y).toArray rfl rfl 25 (ubs x).toArray K6.out.h (sizeH_of HYL.out) (by simp [ubs_length, HXL.out, HYL.out]) (ubs_all _) ?_; have K8 := hid (K6.out.put (y := y)); generalize (we.setRow W.heap.size (ubs y).toArray) = wg at K8 ⊢))
          go_roundw
          case rel => exact ⟨j1, HM.out.1, by rw [HLV.out], by rw [HS9.out], rfl, by rw [HYE.out]; exact K8.out⟩
          case measure =>
            show n - ((j1 : Int)).toNat < n - (j : Int).toNat
            rw [Int.toNat_natCast, Int.toNat_natCast]
            exact HM.out.2
    · obtain rfl : j = n := by omega
      have d1 : decide ((j : Int) < (j : Int)) = false := by simp
      have HXL := hid (show fin.length = 32 by rw [HFN.out]; exact climbK_length (lev := lev) (pl := pl) (sib := sib) HL.out j)
      rw [← HFN.out] at hX
      have HX := hid hX
      obtain ⟨l0, hl0⟩ : ∃ l, l = lev + j := ⟨_, rfl⟩
      obtain ⟨u, hu⟩ : ∃ u, u = pl >>> j := ⟨_, rfl⟩
      rw [← hl0, ← hu]
      clear hlt hj hX HR hl0 hu
      go_wp2_with (first
        | (refine wpList_valW (by rfl) (run_loadH (.tmp 6) rfl W.heap.size 0 rfl fin (range_whole HX.out.h) HXL.out) ?_)
        | (refine wpList_store_row rfl _ (.tmp 8) (.tmp 37) rfl (W.heap.size + 1) (ubs fin).toArray rfl rfl 25 (ubs n32).toArray HX.out.r (sizeH_of HXL.out) ?e5 (ubs_all _) ?e6; rotate_right))
      case e5 => simp [ubs_length, n32_length, HXL.out]
      refine bodyPost_ret (results_cell_row rfl _ _ (W.heap.size + 1) 25 (ubs fin).toArray (0, 0) _ rfl (setRow_heap _ _ (ubs n32).toArray _ _ _ HX.out.r) Tryd.underlying25 rfl (sizeH_of HXL.out)) rfl ?_
      exact ⟨rfl, below_setRow HX.out.b (by omega) _⟩
end Go.Proofs.YtdegmcfcbndelaaDoor

namespace Go.Proofs.YtdegmcfcbndelaaDoor
open Go.RowKit

/-- Whether there is a change from so few blocks to so many. -/
def hgB (few many : Nat) : Bool := decide (1 ≤ few) && (decide (few ≤ many) && decide (many ≤ 4294967296))
theorem hgB_parts {few many : Nat} (h : hgB few many = true) : 1 ≤ few ∧ few ≤ many ∧ many ≤ 4294967296 := by
  unfold hgB at h
  simpa using h
theorem highOk_of {n : Nat} (h1 : 1 ≤ n) (h2 : n ≤ 4294967296) : highOk n = true := by
  unfold highOk
  simp
  omega
/-- What heights yields. -/
def htN (few many n : Nat) : Nat := if hgB few many then highN n else 0
set_option maxRecDepth 100000 in
set_option maxHeartbeats 1000000 in
theorem pheights_any (few many : Nat) (h1 : few < 18446744073709551616) (h2 : many < 18446744073709551616) (W : World) :
    Calls Tryd.prog 83 #[.int .u64 (few : Int), .int .u64 (many : Int)] W fun r W' => r = .returned (.tuple #[.int .i64 (htN few many few : Int), .int .i64 (htN few many many : Int), errV (if hgB few many then 0 else 1)]) ∧ W' = W := by
  have e1 : errV 1 = .iface 42 (.int .i64 1) := rfl
  have e0 : errV 0 = .nilIface := rfl
  by_cases g1 : few = 0
  · subst g1
    have hb : hgB 0 many = false := by unfold hgB; simp
    unfold htN
    rw [hb, if_neg (by simp), if_neg (by simp), if_neg (by simp), e1]
    clear hb e0 e1 h1 h2
    go_enter Tryd.func83, Tryd.ntmps83
    go_wp2
    go_ret3
    exact ⟨rfl, rfl⟩
  have c1 : decide ((few : Int) < 1) = false := by simp; omega
  have c1n : decide (few < 1) = false := by simp; omega
  have c1b : decide (few = 0) = false := by simp; omega
  have c1c : ((few : Int) == 0) = false := by simp; omega
  by_cases g2 : many < few
  · have hb : hgB few many = false := by unfold hgB; simp; omega
    unfold htN
    rw [hb, if_neg (by simp), if_neg (by simp), if_neg (by simp), e1]
    have c2 : decide ((many : Int) < (few : Int)) = true := by simp; omega
    have c2n : decide (many < few) = true := by simp; omega
    clear hb e0 e1 h1 h2 g1 g2
    go_enter Tryd.func83, Tryd.ntmps83
    go_wp2
    go_ret3
    exact ⟨rfl, rfl⟩
  have c2 : decide ((many : Int) < (few : Int)) = false := by simp; omega
  have c2n : decide (many < few) = false := by simp; omega
  by_cases g3 : 4294967296 < many
  · have hb : hgB few many = false := by unfold hgB; simp; omega
    unfold htN
    rw [hb, if_neg (by simp), if_neg (by simp), if_neg (by simp), e1]
    have c3 : decide (4294967296 < (many : Int)) = true := by simp; omega
    have c3n : decide (4294967296 < many) = true := by simp; omega
    clear hb e0 e1 h1 h2 g1 g2 g3
    go_enter Tryd.func83, Tryd.ntmps83
    go_wp2
    go_ret3
    exact ⟨rfl, rfl⟩
  have c3 : decide (4294967296 < (many : Int)) = false := by simp; omega
  have c3n : decide (4294967296 < many) = false := by simp; omega
  have hb : hgB few many = true := by unfold hgB; simp; omega
  have HF := hid (show Calls Tryd.prog 54 #[.int .u64 (few : Int)] W (fun r W' => r = .returned (.tuple #[.int .i64 (highN few : Int), .nilIface]) ∧ W' = W) from by
    have := pheightN_any few W h1
    rw [highOk_of (by omega) (by omega)] at this
    exact this)
  have HM := hid (show Calls Tryd.prog 54 #[.int .u64 (many : Int)] W (fun r W' => r = .returned (.tuple #[.int .i64 (highN many : Int), .nilIface]) ∧ W' = W) from by
    have := pheightN_any many W h2
    rw [highOk_of (by omega) (by omega)] at this
    exact this)
  unfold htN
  rw [hb, if_pos rfl, if_pos rfl, if_pos rfl, e0]
  obtain ⟨a, ha⟩ : ∃ a, a = highN few := ⟨_, rfl⟩
  obtain ⟨b, hb'⟩ : ∃ a, a = highN many := ⟨_, rfl⟩
  rw [← ha] at HF ⊢
  rw [← hb'] at HM ⊢
  clear hb e0 e1 h1 h2 g1 g2 g3 ha hb'
  go_enter Tryd.func83, Tryd.ntmps83
  go_wp2_with (first
    | (go_at_call 54; with_reducible (refine HF.out.mono ?_); rintro r1 w1 ⟨rfl, hw⟩; rw [hw]; clear hw)
    | (go_at_call 54; with_reducible (refine HM.out.mono ?_); rintro r1 w1 ⟨rfl, hw⟩; rw [hw]; clear hw))
  go_ret3
  exact ⟨rfl, rfl⟩
/-- What Grow yields. -/
def grE (root : List UInt8) (was blocks : Nat) : List UInt8 := if hgB was blocks then growH root (highN was) (highN blocks - highN was) else n32
/-- The empty hashes from one level up to another. -/
theorem hpart_eRow {n j : Nat} (h : j < n) : hpart (eRow n) j = emptyL j := by
  obtain ⟨z, hz⟩ := eRow_at n j h
  rw [hpart, hz, List.drop_left' (eRow_length j), List.take_left' (emptyL_length j)]
theorem hpart_mid {l : List UInt8} {a m j : Nat} (h : j < m) : hpart ((l.drop (32 * a)).take (32 * m)) j = hpart l (a + j) := by
  rw [hpart, hpart, List.drop_take, List.take_take, List.drop_drop, show 32 * a + 32 * j = 32 * (a + j) by omega, Nat.min_eq_left (by omega)]
theorem range_mid {W : World} {g o a m : Nat} {l : List UInt8} (h : W.rangeAt g o (ubs l)) : W.rangeAt g (o + a) (ubs ((l.drop a).take m)) := fun j u hu => by
  have : (ubs l)[a + j]? = some u := by
    unfold ubs at hu ⊢
    rw [List.getElem?_map] at hu ⊢
    rw [List.getElem?_take] at hu
    split at hu
    · rwa [List.getElem?_drop] at hu
    · simp at hu
  rw [Nat.add_assoc]
  exact h (a + j) u this
theorem run_sizeH12 (W : World) : (sizeOf 25).run Tryd.prog W = .ok 32 W := by
  cases hq : Tryd.prog.info? 25 with
  | none => have := sizeH; rw [hq] at this; cases this
  | some inf =>
    have hs : inf.size = 32 := by have := sizeH; rw [hq] at this; simpa using this
    simp [sizeOf, typeInfo, hq, hs]
theorem arrayLen33 : Tryd.prog.arrayLen 112 = 33 := by kernel_rfl
theorem elem33 : Tryd.prog.elem 112 = 25 := by kernel_rfl
theorem run_slice33 (E lo hi k : Nat) (h : lo ≤ hi ∧ hi ≤ 33 ∧ hi - lo = k ∧ lo ≤ 32) : ∀ W : World, (Instr.sliceAt 112 (.pointer (some ⟨E, 0, none⟩)) (some (.int .i64 (lo : Int))) (some (.int .i64 (hi : Int))) none).run Tryd.prog W = .ok (.slice (some ⟨E, 32 * lo, none⟩) k (33 - lo)) W := by
  intro W
  obtain ⟨h1, h2, h3, h4⟩ := h
  have h := run_sliceAt_array_lh (P := Tryd.prog) W 112 ⟨E, 0, none⟩ (by kernel_rfl) .i64 .i64 (lo : Int) (hi : Int) (by omega) (by omega) (by rw [arrayLen33]; omega)
  rw [h, elem33, run_sizeH12, arrayLen33]
  simp only [Result.andThen_ok, Int.toNat_natCast, slicedAt]
  rw [if_neg (by omega), Addr.add_mid, show 0 + lo * 32 = 32 * lo by omega, h3]
set_option maxRecDepth 100000 in
set_option maxHeartbeats 1000000 in
theorem pgrow12_no (root : List UInt8) (was blocks : Nat) (W : World) (h1 : was < 18446744073709551616) (h2 : blocks < 18446744073709551616) (hg : hgB was blocks = false) :
    Calls Tryd.prog 50 #[.agg (ubs root).toArray, .int .u64 (was : Int), .int .u64 (blocks : Int)] W fun r W' => r = .returned (.tuple #[.agg (ubs n32).toArray, errV 1]) ∧ Below W.heap.size W W' := by
  have HAH := hid (fun (o : Oper) (a : Go.Act) (W : World) (h : o.op = .alloc 25) => run_alloc_of (o := o) (a := a) (W := W) _ h _ zeroH8)
  have HNL := hid n32_length
  have e1 : errV 1 = .iface 42 (.int .i64 1) := rfl
  have HC := hid (CbW.start (W := W) (x := root))
  have HH := hid (fun (V : World) => show Calls Tryd.prog 83 #[.int .u64 (was : Int), .int .u64 (blocks : Int)] V (fun r W' => r = .returned (.tuple #[.int .i64 0, .int .i64 0, .iface 42 (.int .i64 1)]) ∧ W' = V) from by
    have := pheights_any was blocks h1 h2 V
    unfold htN at this
    rw [hg] at this
    exact this)
  rw [e1]
  clear e1 h1 h2 hg
  go_enter Tryd.func50, Tryd.ntmps50
  go_wp2_with (first
    | (refine Great.wpList_allocTo rfl _ rfl _ _ (HAH.out _ _ _ rfl) ?_)
    | (generalize (W.alloc (.cells (ubs root).toArray 25)).alloc (.cells (ubs n32).toArray 25) = W0 at HC ⊢; go_at_call 83; refine (HH.out W0).mono ?_; rintro r1 w1 ⟨rfl, hw⟩; rw [hw]; clear hw)
    | (refine wpList_valW (by rfl) (run_build_hash0 rfl) ?_)
    | (refine wpList_store_row rfl _ (.tmp 6) (.tmp 21) rfl (W.heap.size + 1) (ubs n32).toArray rfl rfl 25 (ubs n32).toArray HC.out.r (sizeH_of HNL.out) (Eq.refl _) (ubs_all _) ?_))
  refine bodyPost_ret (results_row_tmp rfl _ _ (W.heap.size + 1) 25 (ubs n32).toArray (0, 0) _ rfl (setRow_heap _ _ (ubs n32).toArray _ _ _ HC.out.r) Tryd.underlying25 rfl (sizeH_of HNL.out)) rfl ?_
  exact ⟨rfl, below_setRow HC.out.b (by omega) _⟩
/-- What the last region of Grow yields. -/
def gr12 (E lo hi k : Nat) (x y : List UInt8) : Nat → Value
  | 0 => .int .i64 (lo : Int)
  | 1 => .agg (ubs x).toArray
  | 2 => .int .i64 (lo : Int)
  | 3 => .int .i64 (hi : Int)
  | 4 => .slice (some ⟨E, 32 * lo, none⟩) k (33 - lo)
  | _ => .agg (ubs y).toArray
set_option maxRecDepth 100000 in
set_option maxHeartbeats 2000000 in
theorem pgrow12_ok (root : List UInt8) (was blocks : Nat) (W : World) (hl : root.length = 32) (h1 : was < 18446744073709551616) (h2 : blocks < 18446744073709551616) (hT : Tabs W) (hg : hgB was blocks = true) :
    Calls Tryd.prog 50 #[.agg (ubs root).toArray, .int .u64 (was : Int), .int .u64 (blocks : Int)] W fun r W' => r = .returned (.tuple #[.agg (ubs (growH root (highN was) (highN blocks - highN was))).toArray, .nilIface]) ∧ Below W.heap.size W W' := by
  have HAH := hid (fun (o : Oper) (a : Go.Act) (W : World) (h : o.op = .alloc 25) => run_alloc_of (o := o) (a := a) (W := W) _ h _ zeroH8)
  have HAE := hid (fun (o : Oper) (a : Go.Act) (W : World) (h : o.op = .alloc 112) => run_alloc_of (o := o) (a := a) (W := W) _ h _ zeroAH)
  have HXL := hid hl
  have HC := hid (CbW.start (W := W) (x := root))
  obtain ⟨q1, q2, q3⟩ := hgB_parts hg
  have HH := hid (fun (V : World) => show Calls Tryd.prog 83 #[.int .u64 (was : Int), .int .u64 (blocks : Int)] V (fun r W' => r = .returned (.tuple #[.int .i64 (highN was : Int), .int .i64 (highN blocks : Int), .nilIface]) ∧ W' = V) from by
    have := pheights_any was blocks h1 h2 V
    unfold htN at this
    rw [hg] at this
    exact this)
  have HEM := hid (fun (V : World) (b : Below W.heap.size W V) => pempties_any V (hT.below b))
  have hle := high_le q2 q3
  have hh := (highN_spec (b := blocks) q3).2.1
  obtain ⟨lo, hlo⟩ : ∃ a, a = highN was := ⟨_, rfl⟩
  obtain ⟨hi, hhi⟩ : ∃ a, a = highN blocks := ⟨_, rfl⟩
  obtain ⟨k, hk⟩ : ∃ a, a = hi - lo := ⟨_, rfl⟩
  rw [← hlo] at hle
  rw [← hhi] at hle hh
  rw [← hlo, ← hhi] at HH ⊢
  rw [← hk]
  obtain ⟨E0, hE0⟩ : ∃ e, e = eRow 33 := ⟨_, rfl⟩
  have HEL := hid (show E0.length = 1056 by rw [hE0, eRow_length])
  have HCL := hid (fun (V : World) (E : Nat) (b : Below W.heap.size W V) (r : V.rangeAt E 0 (ubs E0)) (hb : E < V.heap.size) => show Calls Tryd.prog 84 #[.int .i64 (lo : Int), .int .u64 0, .agg (ubs root).toArray, .slice (some ⟨E, 32 * lo, none⟩) k (33 - lo)] V (fun r V' => r = .returned (.agg (ubs (growH root lo k)).toArray) ∧ Below V.heap.size V V') from by
    have hln : ((E0.drop (32 * lo)).take (32 * k)).length = 32 * k := by rw [List.length_take, List.length_drop, HEL.out]; omega
    have := pclimb12_any lo 0 k (33 - lo) root ((E0.drop (32 * lo)).take (32 * k)) (some ⟨E, 32 * lo, none⟩) V hl (by omega) (by omega) hln (fun _ => ⟨E, 32 * lo, rfl, hb, fun j u hu => by have := range_mid (a := 32 * lo) (m := 32 * k) r j u hu; rwa [Nat.zero_add] at this⟩) (hT.below b)
    rw [climbK_grow root _ lo k (fun j hj => by rw [hpart_mid hj, hE0, hpart_eRow (by omega)])] at this
    exact this)
  rw [← hE0] at HEM
  have HYL := hid (growH_length hl lo k)
  generalize growH root lo k = y at HCL HYL ⊢
  have z1 : ((33 - lo : Nat) : Int) = 33 - (lo : Int) := by omega
  have z2 : (hi : Int) - (lo : Int) = (k : Int) := by omega
  have z3 : (lo : Int) * 32 = ((32 * lo : Nat) : Int) := by omega
  have z4 : (lo : Int) ≤ (hi : Int) := by omega
  have z5 : (hi : Int) ≤ 33 := by omega
  have Z := hid (show lo ≤ hi ∧ hi ≤ 33 ∧ hi - lo = k ∧ lo ≤ 32 by omega)
  have HZL := hid z1056_length
  clear hl h1 h2 hT hg q1 q2 q3 hle hh hlo hhi hk hE0
  go_enter Tryd.func50, Tryd.ntmps50
  go_wp2_with (first
    | (refine Great.wpList_allocTo rfl _ rfl _ _ (HAH.out _ _ _ rfl) ?_)
    | (generalize (W.alloc (.cells (ubs root).toArray 25)).alloc (.cells (ubs n32).toArray 25) = W0 at HC ⊢; go_at_call 83; refine (HH.out W0).mono ?_; rintro r1 w1 ⟨rfl, hw⟩; rw [hw]; clear hw)
    | (go_at_call 64; refine (HEM.out W0 HC.out.b).mono ?_; rintro r2 w2 ⟨rfl, hb2⟩; have C2 := hid (HC.out.new hb2); clear hb2)
    | (refine Great.wpList_allocTo rfl _ rfl _ _ (HAE.out _ _ _ rfl) ?_)
    | (refine wpList_store_row rfl _ (.tmp 11) (.tmp 23) rfl w2.heap.size (ubs E0).toArray rfl rfl 112 (ubs z1056).toArray (At.new _ _ _) (sizeAH_of HEL.out) (by simp [ubs_length, HZL.out, HEL.out]) (ubs_all _) ?_; have hb3 : Below w2.heap.size w2 ((w2.alloc (.cells (ubs z1056).toArray 112)).setRow w2.heap.size (ubs E0).toArray) := below_setRow ((Below.refl _ _).alloc (Nat.le_refl _) _) (Nat.le_refl _) _; have C3 := hid (C2.out.new hb3); have E3 := hid (show At ((w2.alloc (.cells (ubs z1056).toArray 112)).setRow w2.heap.size (ubs E0).toArray) w2.heap.size (ubs E0).toArray 112 from setRow_heap _ _ _ _ _ _ (At.new w2 (ubs z1056).toArray 112)); clear hb3; generalize ((w2.alloc (.cells (ubs z1056).toArray 112)).setRow w2.heap.size (ubs E0).toArray) = w3 at C3 E3 ⊢; generalize w2.heap.size = E at E3 ⊢))
  have CD := hid (C3.out.drew)
  have ED := hid (show At w3.drew E (ubs E0).toArray 112 from E3.out)
  clear C2 C3 E3
  try simp only [Act.put, List.setIfInBounds_toArray, List.set_cons_succ, List.set_cons_zero]
  refine wp_region_upto (fun _ => True) 8 8 (by kernel_rfl) (by kernel_rfl) ?_
  refine wpUpto_facts 8 2 [0, 1, 2, 3, 4, 5] [24, 25, 26, 27, 28, 29] (fun i v _ => v = gr12 E lo hi k root y i) (fun V => CbW W root V ∧ At V E (ubs E0).toArray 112) (by kernel_rfl)
    (fun V V' h hb => ⟨h.1.new hb, h.2.new_ hb⟩) (fun _ _ _ _ h _ => h) (⟨CD.out, ED.out⟩) ?_ ?_
  · intro i hi' vals W1 K hB hn hK
    replace hi' : i < 6 := hi'
    simp only [frm_cons, frm_nil, List.set_cons_succ, List.set_cons_zero, Nat.reduceAdd] at hK ⊢
    rcases (by omega : i = 0 ∨ i = 1 ∨ i = 2 ∨ i = 3 ∨ i = 4 ∨ i = 5) with rfl | rfl | rfl | rfl | rfl | rfl
    · refine wpOp_plain rfl rfl (wp_val (w' := W1) (v := .int .i64 (lo : Int)) (by go_simp) ?_)
      exact hK _ _ rfl (Below.refl _ _)
    · refine wpOp_plain rfl rfl (wp_val (run_loadH (.tmp 3) rfl W.heap.size 0 rfl root (range_whole hB.1.h) HXL.out) ?_)
      exact hK _ _ rfl (Below.refl _ _)
    · refine wpOp_plain rfl rfl (wp_val (w' := W1) (v := .int .i64 (lo : Int)) (by go_simp) ?_)
      exact hK _ _ rfl (Below.refl _ _)
    · refine wpOp_plain rfl rfl (wp_val (w' := W1) (v := .int .i64 (hi : Int)) (by go_simp) ?_)
      exact hK _ _ rfl (Below.refl _ _)
    · have h2 := hn 2 (by decide) (by decide +kernel)
      have h3 := hn 3 (by decide) (by decide +kernel)
      simp only [gr12] at h2 h3
      simp only [h2, h3] at hK ⊢
      refine wpOp_plain rfl rfl (wp_val (w' := W1) (v := .slice (some ⟨E, 32 * lo, none⟩) k (33 - lo)) (by have hsl := run_slice33 E lo hi k Z.out; go_simp) ?_)
      exact hK _ _ rfl (Below.refl _ _)
    · have h0 := hn 0 (by decide) (by decide +kernel)
      have h1 := hn 1 (by decide) (by decide +kernel)
      have h4 := hn 4 (by decide) (by decide +kernel)
      simp only [gr12] at h0 h1 h4
      simp only [h0, h1, h4] at hK ⊢
      refine wpOp_plain rfl rfl ?_
      go_simp
      go_at_call 84
      refine (HCL.out W1 E hB.1.b (range_whole hB.2) hB.2.lt).mono ?_
      rintro e W' ⟨rfl, hb⟩
      exact hK _ _ rfl hb
  · intro vals W1 hB hF
    have h0 := hF 0 (by decide)
    have h1 := hF 1 (by decide)
    have h2 := hF 2 (by decide)
    have h3 := hF 3 (by decide)
    have h4 := hF 4 (by decide)
    have h5 := hF 5 (by decide)
    simp only [gr12] at h0 h1 h2 h3 h4 h5
    simp only [frm_cons, frm_nil, List.set_cons_succ, List.set_cons_zero, Nat.reduceAdd, h0, h1, h2, h3, h4, h5]
    clear hF
    refine wpUpto_one (i := 6) rfl (by decide +kernel) rfl ?_
    intro Q0 hQ0
    refine wp_store_row 25 (.tmp 6) (.tmp 29) rfl (W.heap.size + 1) (ubs y).toArray rfl rfl 25 (ubs n32).toArray hB.1.r (sizeH_of HYL.out) (by simp [ubs_length, n32_length, HYL.out]) (ubs_all _) ?_
    refine hQ0.out _ _ (fun _ => trivial) ?_
    clear hQ0 Q0
    refine wpUpto_one (i := 7) rfl (by decide +kernel) rfl ?_
    intro Q0 hQ0
    go_simp
    refine hQ0.out _ _ (fun _ => trivial) ?_
    clear hQ0 Q0
    refine wpUpto_done (by decide +kernel) ?_ _
    go_simp
    go_wp2
    refine bodyPost_ret (results_row_tmp rfl _ _ (W.heap.size + 1) 25 (ubs y).toArray (0, 0) _ rfl (setRow_heap _ _ (ubs n32).toArray _ _ _ hB.1.r) Tryd.underlying25 rfl (sizeH_of HYL.out)) rfl ?_
    exact ⟨rfl, below_setRow hB.1.b (by omega) _⟩
theorem pgrow12_any (root : List UInt8) (was blocks : Nat) (W : World) (hl : root.length = 32) (h1 : was < 18446744073709551616) (h2 : blocks < 18446744073709551616) (hT : Tabs W) :
    Calls Tryd.prog 50 #[.agg (ubs root).toArray, .int .u64 (was : Int), .int .u64 (blocks : Int)] W fun r W' => r = .returned (.tuple #[.agg (ubs (grE root was blocks)).toArray, errV (if hgB was blocks then 0 else 1)]) ∧ Below W.heap.size W W' := by
  unfold grE
  cases hg : hgB was blocks with
  | true => exact pgrow12_ok root was blocks W hl h1 h2 hT hg
  | false => exact pgrow12_no root was blocks W h1 h2 hg
end Go.Proofs.YtdegmcfcbndelaaDoor
