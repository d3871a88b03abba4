/-
  SealBack, walked.
-/
import Derived.Test.YtnaihcoafgigcaaDoorU7
import Derived.Test.YtnaihcoafgigcaaDoorUh
namespace Go.Proofs.YtnaihcoafgigcaaDoor
open Go.RowKit

/-- What holds in the law: the key, the places, the two ints; blocks and sealed blocks of the call's own. -/
structure SbW (w : World) (key : List UInt8) (i e j f : Nat) (ta tb : Int) (LB : List (Nat × List UInt8)) (LX : List (Nat × List Value)) (W : World) : Prop where
  k : At W w.heap.size (ubs key).toArray 23
  p : At W (w.heap.size + 1) (pl4 i e j f).toArray 52
  n : At W (w.heap.size + 2) #[.int .i64 ta, .int .i64 tb] 53
  bs : ∀ q ∈ LB, At W q.1 (ubs q.2).toArray 28
  xs : ∀ q ∈ LX, At W q.1 q.2.toArray 31
  below : Below w.heap.size w W
section
variable {w W W' : World} {key : List UInt8} {i e j f : Nat} {ta tb : Int} {LB : List (Nat × List UInt8)} {LX : List (Nat × List Value)}
theorem SbW.new (h : SbW w key i e j f ta tb LB LX W) (hb : Below W.heap.size W W') : SbW w key i e j f ta tb LB LX W' := ⟨h.k.new_ hb, h.p.new_ hb, h.n.new_ hb, fun q hq => (h.bs q hq).new_ hb, fun q hq => (h.xs q hq).new_ hb, h.below.trans (hb.mono h.below.size)⟩
theorem SbW.drew (h : SbW w key i e j f ta tb LB LX W) : SbW w key i e j f ta tb LB LX W.drew := ⟨h.k, h.p, h.n, h.bs, h.xs, h.below.drew⟩
theorem SbW.start (w : World) (key : List UInt8) (i e j f : Nat) (ta tb : Int) : SbW w key i e j f ta tb [] [] (((w.alloc (.cells (ubs key).toArray 23)).alloc (.cells #[.int .u64 (i : Int), .int .u64 (e : Int), .int .u64 (j : Int), .int .u64 (f : Int)] 52)).alloc (.cells #[.int .i64 ta, .int .i64 tb] 53)) :=
  ⟨((At.new _ _ _).alloc _).alloc _, (At.new_at (by simp)).alloc _, At.new_at (by simp), (fun _ h => nomatch h), (fun _ h => nomatch h), (((Below.refl w.heap.size w).alloc (Nat.le_refl _) _).alloc (by simp) _).alloc (by simp; omega) _⟩
theorem SbW.addX (h : SbW w key i e j f ta tb LB LX W) (x : List Value) : SbW w key i e j f ta tb LB ((W.heap.size, x) :: LX) ((W.alloc (.cells (sv 0 n32 n16).toArray 31)).setRow W.heap.size x.toArray) :=
  have hb := ps_stored_below W x
  ⟨h.k.new_ hb, h.p.new_ hb, h.n.new_ hb, fun q hq => (h.bs q hq).new_ hb, fun q hq => (List.mem_cons.1 hq).elim (fun e => e ▸ ps_stored W x) (fun hq => (h.xs q hq).new_ hb), h.below.trans (hb.mono h.below.size)⟩
theorem SbW.addB (h : SbW w key i e j f ta tb LB LX W) (b : List UInt8) : SbW w key i e j f ta tb ((W.heap.size, b) :: LB) LX ((W.alloc (.cells (ubs n32).toArray 28)).setRow W.heap.size (ubs b).toArray) :=
  have hb := blk_stored_below W b
  ⟨h.k.new_ hb, h.p.new_ hb, h.n.new_ hb, fun q hq => (List.mem_cons.1 hq).elim (fun e => e ▸ blk_stored_at W b) (fun hq => (h.bs q hq).new_ hb), fun q hq => (h.xs q hq).new_ hb, h.below.trans (hb.mono h.below.size)⟩
theorem SbW.n0 (h : SbW w key i e j f ta tb LB LX W) : W.cell? ⟨w.heap.size + 2, 0, none⟩ = some (.int .i64 ta) := by rw [h.n.cell]; rfl
theorem SbW.n1 (h : SbW w key i e j f ta tb LB LX W) : W.cell? ⟨w.heap.size + 2, 1, none⟩ = some (.int .i64 tb) := by rw [h.n.cell]; rfl
end
/-- What the comparing region yields: the place is right there, or it isn't. -/
def bmF (A X j e : Nat) (R1 : Bool) (key d g1 t : List UInt8) (T1 : Bool) : Nat → Value
  | 0 => .pointer (some ⟨A, 2, none⟩)
  | 1 => .pointer (some ⟨A, 2, none⟩)
  | 2 => .int .u64 (j : Int)
  | 3 => .pointer (some ⟨X, 0, none⟩)
  | 4 => .int .u64 (e : Int)
  | 5 => .bool R1
  | 6 => .bool R1
  | 7 => bif R1 then .agg (ubs key).toArray else undef
  | 8 => bif R1 then .pointer (some ⟨A, 2, none⟩) else undef
  | 9 => bif R1 then .pointer (some ⟨A, 2, none⟩) else undef
  | 10 => bif R1 then .int .u64 (j : Int) else undef
  | 11 => bif R1 then .pointer (some ⟨X, 0, none⟩) else undef
  | 12 => bif R1 then .int .u64 (e : Int) else undef
  | 13 => bif R1 then .pointer (some ⟨X, 1, none⟩) else undef
  | 14 => bif R1 then .agg (ubs d).toArray else undef
  | 15 => bif R1 then .agg (ubs g1).toArray else undef
  | 16 => bif R1 then .pointer (some ⟨X, 33, none⟩) else undef
  | 17 => bif R1 then .agg (ubs t).toArray else undef
  | 18 => bif R1 then .bool T1 else undef
  | _ => .bool (R1 && T1)
/-- What the turning region yields. -/
def btF (g cc kk q jb : Nat) (v0 bit y1 : UInt8) : Nat → Value
  | 0 => .slice (some ⟨g, 0, none⟩) 56 cc
  | 1 => .int .i64 (kk : Int)
  | 2 => .int .i64 (q : Int)
  | 3 => .pointer (some ⟨g, q, none⟩)
  | 4 => .int .u8 (v0.toNat : Int)
  | 5 => .int .i64 (kk : Int)
  | 6 => .int .i64 (jb : Int)
  | 7 => .int .u8 (bit.toNat : Int)
  | 8 => .int .u8 (y1.toNat : Int)
  | _ => .pointer (some ⟨g, q, none⟩)
/-- What the last comparing region yields: the bit stands ahead of the tag, or not; the place is right then, or not. -/
def bkF (A Y i e kk q : Nat) (K R2 : Bool) (key d g2 t : List UInt8) (T2 : Bool) : Nat → Value
  | 0 => .int .i64 (kk : Int)
  | 1 => .int .i64 (q : Int)
  | 2 => .bool K
  | 3 => .bool K
  | 4 => bif K then .pointer (some ⟨A, 0, none⟩) else undef
  | 5 => bif K then .pointer (some ⟨A, 0, none⟩) else undef
  | 6 => bif K then .int .u64 (i : Int) else undef
  | 7 => bif K then .pointer (some ⟨Y, 0, none⟩) else undef
  | 8 => bif K then .int .u64 (e : Int) else undef
  | 9 => bif K then .bool R2 else undef
  | 10 => .bool (K && R2)
  | 11 => .bool (K && R2)
  | 12 => bif (K && R2) then .agg (ubs key).toArray else undef
  | 13 => bif (K && R2) then .pointer (some ⟨A, 0, none⟩) else undef
  | 14 => bif (K && R2) then .pointer (some ⟨A, 0, none⟩) else undef
  | 15 => bif (K && R2) then .int .u64 (i : Int) else undef
  | 16 => bif (K && R2) then .pointer (some ⟨Y, 0, none⟩) else undef
  | 17 => bif (K && R2) then .int .u64 (e : Int) else undef
  | 18 => bif (K && R2) then .pointer (some ⟨Y, 1, none⟩) else undef
  | 19 => bif (K && R2) then .agg (ubs d).toArray else undef
  | 20 => bif (K && R2) then .agg (ubs g2).toArray else undef
  | 21 => bif (K && R2) then .pointer (some ⟨Y, 33, none⟩) else undef
  | 22 => bif (K && R2) then .agg (ubs t).toArray else undef
  | 23 => bif (K && R2) then .bool T2 else undef
  | _ => .bool (K && (R2 && T2))
set_option maxRecDepth 100000 in
set_option maxHeartbeats 8000000 in
theorem sealBack_law (key : List UInt8) (i e j f : Nat) (ta tb : Int) (w : World) (hk : key.length = 16) (hi : i < 18446744073709551616) (he : e < 18446744073709551616) (hj : j < 18446744073709551616) (hT : Tabs w) (hR : Tabr w) (hI : Tab w 0 IV.l) :
    Calls Tryd.prog 5 #[.agg (ubs key).toArray, .agg #[.int .u64 (i : Int), .int .u64 (e : Int), .int .u64 (j : Int), .int .u64 (f : Int)], .agg #[.int .i64 ta, .int .i64 tb]] w fun r w' => r = .returned (.bool true) ∧ Below w.heap.size w w' := by
  have HAL := hid (fun (W : World) (h : Below w.heap.size w W) => alive7_any W (hT.below h))
  have HN := hid (fun (W : World) (h : Below w.heap.size w W) => pnew_any key W hk (hT.below h))
  have H0 := hid (SbW.start w key i e j f ta tb)
  have HZK := hid (show (Tryd.prog.info? 23).map (·.size) = some (ubs key).toArray.size from sizeKey_of hk)
  have hz := noughts32
  have HAS := hid (fun (o : Oper) (a : Go.Act) (W : World) (h : o.op = .alloc 31) => run_alloc_of (o := o) (a := a) (W := W) _ h _ zeroPs)
  have HZ0 := hid (sv_length 0 n32 n16 n32_length n16_length)
  have HZA := hid (sv_all 0 n32 n16)
  have HN3 := hid n32_length
  have HN1 := hid n16_length
  obtain ⟨x0, hx0⟩ : ∃ x : UInt8, ta % 256 = (x.toNat : Int) := byte_of ta
  obtain ⟨y0, hy0⟩ : ∃ y : UInt8, tb % 256 = (y.toNat : Int) := byte_of tb
  have hbl := bk3_length x0 y0
  obtain ⟨b, hb⟩ : ∃ b, b = bk3 x0 y0 := ⟨_, rfl⟩
  rw [← hb] at hbl
  have HBB := hid (fun (o : Oper) (a : Go.Act) (W : World) (p q : Operand) (ho : o.op = .build 28 #[(0, p), (1, q), (31, .const (.int .u8 7))]) (hx : a.eval p = .int .u8 (ta % 256)) (hy : a.eval q = .int .u8 (tb % 256)) => run_build_bk3 (W := W) p q ho x0 y0 (by rw [hx, hx0]) (by rw [hy, hy0]))
  rw [← hb] at HBB
  clear hb hx0 hy0
  have HZB := hid (sizeBk_of hbl)
  have HBL := hid hbl
  have HNL := hid (show (ubs n32).toArray.size = (ubs b).toArray.size by simp [ubs_length, n32_length, hbl])
  cases hr : rightB i e with
  | false =>
    have HS1 := hid (fun (W : World) (S : Nat) (hs : SlA W key S) (h : Below w.heap.size w W) => pseal_no hr hbl he hs (hT.below h))
    clear hk hi he hj hT hR hI hr hbl
    obtain ⟨x, hx⟩ : ∃ x, x = sv 0 n32 n16 := ⟨_, rfl⟩
    have HXL := hid HZ0.out
    have HXA := hid HZA.out
    rw [← hx] at HS1 HXL HXA
    have EX := hid hx
    clear hx
    go_enter Tryd.func5, Tryd.ntmps5
    go_wp2_with (first
      | (go_at_call 7; refine (HAL.out _ H0.out.below).mono ?_; rintro r1 w1 ⟨rfl, hb1⟩; have H1 := hid (H0.out.new hb1); clear hb1)
      | (refine wpList_load_row rfl _ (.tmp 3) rfl w.heap.size rfl 23 (ubs key).toArray (0, 0) _ H1.out.k Tryd.underlying23 rfl HZK.out ?_)
      | (go_at_call 8; refine (HN.out w1 H1.out.below).mono ?_; rintro r2 w2 ⟨S, rfl, hs2, hb2⟩; have H2 := hid (H1.out.new hb2); have S2 := hid hs2; have n0 := H2.out.n0; have n1 := H2.out.n1; clear hb2 hs2)
      | (refine wpList_valW (by rfl) (HBB.out _ _ _ (.tmp 24) (.tmp 27) rfl rfl rfl) ?_)
      | (refine wpList_store_row rfl _ (.tmp 8) (.tmp 28) rfl w2.heap.size (ubs b).toArray rfl rfl 28 (ubs n32).toArray (heap_alloc_new _ _) HZB.out HNL.out (ubs_all _) ?_; have H3 := hid (H2.out.addB b); have S3 := hid (S2.out.new (blk_stored_below w2 b)); generalize ((w2.alloc (.cells (ubs n32).toArray 28)).setRow w2.heap.size (ubs b).toArray) = w3 at H3 S3 ⊢; generalize w2.heap.size = B at H3 ⊢; have q0 := pl4_q0 H3.out.p; have q1 := pl4_q1 H3.out.p; clear n0 n1)
      | (refine wpList_valW (by rfl) (run_loadB (.tmp 8) rfl B 0 rfl b (range_whole (H3.out.bs (B, b) (by simp))) HBL.out) ?_)
      | (refine Great.wpList_allocTo rfl _ rfl _ _ (HAS.out _ _ _ rfl) ?_)
      | (go_at_call 9; (with_reducible refine (HS1.out w3 S S3.out H3.out.below).mono ?_); rintro r5 w5 ⟨rfl, hb5⟩; have H5 := hid (H3.out.new hb5); have S5 := hid (S3.out.new hb5); clear hb5)
      | (refine wpList_store_row rfl _ (.tmp 9) (.tmp 39) rfl w5.heap.size x.toArray rfl rfl 31 (sv 0 n32 n16).toArray (heap_alloc_new _ _) (sizePs_of HXL.out) ?e5a HXA.out ?e6a; rotate_right; have H6 := hid (H5.out.addX x); have S6 := hid (S5.out.new (ps_stored_below w5 x)); generalize ((w5.alloc (.cells (sv 0 n32 n16).toArray 31)).setRow w5.heap.size x.toArray) = w6 at H6 S6 ⊢; generalize w5.heap.size = X at H6 ⊢; clear q0 q1; have q0 := pl4_q0 H6.out.p)
      | (refine wpList_valW (by rfl) (run_loadPs (.tmp 9) rfl X rfl x _ (H6.out.xs (X, x) (by simp)) HXL.out) ?_)
      | (refine wpList_valW (by rfl) (run_build_ps0 rfl) ?_)
      | (refine wpList_valW (by rfl) (run_eql_psv _ (.tmp 43) (.tmp 44) rfl 0 0 n32 n32 n16 n16 HN3.out HN3.out HN1.out HN1.out (by rw [← EX.out]; rfl) rfl true (by simp) _) ?_))
    case e5a => simp [HZ0.out, HXL.out]
    go_ret
    exact ⟨rfl, H6.out.below⟩
  | true =>
    obtain ⟨d, hd⟩ : ∃ d, d = turnedL key i e b := ⟨_, rfl⟩
    have hdl : d.length = 32 := by rw [hd, turnedL_length, hbl]
    have hdb : turnedL key i e d = b := by rw [hd, turned_twice]
    obtain ⟨t, ht⟩ : ∃ t, t = tagL key i e d := ⟨_, rfl⟩
    have htl : t.length = 16 := by rw [ht, tagL_length]
    have HS1 := hid (fun (W : World) (S : Nat) (hs : SlA W key S) (h : Below w.heap.size w W) => pseal_ok hr hbl he hs (hT.below h))
    rw [← hd, ← ht] at HS1
    have HIB := hid (fun (W : World) (h : Below w.heap.size w W) => Tab.below (x := IV.a) (xs := [IV.b, IV.c, IV.d, IV.e, IV.f, IV.g, IV.h]) hI h)
    have HO1 := hid (fun (W : World) (S : Nat) (hs : SlA W key S) (h : Below w.heap.size w W) => show Calls Tryd.prog 14 #[.pointer (some ⟨S, 0, none⟩), .int .u64 (i : Int), .agg (sv e d t).toArray] W (fun r w' => r = .returned (.tuple #[.agg (ubs b).toArray, .nilIface]) ∧ Below W.heap.size W w') from by
      have := popen_any key d t i e (some ⟨S, 0, none⟩) W hdl htl he (Or.inr ⟨S, rfl, hs⟩) (hT.below h)
      rw [(openL_same key i e d t hr (by rw [ht]; simp)).1, (openL_same key i e d t hr (by rw [ht]; simp)).2, hdb] at this
      exact this)
    have HO2 := hid (fun (W : World) (S : Nat) (hs : SlA W key S) (h : Below w.heap.size w W) => popen_any key d t j e (some ⟨S, 0, none⟩) W hdl htl he (Or.inr ⟨S, rfl, hs⟩) (hT.below h))
    have HE2 := hid (isE_open key j e d t)
    have HC2 := hid (openL_length key j e d t hdl)
    generalize errV (openN key j e d t) = E2 at HO2 HE2
    generalize openL key j e d t = c2 at HO2 HC2
    have HZC2 := hid (sizeBk_of HC2.out)
    have HNC2 := hid (show (ubs n32).toArray.size = (ubs c2).toArray.size by simp [ubs_length, n32_length, HC2.out])
    have HTG := hid (fun (W : World) (h : Below w.heap.size w W) => tagR_any key d j e W hk hdl hj he (hR.below h) (HIB.out W h))
    have HG1 := hid (tagL_length key j e d)
    generalize tagL key j e d = g1 at HTG HG1 HE2
    have HRJ := hid (fun W => rightR_any j e W)
    generalize rightB j e = R1 at HRJ HE2
    obtain ⟨T1, hT1⟩ : ∃ T1, (g1 == t) = T1 := ⟨_, rfl⟩
    rw [hT1] at HE2
    have HT1 := hid hT1
    have HPU := hid (fun (W : World) => pput_any d t e W hdl htl he)
    obtain ⟨kk, hkk, hkn⟩ := kk_of7 ta
    obtain ⟨q, hq⟩ : ∃ q, q = kk / 8 := ⟨_, rfl⟩
    obtain ⟨jb, hjb⟩ : ∃ j, j = kk % 8 := ⟨_, rfl⟩
    have HQ := hid (show (kk : Int).tdiv 8 = (q : Int) by rw [Int.tdiv_eq_ediv_of_nonneg (by omega)]; omega)
    have HJ := hid (show (kk : Int).tmod 8 = (jb : Int) by rw [Int.tmod_eq_emod_of_nonneg (by omega)]; omega)
    have hq56 : q < 56 := by omega
    have hj8 : jb < 8 := by omega
    have HQ56 := hid hq56
    have HSH := hid (b_shl7 5 jb hj8)
    have hb0 := bitN7_ne jb hj8
    generalize bitN7 jb = bit at HSH hb0
    have hpl := putL7_length e d t hdl htl
    have hpt := fun h1 h2 h3 => turned_tag e d t hdl htl he q bit h1 h2 h3
    obtain ⟨v0, hv0⟩ : ∃ v, v = (putL7 e d t).getD q 0 := ⟨_, rfl⟩
    rw [← hv0] at hpt
    have HXO := hid (b_xor 5 v0 bit)
    obtain ⟨y1, hy1⟩ : ∃ y, y = v0 ^^^ bit := ⟨_, rfl⟩
    rw [← hy1] at HXO hpt
    generalize putL7 e d t = pl at HPU hpl hv0 hpt
    have HV0 := hid hv0
    have HPL := hid hpl
    obtain ⟨bs, hbs⟩ : ∃ l, l = pl.set q y1 := ⟨_, rfl⟩
    have HBS := hid hbs
    replace hpt := fun h1 h2 h3 => hpt h1 h2 h3 bs hbs
    have hbsl : bs.length = 56 := by rw [hbs, List.length_set, hpl]
    obtain ⟨he', hdl', htl'⟩ := parts56 bs hbsl
    have HPA := hid (fun (W : World) (A : Option Addr) (c : Nat) (hx : Rb W W.heap.size A bs) => show Calls Tryd.prog 20 #[.slice A 56 c] W (fun r w' => r = .returned (.tuple #[.agg (sv (val (bs.take 8)) ((bs.drop 8).take 32) ((bs.drop 40).take 16)).toArray, .nilIface]) ∧ Below W.heap.size W w') from pparse_any bs A c W hx hbsl)
    generalize val (bs.take 8) = e' at hpt he' HPA
    generalize (bs.drop 8).take 32 = d' at hpt hdl' HPA
    generalize (bs.drop 40).take 16 = t' at hpt htl' HPA
    have HO3 := hid (fun (W : World) (S : Nat) (hs : SlA W key S) (h : Below w.heap.size w W) => popen_any key d' t' i e' (some ⟨S, 0, none⟩) W hdl' htl' he' (Or.inr ⟨S, rfl, hs⟩) (hT.below h))
    obtain ⟨K8, hK⟩ : ∃ K8, decide (q < 40) = K8 := ⟨_, rfl⟩
    have HKD := hid (show decide ((q : Int) < 40) = K8 by rw [← hK]; exact decide_eq_decide.2 (by omega))
    have he3 : isE (errV (openN key i e' d' t')) (K8 && (rightB i e' && (tagL key i e' d' == t'))) := by
      cases K8 with
      | true => exact isE_open key i e' d' t'
      | false =>
        obtain ⟨p1, p2, p3⟩ := hpt (by have := of_decide_eq_false hK; omega) hq56 hb0
        have h1 := isE_open key i e' d' t'
        have h2 : (tagL key i e' d' == t') = false := by rw [p1, p2, ← ht]; exact beq_eq_false_iff_ne.2 (Ne.symm p3)
        rw [h2, Bool.and_false] at h1
        exact h1
    have HE3 := hid he3
    generalize errV (openN key i e' d' t') = E3 at HO3 HE3
    generalize openL key i e' d' t' = c3 at HO3
    have HTG2 := hid (fun (W : World) (h : Below w.heap.size w W) => tagR_any key d' i e' W hk hdl' hi he' (hR.below h) (HIB.out W h))
    have HG2 := hid (tagL_length key i e' d')
    generalize tagL key i e' d' = g2 at HTG2 HG2 HE3
    have HRI2 := hid (fun W => rightR_any i e' W)
    generalize rightB i e' = R2 at HRI2 HE3
    obtain ⟨T2, hT2⟩ : ∃ T, (g2 == t') = T := ⟨_, rfl⟩
    rw [hT2] at HE3
    have HT2 := hid hT2
    have HDL2 := hid hdl'
    have HTL2 := hid htl'
    have HYL := hid (sv_length e' d' t' hdl' htl')
    have HYA := hid (sv_all e' d' t')
    obtain ⟨y, hy⟩ : ∃ y, y = sv e' d' t' := ⟨_, rfl⟩
    rw [← hy] at HPA HO3 HYL HYA
    have EY := hid hy
    have HAT2 := hid (fun (W : World) (Y : Nat) (h : At W Y y.toArray 31) => show At W Y (sv e' d' t').toArray 31 by rw [← EY.out]; exact h)
    have HKN := hid hkn
    clear hT1 hkk hkn hq hjb hq56 hj8 hb0 hpl hpt hv0 hy1 hbs hbsl he' hdl' htl' hK he3 hT2 hy
    have HXL := hid (sv_length e d t hdl htl)
    have HXA := hid (sv_all e d t)
    have HDL := hid hdl
    have HTL := hid htl
    have HKL := hid hk
    obtain ⟨x, hx⟩ : ∃ x, x = sv e d t := ⟨_, rfl⟩
    rw [← hx] at HS1 HXL HXA HO1 HO2 HPU
    have EX := hid hx
    have HAT := hid (fun (W : World) (X : Nat) (h : At W X x.toArray 31) => show At W X (sv e d t).toArray 31 by rw [← EX.out]; exact h)
    clear hk hi he hj hT hR hI hr hbl hd hdl hdb ht htl hx HIB
    go_enter Tryd.func5, Tryd.ntmps5
    go_wp2_with (first
      | (go_at_call 7; refine (HAL.out _ H0.out.below).mono ?_; rintro r1 w1 ⟨rfl, hb1⟩; have H1 := hid (H0.out.new hb1); clear hb1)
      | (refine wpList_load_row rfl _ (.tmp 3) rfl w.heap.size rfl 23 (ubs key).toArray (0, 0) _ H1.out.k Tryd.underlying23 rfl HZK.out ?_)
      | (go_at_call 8; refine (HN.out w1 H1.out.below).mono ?_; rintro r2 w2 ⟨S, rfl, hs2, hb2⟩; have H2 := hid (H1.out.new hb2); have S2 := hid hs2; have n0 := H2.out.n0; have n1 := H2.out.n1; clear hb2 hs2)
      | (refine wpList_valW (by rfl) (HBB.out _ _ _ (.tmp 24) (.tmp 27) rfl rfl rfl) ?_)
      | (refine wpList_store_row rfl _ (.tmp 8) (.tmp 28) rfl w2.heap.size (ubs b).toArray rfl rfl 28 (ubs n32).toArray (heap_alloc_new _ _) HZB.out HNL.out (ubs_all _) ?_; have H3 := hid (H2.out.addB b); have S3 := hid (S2.out.new (blk_stored_below w2 b)); generalize ((w2.alloc (.cells (ubs n32).toArray 28)).setRow w2.heap.size (ubs b).toArray) = w3 at H3 S3 ⊢; generalize w2.heap.size = B at H3 ⊢; have q0 := pl4_q0 H3.out.p; have q1 := pl4_q1 H3.out.p; clear n0 n1)
      | (refine wpList_valW (by rfl) (run_loadB (.tmp 8) rfl B 0 rfl b (range_whole (H3.out.bs (B, b) (by simp))) HBL.out) ?_)
      | (refine Great.wpList_allocTo rfl _ rfl _ _ (HAS.out _ _ _ rfl) ?_)
      | (go_at_call 9; (with_reducible refine (HS1.out w3 S S3.out H3.out.below).mono ?_); rintro r5 w5 ⟨rfl, hb5⟩; have H5 := hid (H3.out.new hb5); have S5 := hid (S3.out.new hb5); clear hb5)
      | (refine wpList_store_row rfl _ (.tmp 9) (.tmp 39) rfl w5.heap.size x.toArray rfl rfl 31 (sv 0 n32 n16).toArray (heap_alloc_new _ _) (sizePs_of HXL.out) ?e5b HXA.out ?e6b; rotate_right; have H6 := hid (H5.out.addX x); have S6 := hid (S5.out.new (ps_stored_below w5 x)); generalize ((w5.alloc (.cells (sv 0 n32 n16).toArray 31)).setRow w5.heap.size x.toArray) = w6 at H6 S6 ⊢; generalize w5.heap.size = X at H6 ⊢; clear q0 q1; have q0 := pl4_q0 H6.out.p)
      | (go_at_call 14; (with_reducible refine (HO1.out w6 S S6.out H6.out.below).mono ?_); rintro r7 w7 ⟨rfl, hb7⟩; have H7 := hid (H6.out.new hb7); have S7 := hid (S6.out.new hb7); clear hb7)
      | (refine wpList_store_row rfl _ (.tmp 11) (.tmp 53) rfl w7.heap.size (ubs b).toArray rfl rfl 28 (ubs n32).toArray (heap_alloc_new _ _) HZB.out HNL.out (ubs_all _) ?_; have H8 := hid (H7.out.addB b); have S8 := hid (S7.out.new (blk_stored_below w7 b)); generalize ((w7.alloc (.cells (ubs n32).toArray 28)).setRow w7.heap.size (ubs b).toArray) = w8 at H8 S8 ⊢; generalize w7.heap.size = C at H8 ⊢; clear q0)
      | (refine wpList_valW (by rfl) (run_loadPs (.tmp 9) rfl X rfl x _ (H6.out.xs (X, x) (by simp)) HXL.out) ?_)
      | (refine wpList_valW (by rfl) (run_loadB (.tmp 11) rfl C 0 rfl b (range_whole (H8.out.bs (C, b) (by simp))) HBL.out) ?_)
      | (refine wpList_valW (by rfl) (run_loadB (.tmp 8) rfl B 0 rfl b (range_whole (H8.out.bs (B, b) (by simp))) HBL.out) ?_)
      | (refine wpList_valW (by rfl) (run_neqB _ (.tmp 58) (.tmp 59) rfl b b HBL.out HBL.out rfl rfl false (by simp) _) ?_))
    case e5b => simp [HZ0.out, HXL.out]
    try simp only [Act.put, List.setIfInBounds_toArray, List.set_cons_succ, List.set_cons_zero]
    refine wp_region_facts 21 21 [62, 63, 64, 65, 66, 67, 68, 69, 70, 71, 72, 73, 74, 75, 76, 77, 78, 79, 80, 81, 12] (fun k v _ => v = bmF (w.heap.size + 1) X j e R1 key d g1 t T1 k) (fun W => SbW w key i e j f ta tb [(C, b), (B, b)] [(X, x)] W ∧ SlA W key S) (by kernel_rfl) (by kernel_rfl)
      (fun W W' h hb => ⟨h.1.new hb, h.2.new hb⟩) (fun _ _ _ _ h _ => h) (⟨H8.out.drew, S8.out.drew⟩) ?_ ?_
    · intro i hi vals W K hB hn hK
      simp only [frm_cons, frm_nil, List.set_cons_succ, List.set_cons_zero, Nat.reduceAdd] at hK ⊢
      rcases (by omega : i = 0 ∨ i = 1 ∨ i = 2 ∨ i = 3 ∨ i = 4 ∨ i = 5 ∨ i = 6 ∨ i = 7 ∨ i = 8 ∨ i = 9 ∨ i = 10 ∨ i = 11 ∨ i = 12 ∨ i = 13 ∨ i = 14 ∨ i = 15 ∨ i = 16 ∨ i = 17 ∨ i = 18 ∨ i = 19 ∨ i = 20) with rfl | rfl | rfl | rfl | rfl | rfl | rfl | rfl | rfl | rfl | rfl | rfl | rfl | rfl | rfl | rfl | rfl | rfl | rfl | rfl | rfl
      · refine wpOp_plain rfl rfl (wp_val (w' := W) (v := .pointer (some ⟨w.heap.size + 1, 2, none⟩)) (by go_simp) ?_)
        exact hK _ _ rfl (Below.refl _ _)
      · have h0 := hn 0 (by decide +kernel)
        simp only [bmF] at h0
        simp only [h0] at hK ⊢
        refine wpOp_plain rfl rfl (wp_val (w' := W) (v := .pointer (some ⟨w.heap.size + 1, 2, none⟩)) (by go_simp) ?_)
        exact hK _ _ rfl (Below.refl _ _)
      · have h1 := hn 1 (by decide +kernel)
        simp only [bmF] at h1
        simp only [h1] at hK ⊢
        have q := pl4_q2 hB.1.p
        refine wpOp_plain rfl rfl (wp_val (w' := W) (v := .int .u64 (j : Int)) (by go_simp) ?_)
        exact hK _ _ rfl (Below.refl _ _)
      · refine wpOp_plain rfl rfl (wp_val (w' := W) (v := .pointer (some ⟨X, 0, none⟩)) (by go_simp) ?_)
        exact hK _ _ rfl (Below.refl _ _)
      · have h3 := hn 3 (by decide +kernel)
        simp only [bmF] at h3
        simp only [h3] at hK ⊢
        have q := sv_epoch (HAT.out W X (hB.1.xs (X, x) (by simp)))
        refine wpOp_plain rfl rfl (wp_val (w' := W) (v := .int .u64 (e : Int)) (by go_simp) ?_)
        exact hK _ _ rfl (Below.refl _ _)
      · have h2 := hn 2 (by decide +kernel)
        have h4 := hn 4 (by decide +kernel)
        simp only [bmF] at h2 h4
        simp only [h2, h4] at hK ⊢
        refine wpOp_plain rfl rfl ?_
        go_simp
        go_at_call 17
        refine (HRJ.out W).mono ?_
        rintro e W' ⟨rfl, rfl⟩
        exact hK _ _ rfl (Below.refl _ _)
      · have h5 := hn 5 (by decide +kernel)
        simp only [bmF] at h5
        simp only [h5] at hK ⊢
        refine wpOp_plain rfl rfl (wp_val (w' := W) (v := .bool R1) (by go_simp) ?_)
        exact hK _ _ rfl (Below.refl _ _)
      · have h6 := hn 6 (by decide +kernel)
        simp only [bmF] at h6
        simp only [h6] at hK ⊢
        cases R1 with
        | false =>
          refine wpOp_off rfl (by rfl) ?_
          exact hK _ _ rfl (Below.refl _ _)
        | true =>
          refine wpOp_on rfl (by rfl) (wp_val (run_loadK (.tmp 3) rfl w.heap.size 0 rfl key (range_whole hB.1.k) HKL.out) ?_)
          exact hK _ _ rfl (Below.refl _ _)
      · have h6 := hn 6 (by decide +kernel)
        simp only [bmF] at h6
        simp only [h6] at hK ⊢
        cases R1 with
        | false =>
          refine wpOp_off rfl (by rfl) ?_
          exact hK _ _ rfl (Below.refl _ _)
        | true =>
          refine wpOp_on rfl (by rfl) (wp_val (w' := W) (v := .pointer (some ⟨w.heap.size + 1, 2, none⟩)) (by go_simp) ?_)
          exact hK _ _ rfl (Below.refl _ _)
      · have h6 := hn 6 (by decide +kernel)
        simp only [bmF] at h6
        simp only [h6] at hK ⊢
        cases R1 with
        | false =>
          refine wpOp_off rfl (by rfl) ?_
          exact hK _ _ rfl (Below.refl _ _)
        | true =>
          have h8 := hn 8 (by decide +kernel)
          simp only [bmF, cond_true] at h8
          simp only [h8] at hK ⊢
          refine wpOp_on rfl (by rfl) (wp_val (w' := W) (v := .pointer (some ⟨w.heap.size + 1, 2, none⟩)) (by go_simp) ?_)
          exact hK _ _ rfl (Below.refl _ _)
      · have h6 := hn 6 (by decide +kernel)
        simp only [bmF] at h6
        simp only [h6] at hK ⊢
        cases R1 with
        | false =>
          refine wpOp_off rfl (by rfl) ?_
          exact hK _ _ rfl (Below.refl _ _)
        | true =>
          have h9 := hn 9 (by decide +kernel)
          simp only [bmF, cond_true] at h9
          simp only [h9] at hK ⊢
          have q := pl4_q2 hB.1.p
          refine wpOp_on rfl (by rfl) (wp_val (w' := W) (v := .int .u64 (j : Int)) (by go_simp) ?_)
          exact hK _ _ rfl (Below.refl _ _)
      · have h6 := hn 6 (by decide +kernel)
        simp only [bmF] at h6
        simp only [h6] at hK ⊢
        cases R1 with
        | false =>
          refine wpOp_off rfl (by rfl) ?_
          exact hK _ _ rfl (Below.refl _ _)
        | true =>
          refine wpOp_on rfl (by rfl) (wp_val (w' := W) (v := .pointer (some ⟨X, 0, none⟩)) (by go_simp) ?_)
          exact hK _ _ rfl (Below.refl _ _)
      · have h6 := hn 6 (by decide +kernel)
        simp only [bmF] at h6
        simp only [h6] at hK ⊢
        cases R1 with
        | false =>
          refine wpOp_off rfl (by rfl) ?_
          exact hK _ _ rfl (Below.refl _ _)
        | true =>
          have h11 := hn 11 (by decide +kernel)
          simp only [bmF, cond_true] at h11
          simp only [h11] at hK ⊢
          have q := sv_epoch (HAT.out W X (hB.1.xs (X, x) (by simp)))
          refine wpOp_on rfl (by rfl) (wp_val (w' := W) (v := .int .u64 (e : Int)) (by go_simp) ?_)
          exact hK _ _ rfl (Below.refl _ _)
      · have h6 := hn 6 (by decide +kernel)
        simp only [bmF] at h6
        simp only [h6] at hK ⊢
        cases R1 with
        | false =>
          refine wpOp_off rfl (by rfl) ?_
          exact hK _ _ rfl (Below.refl _ _)
        | true =>
          refine wpOp_on rfl (by rfl) (wp_val (w' := W) (v := .pointer (some ⟨X, 1, none⟩)) (by go_simp) ?_)
          exact hK _ _ rfl (Below.refl _ _)
      · have h6 := hn 6 (by decide +kernel)
        simp only [bmF] at h6
        simp only [h6] at hK ⊢
        cases R1 with
        | false =>
          refine wpOp_off rfl (by rfl) ?_
          exact hK _ _ rfl (Below.refl _ _)
        | true =>
          have h13 := hn 13 (by decide +kernel)
          simp only [bmF, cond_true] at h13
          simp only [h13] at hK ⊢
          refine wpOp_on rfl (by rfl) (wp_val (run_loadB (.tmp 75) rfl X 1 rfl d (sv_data (HAT.out W X (hB.1.xs (X, x) (by simp)))) HDL.out) ?_)
          exact hK _ _ rfl (Below.refl _ _)
      · have h6 := hn 6 (by decide +kernel)
        simp only [bmF] at h6
        simp only [h6] at hK ⊢
        cases R1 with
        | false =>
          refine wpOp_off rfl (by rfl) ?_
          exact hK _ _ rfl (Below.refl _ _)
        | true =>
          have h7 := hn 7 (by decide +kernel)
          have h10 := hn 10 (by decide +kernel)
          have h12 := hn 12 (by decide +kernel)
          have h14 := hn 14 (by decide +kernel)
          simp only [bmF, cond_true] at h7 h10 h12 h14
          simp only [h7, h10, h12, h14] at hK ⊢
          refine wpOp_on rfl (by rfl) ?_
          go_simp
          go_at_call 18
          refine (HTG.out W hB.1.below).mono ?_
          rintro e W' ⟨rfl, hb⟩
          exact hK _ _ rfl hb
      · have h6 := hn 6 (by decide +kernel)
        simp only [bmF] at h6
        simp only [h6] at hK ⊢
        cases R1 with
        | false =>
          refine wpOp_off rfl (by rfl) ?_
          exact hK _ _ rfl (Below.refl _ _)
        | true =>
          refine wpOp_on rfl (by rfl) (wp_val (w' := W) (v := .pointer (some ⟨X, 33, none⟩)) (by go_simp) ?_)
          exact hK _ _ rfl (Below.refl _ _)
      · have h6 := hn 6 (by decide +kernel)
        simp only [bmF] at h6
        simp only [h6] at hK ⊢
        cases R1 with
        | false =>
          refine wpOp_off rfl (by rfl) ?_
          exact hK _ _ rfl (Below.refl _ _)
        | true =>
          have h16 := hn 16 (by decide +kernel)
          simp only [bmF, cond_true] at h16
          simp only [h16] at hK ⊢
          refine wpOp_on rfl (by rfl) (wp_val (run_load16 (.tmp 78) rfl X 33 rfl t (sv_tag (HAT.out W X (hB.1.xs (X, x) (by simp))) HDL.out) HTL.out) ?_)
          exact hK _ _ rfl (Below.refl _ _)
      · have h6 := hn 6 (by decide +kernel)
        simp only [bmF] at h6
        simp only [h6] at hK ⊢
        cases R1 with
        | false =>
          refine wpOp_off rfl (by rfl) ?_
          exact hK _ _ rfl (Below.refl _ _)
        | true =>
          have h15 := hn 15 (by decide +kernel)
          have h17 := hn 17 (by decide +kernel)
          simp only [bmF, cond_true] at h15 h17
          simp only [h15, h17] at hK ⊢
          refine wpOp_on rfl (by rfl) (wp_val (run_eql16 _ (.tmp 77) (.tmp 79) rfl g1 t HG1.out HTL.out rfl rfl T1 HT1.out W) ?_)
          exact hK _ _ rfl (Below.refl _ _)
      · have h6 := hn 6 (by decide +kernel)
        simp only [bmF] at h6
        simp only [h6] at hK ⊢
        cases R1 with
        | false =>
          refine wpOp_plain rfl rfl (wp_val (w' := W) (v := .bool false) (by go_simp) ?_)
          exact hK _ _ rfl (Below.refl _ _)
        | true =>
          have h18 := hn 18 (by decide +kernel)
          simp only [bmF, cond_true] at h18
          simp only [h18] at hK ⊢
          refine wpOp_plain rfl rfl (wp_val (w' := W) (v := .bool T1) (by go_simp) ?_)
          exact hK _ _ rfl (Below.refl _ _)
      · have h19 := hn 19 (by decide +kernel)
        simp only [bmF] at h19
        simp only [h19] at hK ⊢
        refine wpOp_plain rfl rfl (wp_val (w' := W) (v := .bool (R1 && T1)) (by go_simp) ?_)
        exact hK _ _ rfl (Below.refl _ _)
    · intro vals W hB hF
      have h20 := hF 20 (by omega)
      simp only [bmF] at h20
      simp only [frm_cons, frm_nil, List.set_cons_succ, List.set_cons_zero, Nat.reduceAdd, h20]
      refine wpUpto_done (by decide +kernel) ?_ _
      have H9 := hid hB.1
      have S9 := hid hB.2
      clear hB hF h20 H8 S8 HTG HRJ
      generalize (R1 && T1) = M1 at HE2 ⊢
      have hmm : (M1 != M1) = false := by simp
      have q2 := pl4_q2 H9.out.p
      go_simp
      go_wp2_with (first
        | (refine wpList_valW (by rfl) (run_loadPs (.tmp 9) rfl X rfl x _ (H9.out.xs (X, x) (by simp)) HXL.out) ?_)
        | (go_at_call 14; (with_reducible refine (HO2.out W S S9.out H9.out.below).mono ?_); rintro r10 w10 ⟨rfl, hb10⟩; have H10 := hid (H9.out.new hb10); have S10 := hid (S9.out.new hb10); clear hb10)
        | (refine wpList_store_row rfl _ (.tmp 13) (.tmp 89) rfl w10.heap.size (ubs c2).toArray rfl rfl 28 (ubs n32).toArray (heap_alloc_new _ _) HZC2.out HNC2.out (ubs_all _) ?_; have H11 := hid (H10.out.addB c2); have S11 := hid (S10.out.new (blk_stored_below w10 c2)); generalize ((w10.alloc (.cells (ubs n32).toArray 28)).setRow w10.heap.size (ubs c2).toArray) = w11 at H11 S11 ⊢; generalize w10.heap.size = D at H11 ⊢; clear q2)
        | (refine wpList_valW (by rfl) (run_eqlE _ 91 rfl E2 M1 rfl HE2.out _) ?_)
        | (refine wpList_valW (by rfl) (run_loadPs (.tmp 9) rfl X rfl x _ (H11.out.xs (X, x) (by simp)) HXL.out) ?_)
        | (go_at_call 19; refine (HPU.out w11).mono ?_; rintro r12 w12 ⟨g, cc, cur, rfl, hg, hA, hC, hb⟩; have H12 := hid (H11.out.new hb); have S12 := hid (S11.out.new hb); have G12 := hid hA; have GC := hid hC; have GG := hid hg; have HB12 := hid hb; have n0 := H12.out.n0; clear hg hA hC hb))
      rw [HKN.out]
      clear hmm n0 H9 S9 H10 S10 HPU HO1 HO2 HS1 HE2
      try simp only [Act.put, List.setIfInBounds_toArray, List.set_cons_succ, List.set_cons_zero]
      refine wp_region_facts 10 11 [105, 106, 107, 108, 109, 110, 111, 112, 113, 114] (fun k v _ => v = btF g cc kk q jb v0 bit y1 k) (fun W => Below w11.heap.size w11 W ∧ At W g cur 5) (by kernel_rfl) (by kernel_rfl)
        (fun W W' h hb => ⟨h.1.trans (hb.mono h.1.size), h.2.new_ hb⟩) (fun _ _ _ _ h _ => h) (⟨HB12.out.drew, G12.out⟩) ?_ ?_
      · intro i hi vals W K hB hn hK
        simp only [frm_cons, frm_nil, List.set_cons_succ, List.set_cons_zero, Nat.reduceAdd] at hK ⊢
        rcases (by omega : i = 0 ∨ i = 1 ∨ i = 2 ∨ i = 3 ∨ i = 4 ∨ i = 5 ∨ i = 6 ∨ i = 7 ∨ i = 8 ∨ i = 9) with rfl | rfl | rfl | rfl | rfl | rfl | rfl | rfl | rfl | rfl
        · refine wpOp_plain rfl rfl (wp_val (w' := W) (v := .slice (some ⟨g, 0, none⟩) 56 cc) (by go_simp) ?_)
          exact hK _ _ rfl (Below.refl _ _)
        · refine wpOp_plain rfl rfl (wp_val (w' := W) (v := .int .i64 (kk : Int)) (by go_simp) ?_)
          exact hK _ _ rfl (Below.refl _ _)
        · have h1 := hn 1 (by decide +kernel)
          simp only [btF] at h1
          simp only [h1] at hK ⊢
          have hq2 := HQ.out
          have hq56 := HQ56.out
          refine wpOp_plain rfl rfl (wp_val (w' := W) (v := .int .i64 (q : Int)) (by go_simp; rw [IntKind.wrap_i64]; omega) ?_)
          exact hK _ _ rfl (Below.refl _ _)
        · have h0 := hn 0 (by decide +kernel)
          have h2 := hn 2 (by decide +kernel)
          simp only [btF] at h0 h2
          simp only [h0, h2] at hK ⊢
          have hq56 := HQ56.out
          refine wpOp_plain rfl rfl (wp_val (w' := W) (v := .pointer (some ⟨g, q, none⟩)) (by go_simp; exact fun h => absurd h (by omega)) ?_)
          exact hK _ _ rfl (Below.refl _ _)
        · have h3 := hn 3 (by decide +kernel)
          simp only [btF] at h3
          simp only [h3] at hK ⊢
          have c0 := row56_cell hB.2 GC.out HPL.out HQ56.out
          rw [← HV0.out] at c0
          refine wpOp_plain rfl rfl (wp_val (w' := W) (v := .int .u8 (v0.toNat : Int)) (by go_simp) ?_)
          exact hK _ _ rfl (Below.refl _ _)
        · refine wpOp_plain rfl rfl (wp_val (w' := W) (v := .int .i64 (kk : Int)) (by go_simp) ?_)
          exact hK _ _ rfl (Below.refl _ _)
        · have h5 := hn 5 (by decide +kernel)
          simp only [btF] at h5
          simp only [h5] at hK ⊢
          have hj2 := HJ.out
          refine wpOp_plain rfl rfl (wp_val (w' := W) (v := .int .i64 (jb : Int)) (by go_simp) ?_)
          exact hK _ _ rfl (Below.refl _ _)
        · have h6 := hn 6 (by decide +kernel)
          simp only [btF] at h6
          simp only [h6] at hK ⊢
          have hs2 := HSH.out
          refine wpOp_plain rfl rfl (wp_val (w' := W) (v := .int .u8 (bit.toNat : Int)) (by go_simp) ?_)
          exact hK _ _ rfl (Below.refl _ _)
        · have h4 := hn 4 (by decide +kernel)
          have h7 := hn 7 (by decide +kernel)
          simp only [btF] at h4 h7
          simp only [h4, h7] at hK ⊢
          have hx2 := HXO.out
          refine wpOp_plain rfl rfl (wp_val (w' := W) (v := .int .u8 (y1.toNat : Int)) (by go_simp) ?_)
          exact hK _ _ rfl (Below.refl _ _)
        · have h0 := hn 0 (by decide +kernel)
          have h2 := hn 2 (by decide +kernel)
          simp only [btF] at h0 h2
          simp only [h0, h2] at hK ⊢
          have hq56 := HQ56.out
          refine wpOp_plain rfl rfl (wp_val (w' := W) (v := .pointer (some ⟨g, q, none⟩)) (by go_simp; exact fun h => absurd h (by omega)) ?_)
          exact hK _ _ rfl (Below.refl _ _)
      · intro vals W hB hF
        have h0 := hF 0 (by omega)
        have h1 := hF 1 (by omega)
        have h2 := hF 2 (by omega)
        have h3 := hF 3 (by omega)
        have h4 := hF 4 (by omega)
        have h5 := hF 5 (by omega)
        have h6 := hF 6 (by omega)
        have h7 := hF 7 (by omega)
        have h8 := hF 8 (by omega)
        have h9 := hF 9 (by omega)
        simp only [btF] at h0 h1 h2 h3 h4 h5 h6 h7 h8 h9
        simp only [frm_cons, frm_nil, List.set_cons_succ, List.set_cons_zero, Nat.reduceAdd, h0, h1, h2, h3, h4, h5, h6, h7, h8, h9]
        refine wpUpto_one (i := 10) rfl (by decide +kernel) rfl ?_
        intro Q0 hQ0
        have c0 := row56_cell hB.2 GC.out HPL.out HQ56.out
        rw [← HV0.out] at c0
        have f0 := hB.2.frozen q
        go_simp
        refine hQ0.out _ _ (fun _ => trivial) ?_
        clear hQ0 Q0 c0 f0
        have HB13 := hid (hB.1.setCell (p := ⟨g, q, none⟩) GG.out (.int .u8 (y1.toNat : Int)))
        have RB13 := hid (row56_put hB.2 GC.out q y1)
        rw [← HBS.out] at RB13
        clear hB
        generalize W.setCell ⟨g, q, none⟩ (.int .u8 (y1.toNat : Int)) = w13 at HB13 RB13 ⊢
        have H13 := hid (H11.out.new HB13.out)
        have S13 := hid (S11.out.new HB13.out)
        clear HB13 hF h0 h1 h2 h3 h4 h5 h6 h7 h8 h9 H12 S12 HB12 G12
        refine wpUpto_done (by decide +kernel) ?_ _
        go_simp
        go_wp2_with (first
          | (go_at_call 20; refine (HPA.out w13 (some ⟨g, 0, none⟩) cc RB13.out).mono ?_; rintro r14 w14 ⟨rfl, hb14⟩; have H14 := hid (H13.out.new hb14); have S14 := hid (S13.out.new hb14); clear hb14)
          | (refine Great.wpList_allocTo rfl _ rfl _ _ (HAS.out _ _ _ rfl) ?_)
          | (refine wpList_store_row rfl _ (.tmp 17) (.tmp 118) rfl w14.heap.size y.toArray rfl rfl 31 (sv 0 n32 n16).toArray (heap_alloc_new _ _) (sizePs_of HYL.out) ?e5c HYA.out ?e6c; rotate_right; have H15 := hid (H14.out.addX y); have S15 := hid (S14.out.new (ps_stored_below w14 y)); generalize ((w14.alloc (.cells (sv 0 n32 n16).toArray 31)).setRow w14.heap.size y.toArray) = w15 at H15 S15 ⊢; generalize w14.heap.size = Y at H15 ⊢))
        case e5c => simp [HZ0.out, HYL.out]
        try simp only [Act.put, List.setIfInBounds_toArray, List.set_cons_succ, List.set_cons_zero]
        refine wp_region_facts 26 26 [122, 123, 124, 125, 126, 127, 128, 129, 130, 131, 132, 133, 134, 135, 136, 137, 138, 139, 140, 141, 142, 143, 144, 145, 146, 12] (fun k v _ => v = bkF (w.heap.size + 1) Y i e' kk q K8 R2 key d' g2 t' T2 k) (fun W => SbW w key i e j f ta tb [(D, c2), (C, b), (B, b)] [(Y, y), (X, x)] W ∧ SlA W key S) (by kernel_rfl) (by kernel_rfl)
          (fun W W' h hb => ⟨h.1.new hb, h.2.new hb⟩) (fun _ _ _ _ h _ => h) (⟨H15.out.drew, S15.out.drew⟩) ?_ ?_
        · intro i hi vals W K hB hn hK
          simp only [frm_cons, frm_nil, List.set_cons_succ, List.set_cons_zero, Nat.reduceAdd] at hK ⊢
          rcases (by omega : i = 0 ∨ i = 1 ∨ i = 2 ∨ i = 3 ∨ i = 4 ∨ i = 5 ∨ i = 6 ∨ i = 7 ∨ i = 8 ∨ i = 9 ∨ i = 10 ∨ i = 11 ∨ i = 12 ∨ i = 13 ∨ i = 14 ∨ i = 15 ∨ i = 16 ∨ i = 17 ∨ i = 18 ∨ i = 19 ∨ i = 20 ∨ i = 21 ∨ i = 22 ∨ i = 23 ∨ i = 24 ∨ i = 25) with rfl | rfl | rfl | rfl | rfl | rfl | rfl | rfl | rfl | rfl | rfl | rfl | rfl | rfl | rfl | rfl | rfl | rfl | rfl | rfl | rfl | rfl | rfl | rfl | rfl | rfl
          · refine wpOp_plain rfl rfl (wp_val (w' := W) (v := .int .i64 (kk : Int)) (by go_simp) ?_)
            exact hK _ _ rfl (Below.refl _ _)
          · have h0 := hn 0 (by decide +kernel)
            simp only [bkF] at h0
            simp only [h0] at hK ⊢
            have hq2 := HQ.out
            have hq56 := HQ56.out
            refine wpOp_plain rfl rfl (wp_val (w' := W) (v := .int .i64 (q : Int)) (by go_simp; rw [IntKind.wrap_i64]; omega) ?_)
            exact hK _ _ rfl (Below.refl _ _)
          · have h1 := hn 1 (by decide +kernel)
            simp only [bkF] at h1
            simp only [h1] at hK ⊢
            have hd := HKD.out
            refine wpOp_plain rfl rfl (wp_val (w' := W) (v := .bool K8) (by go_simp) ?_)
            exact hK _ _ rfl (Below.refl _ _)
          · have h2 := hn 2 (by decide +kernel)
            simp only [bkF] at h2
            simp only [h2] at hK ⊢
            refine wpOp_plain rfl rfl (wp_val (w' := W) (v := .bool K8) (by go_simp) ?_)
            exact hK _ _ rfl (Below.refl _ _)
          · have h3 := hn 3 (by decide +kernel)
            simp only [bkF] at h3
            simp only [h3] at hK ⊢
            cases K8 with
            | false =>
              refine wpOp_off rfl (by rfl) ?_
              exact hK _ _ rfl (Below.refl _ _)
            | true =>
              refine wpOp_on rfl (by rfl) (wp_val (w' := W) (v := .pointer (some ⟨w.heap.size + 1, 0, none⟩)) (by go_simp) ?_)
              exact hK _ _ rfl (Below.refl _ _)
          · have h3 := hn 3 (by decide +kernel)
            simp only [bkF] at h3
            simp only [h3] at hK ⊢
            cases K8 with
            | false =>
              refine wpOp_off rfl (by rfl) ?_
              exact hK _ _ rfl (Below.refl _ _)
            | true =>
              have h4 : vals 4 = .pointer (some ⟨w.heap.size + 1, 0, none⟩) := hn 4 (by decide +kernel)
              simp only [h4] at hK ⊢
              refine wpOp_on rfl (by rfl) (wp_val (w' := W) (v := .pointer (some ⟨w.heap.size + 1, 0, none⟩)) (by go_simp) ?_)
              exact hK _ _ rfl (Below.refl _ _)
          · have h3 := hn 3 (by decide +kernel)
            simp only [bkF] at h3
            simp only [h3] at hK ⊢
            cases K8 with
            | false =>
              refine wpOp_off rfl (by rfl) ?_
              exact hK _ _ rfl (Below.refl _ _)
            | true =>
              have h5 : vals 5 = .pointer (some ⟨w.heap.size + 1, 0, none⟩) := hn 5 (by decide +kernel)
              simp only [h5] at hK ⊢
              have q := pl4_q0 hB.1.p
              refine wpOp_on rfl (by rfl) (wp_val (w' := W) (v := .int .u64 (i : Int)) (by go_simp) ?_)
              exact hK _ _ rfl (Below.refl _ _)
          · have h3 := hn 3 (by decide +kernel)
            simp only [bkF] at h3
            simp only [h3] at hK ⊢
            cases K8 with
            | false =>
              refine wpOp_off rfl (by rfl) ?_
              exact hK _ _ rfl (Below.refl _ _)
            | true =>
              refine wpOp_on rfl (by rfl) (wp_val (w' := W) (v := .pointer (some ⟨Y, 0, none⟩)) (by go_simp) ?_)
              exact hK _ _ rfl (Below.refl _ _)
          · have h3 := hn 3 (by decide +kernel)
            simp only [bkF] at h3
            simp only [h3] at hK ⊢
            cases K8 with
            | false =>
              refine wpOp_off rfl (by rfl) ?_
              exact hK _ _ rfl (Below.refl _ _)
            | true =>
              have h7 : vals 7 = .pointer (some ⟨Y, 0, none⟩) := hn 7 (by decide +kernel)
              simp only [h7] at hK ⊢
              have q := sv_epoch (HAT2.out W Y (hB.1.xs (Y, y) (by simp)))
              refine wpOp_on rfl (by rfl) (wp_val (w' := W) (v := .int .u64 (e' : Int)) (by go_simp) ?_)
              exact hK _ _ rfl (Below.refl _ _)
          · have h3 := hn 3 (by decide +kernel)
            simp only [bkF] at h3
            simp only [h3] at hK ⊢
            cases K8 with
            | false =>
              refine wpOp_off rfl (by rfl) ?_
              exact hK _ _ rfl (Below.refl _ _)
            | true =>
              have h6 : vals 6 = .int .u64 (i : Int) := hn 6 (by decide +kernel)
              have h8 : vals 8 = .int .u64 (e' : Int) := hn 8 (by decide +kernel)
              simp only [h6, h8] at hK ⊢
              refine wpOp_on rfl (by rfl) ?_
              go_simp
              go_at_call 17
              refine (HRI2.out W).mono ?_
              rintro e W' ⟨rfl, rfl⟩
              exact hK _ _ rfl (Below.refl _ _)
          · have h3 := hn 3 (by decide +kernel)
            simp only [bkF] at h3
            simp only [h3] at hK ⊢
            cases K8 with
            | false =>
              refine wpOp_plain rfl rfl (wp_val (w' := W) (v := .bool false) (by go_simp) ?_)
              exact hK _ _ rfl (Below.refl _ _)
            | true =>
              have h9 : vals 9 = .bool R2 := hn 9 (by decide +kernel)
              simp only [h9] at hK ⊢
              refine wpOp_plain rfl rfl (wp_val (w' := W) (v := .bool R2) (by go_simp) ?_)
              exact hK _ _ rfl (Below.refl _ _)
          · have h10 := hn 10 (by decide +kernel)
            simp only [bkF] at h10
            simp only [h10] at hK ⊢
            refine wpOp_plain rfl rfl (wp_val (w' := W) (v := .bool (K8 && R2)) (by go_simp) ?_)
            exact hK _ _ rfl (Below.refl _ _)
          · have h11 := hn 11 (by decide +kernel)
            simp only [bkF] at h11
            simp only [h11] at hK ⊢
            cases K8 with
            | false =>
              refine wpOp_off rfl (by rfl) ?_
              exact hK _ _ rfl (Below.refl _ _)
            | true =>
              cases R2 with
              | false =>
                refine wpOp_off rfl (by rfl) ?_
                exact hK _ _ rfl (Below.refl _ _)
              | true =>
                refine wpOp_on rfl (by rfl) (wp_val (run_loadK (.tmp 3) rfl w.heap.size 0 rfl key (range_whole hB.1.k) HKL.out) ?_)
                exact hK _ _ rfl (Below.refl _ _)
          · have h11 := hn 11 (by decide +kernel)
            simp only [bkF] at h11
            simp only [h11] at hK ⊢
            cases K8 with
            | false =>
              refine wpOp_off rfl (by rfl) ?_
              exact hK _ _ rfl (Below.refl _ _)
            | true =>
              cases R2 with
              | false =>
                refine wpOp_off rfl (by rfl) ?_
                exact hK _ _ rfl (Below.refl _ _)
              | true =>
                refine wpOp_on rfl (by rfl) (wp_val (w' := W) (v := .pointer (some ⟨w.heap.size + 1, 0, none⟩)) (by go_simp) ?_)
                exact hK _ _ rfl (Below.refl _ _)
          · have h11 := hn 11 (by decide +kernel)
            simp only [bkF] at h11
            simp only [h11] at hK ⊢
            cases K8 with
            | false =>
              refine wpOp_off rfl (by rfl) ?_
              exact hK _ _ rfl (Below.refl _ _)
            | true =>
              cases R2 with
              | false =>
                refine wpOp_off rfl (by rfl) ?_
                exact hK _ _ rfl (Below.refl _ _)
              | true =>
                have h13 : vals 13 = .pointer (some ⟨w.heap.size + 1, 0, none⟩) := hn 13 (by decide +kernel)
                simp only [h13] at hK ⊢
                refine wpOp_on rfl (by rfl) (wp_val (w' := W) (v := .pointer (some ⟨w.heap.size + 1, 0, none⟩)) (by go_simp) ?_)
                exact hK _ _ rfl (Below.refl _ _)
          · have h11 := hn 11 (by decide +kernel)
            simp only [bkF] at h11
            simp only [h11] at hK ⊢
            cases K8 with
            | false =>
              refine wpOp_off rfl (by rfl) ?_
              exact hK _ _ rfl (Below.refl _ _)
            | true =>
              cases R2 with
              | false =>
                refine wpOp_off rfl (by rfl) ?_
                exact hK _ _ rfl (Below.refl _ _)
              | true =>
                have h14 : vals 14 = .pointer (some ⟨w.heap.size + 1, 0, none⟩) := hn 14 (by decide +kernel)
                simp only [h14] at hK ⊢
                have q := pl4_q0 hB.1.p
                refine wpOp_on rfl (by rfl) (wp_val (w' := W) (v := .int .u64 (i : Int)) (by go_simp) ?_)
                exact hK _ _ rfl (Below.refl _ _)
          · have h11 := hn 11 (by decide +kernel)
            simp only [bkF] at h11
            simp only [h11] at hK ⊢
            cases K8 with
            | false =>
              refine wpOp_off rfl (by rfl) ?_
              exact hK _ _ rfl (Below.refl _ _)
            | true =>
              cases R2 with
              | false =>
                refine wpOp_off rfl (by rfl) ?_
                exact hK _ _ rfl (Below.refl _ _)
              | true =>
                refine wpOp_on rfl (by rfl) (wp_val (w' := W) (v := .pointer (some ⟨Y, 0, none⟩)) (by go_simp) ?_)
                exact hK _ _ rfl (Below.refl _ _)
          · have h11 := hn 11 (by decide +kernel)
            simp only [bkF] at h11
            simp only [h11] at hK ⊢
            cases K8 with
            | false =>
              refine wpOp_off rfl (by rfl) ?_
              exact hK _ _ rfl (Below.refl _ _)
            | true =>
              cases R2 with
              | false =>
                refine wpOp_off rfl (by rfl) ?_
                exact hK _ _ rfl (Below.refl _ _)
              | true =>
                have h16 : vals 16 = .pointer (some ⟨Y, 0, none⟩) := hn 16 (by decide +kernel)
                simp only [h16] at hK ⊢
                have q := sv_epoch (HAT2.out W Y (hB.1.xs (Y, y) (by simp)))
                refine wpOp_on rfl (by rfl) (wp_val (w' := W) (v := .int .u64 (e' : Int)) (by go_simp) ?_)
                exact hK _ _ rfl (Below.refl _ _)
          · have h11 := hn 11 (by decide +kernel)
            simp only [bkF] at h11
            simp only [h11] at hK ⊢
            cases K8 with
            | false =>
              refine wpOp_off rfl (by rfl) ?_
              exact hK _ _ rfl (Below.refl _ _)
            | true =>
              cases R2 with
              | false =>
                refine wpOp_off rfl (by rfl) ?_
                exact hK _ _ rfl (Below.refl _ _)
              | true =>
                refine wpOp_on rfl (by rfl) (wp_val (w' := W) (v := .pointer (some ⟨Y, 1, none⟩)) (by go_simp) ?_)
                exact hK _ _ rfl (Below.refl _ _)
          · have h11 := hn 11 (by decide +kernel)
            simp only [bkF] at h11
            simp only [h11] at hK ⊢
            cases K8 with
            | false =>
              refine wpOp_off rfl (by rfl) ?_
              exact hK _ _ rfl (Below.refl _ _)
            | true =>
              cases R2 with
              | false =>
                refine wpOp_off rfl (by rfl) ?_
                exact hK _ _ rfl (Below.refl _ _)
              | true =>
                have h18 : vals 18 = .pointer (some ⟨Y, 1, none⟩) := hn 18 (by decide +kernel)
                simp only [h18] at hK ⊢
                refine wpOp_on rfl (by rfl) (wp_val (run_loadB (.tmp 140) rfl Y 1 rfl d' (sv_data (HAT2.out W Y (hB.1.xs (Y, y) (by simp)))) HDL2.out) ?_)
                exact hK _ _ rfl (Below.refl _ _)
          · have h11 := hn 11 (by decide +kernel)
            simp only [bkF] at h11
            simp only [h11] at hK ⊢
            cases K8 with
            | false =>
              refine wpOp_off rfl (by rfl) ?_
              exact hK _ _ rfl (Below.refl _ _)
            | true =>
              cases R2 with
              | false =>
                refine wpOp_off rfl (by rfl) ?_
                exact hK _ _ rfl (Below.refl _ _)
              | true =>
                have h12 : vals 12 = .agg (ubs key).toArray := hn 12 (by decide +kernel)
                have h15 : vals 15 = .int .u64 (i : Int) := hn 15 (by decide +kernel)
                have h17 : vals 17 = .int .u64 (e' : Int) := hn 17 (by decide +kernel)
                have h19 : vals 19 = .agg (ubs d').toArray := hn 19 (by decide +kernel)
                simp only [h12, h15, h17, h19] at hK ⊢
                refine wpOp_on rfl (by rfl) ?_
                go_simp
                go_at_call 18
                refine (HTG2.out W hB.1.below).mono ?_
                rintro e W' ⟨rfl, hb⟩
                exact hK _ _ rfl hb
          · have h11 := hn 11 (by decide +kernel)
            simp only [bkF] at h11
            simp only [h11] at hK ⊢
            cases K8 with
            | false =>
              refine wpOp_off rfl (by rfl) ?_
              exact hK _ _ rfl (Below.refl _ _)
            | true =>
              cases R2 with
              | false =>
                refine wpOp_off rfl (by rfl) ?_
                exact hK _ _ rfl (Below.refl _ _)
              | true =>
                refine wpOp_on rfl (by rfl) (wp_val (w' := W) (v := .pointer (some ⟨Y, 33, none⟩)) (by go_simp) ?_)
                exact hK _ _ rfl (Below.refl _ _)
          · have h11 := hn 11 (by decide +kernel)
            simp only [bkF] at h11
            simp only [h11] at hK ⊢
            cases K8 with
            | false =>
              refine wpOp_off rfl (by rfl) ?_
              exact hK _ _ rfl (Below.refl _ _)
            | true =>
              cases R2 with
              | false =>
                refine wpOp_off rfl (by rfl) ?_
                exact hK _ _ rfl (Below.refl _ _)
              | true =>
                have h21 : vals 21 = .pointer (some ⟨Y, 33, none⟩) := hn 21 (by decide +kernel)
                simp only [h21] at hK ⊢
                refine wpOp_on rfl (by rfl) (wp_val (run_load16 (.tmp 143) rfl Y 33 rfl t' (sv_tag (HAT2.out W Y (hB.1.xs (Y, y) (by simp))) HDL2.out) HTL2.out) ?_)
                exact hK _ _ rfl (Below.refl _ _)
          · have h11 := hn 11 (by decide +kernel)
            simp only [bkF] at h11
            simp only [h11] at hK ⊢
            cases K8 with
            | false =>
              refine wpOp_off rfl (by rfl) ?_
              exact hK _ _ rfl (Below.refl _ _)
            | true =>
              cases R2 with
              | false =>
                refine wpOp_off rfl (by rfl) ?_
                exact hK _ _ rfl (Below.refl _ _)
              | true =>
                have h20 : vals 20 = .agg (ubs g2).toArray := hn 20 (by decide +kernel)
                have h22 : vals 22 = .agg (ubs t').toArray := hn 22 (by decide +kernel)
                simp only [h20, h22] at hK ⊢
                refine wpOp_on rfl (by rfl) (wp_val (run_eql16 _ (.tmp 142) (.tmp 144) rfl g2 t' HG2.out HTL2.out rfl rfl T2 HT2.out W) ?_)
                exact hK _ _ rfl (Below.refl _ _)
          · have h11 := hn 11 (by decide +kernel)
            simp only [bkF] at h11
            simp only [h11] at hK ⊢
            cases K8 with
            | false =>
              refine wpOp_plain rfl rfl (wp_val (w' := W) (v := .bool false) (by go_simp) ?_)
              exact hK _ _ rfl (Below.refl _ _)
            | true =>
              cases R2 with
              | false =>
                refine wpOp_plain rfl rfl (wp_val (w' := W) (v := .bool false) (by go_simp) ?_)
                exact hK _ _ rfl (Below.refl _ _)
              | true =>
                have h23 : vals 23 = .bool T2 := hn 23 (by decide +kernel)
                simp only [h23] at hK ⊢
                refine wpOp_plain rfl rfl (wp_val (w' := W) (v := .bool T2) (by go_simp) ?_)
                exact hK _ _ rfl (Below.refl _ _)
          · have h24 := hn 24 (by decide +kernel)
            simp only [bkF] at h24
            simp only [h24] at hK ⊢
            refine wpOp_plain rfl rfl (wp_val (w' := W) (v := .bool (K8 && (R2 && T2))) (by go_simp) ?_)
            exact hK _ _ rfl (Below.refl _ _)
        · intro vals W hB hF
          have h25 := hF 25 (by omega)
          simp only [bkF] at h25
          simp only [frm_cons, frm_nil, List.set_cons_succ, List.set_cons_zero, Nat.reduceAdd, h25]
          refine wpUpto_done (by decide +kernel) ?_ _
          have H16 := hid hB.1
          have S16 := hid hB.2
          clear hB hF h25 H15 S15 H14 S14 H13 S13 HTG2 HRI2
          generalize (K8 && (R2 && T2)) = M3 at HE3 ⊢
          have hmm : (M3 == M3) = true := by simp
          have q0 := pl4_q0 H16.out.p
          go_simp
          go_wp2_with (first
            | (refine wpList_valW (by rfl) (run_loadPs (.tmp 17) rfl Y rfl y _ (H16.out.xs (Y, y) (by simp)) HYL.out) ?_)
            | (go_at_call 14; (with_reducible refine (HO3.out W S S16.out H16.out.below).mono ?_); rintro r17 w17 ⟨rfl, hb17⟩; have H17 := hid (H16.out.new hb17); clear hb17)
            | (refine wpList_valW (by rfl) (run_eqlE _ 156 rfl E3 M3 rfl HE3.out _) ?_))
          go_ret
          exact ⟨rfl, H17.out.below⟩
end Go.Proofs.YtnaihcoafgigcaaDoor
