/-
  TreeNil of layer 9, over what nil trees are to answer.
-/
import Derived.Test.YthkbmpocfpbkoaaDoorTn
import Derived.Test.YthkbmpocfpbkoaaDoorTv
namespace Go.Proofs.YthkbmpocfpbkoaaDoor
open Go.RowKit

attribute [local go_sem] Oper.semAt_some
/-- What holds behind the loop. -/
structure NiW (w : World) (hs : List UInt8) (D : Nat) (V : World) : Prop where
  x : At V w.heap.size (ubs hs).toArray 35
  r : At V (w.heap.size + 1) #[.bool false] 4
  d : V.heap[D]? = some (.deferred (some []))
  far : w.heap.size + 1 < D
  below : Below w.heap.size w V
theorem NiW.new {w V V' : World} {hs : List UInt8} {D : Nat} (k : NiW w hs D V) (hb : Below V.heap.size V V') : NiW w hs D V' :=
  ⟨k.x.new_ hb, k.r.new_ hb, (hb.block D (Array.getElem?_eq_some_iff.1 k.d).1).trans k.d, k.far, k.below.trans (hb.mono k.below.size)⟩
set_option maxRecDepth 100000 in
set_option maxHeartbeats 4000000 in
theorem treeNil_law {Pt : PtT} {w : World} (t : T9c Pt w) (z : N9 w) (i : Nat) (hs : List UInt8) (hi : i < 18446744073709551616) (hl : hs.length = 32) :
    Calls Tryd.prog 7 #[.int .u64 (i : Int), .agg (ubs hs).toArray] w fun r w' => r = .returned (.bool true) ∧ Below w.heap.size w w' := by
  obtain ⟨w1, hw1⟩ : ∃ w1, w1 = (w.alloc (.cells (ubs hs).toArray 35)).alloc (.cells #[.bool false] 4) := ⟨_, rfl⟩
  have hb1 : Below w.heap.size w w1 := by rw [hw1]; exact ((Below.refl _ _).alloc (Nat.le_refl _) _).alloc (by simp) _
  have HX1 := hid (show At w1 w.heap.size (ubs hs).toArray 35 by rw [hw1]; exact (At.new _ _ _).alloc _)
  have HR1 := hid (show At w1 (w.heap.size + 1) #[.bool false] 4 by rw [hw1]; exact At.new_at (by simp))
  have HS1 := hid (show w1.heap.size = w.heap.size + 2 by rw [hw1]; simp)
  have HB1 := hid hb1
  have HAL := hid (alive9_any t)
  have HZ := hid z
  have HI := hid hi
  have HL := hid hl
  have HIS := hid (fun V => show Calls Tryd.prog 20 #[.iface 47 (.int .i64 11), .int .i64 11] V (fun e w' => e = .returned (.bool true) ∧ V = w') from by
    have := eis_any 11 11 V
    exact this)
  have e11 : errV 11 = .iface 47 (.int .i64 11) := rfl
  have HE11 := hid e11
  have HAH := hid (fun (o : Oper) (a : Go.Act) (W : World) (h : o.op = .alloc 35) => run_alloc_of (o := o) (a := a) (W := W) _ h _ zeroH8)
  have HBH := hid (fun (o : Oper) (a : Go.Act) (W : World) (h : o.op = .build 35 #[]) => run_build_hash0 (o := o) (a := a) (W := W) h)
  have HNL := hid n32_length
  obtain ⟨m, hm⟩ : ∃ m, m = n32 := ⟨_, rfl⟩
  have HME := hid hm
  rw [← hm] at HAH HBH HNL
  clear hm hb1 t z hi hl e11
  refine (callsIn_wide (n := 6)).1 ?_
  refine callsIn_of_wp_marks Tryd.func7 rfl trivial ?_ rfl
  refine wpIn_wide.2 ?_
  simp only [Tryd.ntmps7, List.size_toArray, List.length_cons, List.length_nil, Nat.reduceAdd, Nat.reduceSub, Array.replicate_succ, Array.replicate_zero, List.push_toArray, List.append_toArray, List.nil_append, List.cons_append]
  go_wp2_with (first
    | (rw [← hw1]; clear hw1; go_at_call 12; refine (HAL.out w1 HB1.out).mono ?_; rintro r1 w2 ⟨rfl, hb2⟩; have HB2 := hid (HB1.out.trans (hb2.mono HB1.out.size)); have HX2 := hid (HX1.out.new_ hb2); have HR2 := hid (HR1.out.new_ hb2); have HS2 := hid hb2.size; clear hb2)
    | (go_at_call 34; refine (HZ.out.all _ HB2.out).mono ?_; rintro r2 w3 ⟨gf, lb, rfl, hb3, hcf, C, hC, hsq⟩; have HB3 := hid (HB2.out.trans (hb3.mono HB2.out.size)); have HX3 := hid (HX2.out.new_ hb3); have HR3 := hid (HR2.out.new_ hb3); have HS3 := hid hb3.size; have HCF := hid hcf; have HSQ := hid (hsq 5); have HCC := hid (fun k hk => (hC k hk).2); clear hb3 hcf hC hsq))
  refine (wpIn_wide (n := 6)).1 ?_
  refine wpIn_rangeFunc_ownH (F := Fence.wide) (n := 6) rfl (by omega) (gf := gf) (lb := lb) rfl trivial HCF.out HSQ.out (fun h k => h.trans k) (fun V l o o' hl hc _ _ j hj => World.putObj_heap_other (fun e => by have := HCC.out j hj; omega)) (Below.refl _ _) (fun x => x.elim0)
    (fun pre V => (At V w.heap.size (ubs hs).toArray 35 ∧ At V (w.heap.size + 1) #[.bool false] 4) ∧ Below w.heap.size w V)
    (fun _ _ _ => False)
    (OwnFrom.and (OwnFrom.and (Own.from (at_own _ _ (fun _ => (ubs hs).toArray)) _) (Own.from (at_own _ _ (fun _ => #[.bool false])) _)) (ownFrom_below (Nat.le_refl _) HB3.out.size))
    (fun _ _ _ _ _ hs _ _ => hs)
    ⟨⟨HX3.out, HR3.out⟩, HB3.out⟩
    (fun _ _ _ => True)
    (fun _ _ _ _ _ _ _ _ _ => trivial)
    (fun _ _ x => x.elim0) (fun _ _ x => x.elim0) ?done (fun _ _ _ _ _ _ hx => hx.elim)
  case done =>
    rintro D xs V hD hxs ⟨⟨hX, hR⟩, hB⟩ hK
    have K0 := hid (show NiW w hs D V from ⟨hX, hR, hK, by have := HS1.out; have := HS2.out; have := HS3.out; omega, hB⟩)
    clear hX hR hB hK hD hxs
    have HZE := hid (show ∀ (V : World), Below w.heap.size w V → Calls Tryd.prog 23 #[.pointer none, .int .u64 (i : Int)] V (fun r W' => r = .returned (.tuple #[.agg (ubs m).toArray, .iface 47 (.int .i64 11)]) ∧ Below V.heap.size V W') from fun V q => by rw [HME.out]; exact HZ.out.leaf V i q HI.out)
    have HZP := hid (show ∀ (V : World), Below w.heap.size w V → Calls Tryd.prog 22 #[.pointer none, .int .u64 (i : Int)] V (fun r W' => r = .returned (.tuple #[.slice none 0 0, .iface 47 (.int .i64 11)]) ∧ Below V.heap.size V W') from fun V q => HZ.out.path V i q HI.out)
    have HZR := hid (show ∀ (V : World), Below w.heap.size w V → Calls Tryd.prog 28 #[.pointer none, .int .u64 (i : Int)] V (fun r W' => r = .returned (.tuple #[.pointer none, .iface 47 (.int .i64 11)]) ∧ Below V.heap.size V W') from fun V q => HZ.out.resize V i q HI.out)
    have HZS := hid (show ∀ (V : World), Below w.heap.size w V → Calls Tryd.prog 31 #[.pointer none, .int .u64 (i : Int), .agg (ubs hs).toArray] V (fun r W' => r = .returned (.iface 47 (.int .i64 11)) ∧ Below V.heap.size V W') from fun V q => HZ.out.set V i hs q HI.out HL.out)
    have HZD := hid (show ∀ (V : World), Below w.heap.size w V → Calls Tryd.prog 16 #[.pointer none, .int .u64 (i : Int)] V (fun r W' => r = .returned (.iface 47 (.int .i64 11)) ∧ Below V.heap.size V W') from fun V q => HZ.out.drop V i q HI.out)
    have HZO := hid (show ∀ (V : World), Below w.heap.size w V → Calls Tryd.prog 32 #[.pointer none] V (fun r W' => r = .returned (.agg (ubs m).toArray) ∧ Below V.heap.size V W') from fun V q => by rw [HME.out]; exact HZ.out.root V q)
    go_wp2_with (first
      | (go_at_call 23; refine (HZE.out V K0.out.below).mono ?_; rintro r1 v1 ⟨rfl, hb⟩; have K1 := hid (K0.out.new hb); clear hb)
      | (refine Great.wpList_allocTo rfl _ rfl _ _ (HAH.out _ _ _ rfl) ?_)
      | (refine wpList_store_row rfl _ (.tmp 6) (.tmp 22) rfl v1.heap.size (ubs m).toArray rfl rfl 35 (ubs m).toArray (At.new _ _ _) (sizeH_of HNL.out) rfl (ubs_all _) ?_; have K2 := hid (K1.out.new (below_setRow ((Below.refl _ _).alloc (Nat.le_refl _) _) (Nat.le_refl _) _ : Below v1.heap.size v1 ((v1.alloc (.cells (ubs m).toArray 35)).setRow v1.heap.size (ubs m).toArray))); generalize ((v1.alloc (.cells (ubs m).toArray 35)).setRow v1.heap.size (ubs m).toArray) = v2 at K2 ⊢)
      | (go_at_call 22; refine (HZP.out v2 K2.out.below).mono ?_; rintro r3 v3 ⟨rfl, hb⟩; have K3 := hid (K2.out.new hb); clear hb)
      | (go_at_call 28; refine (HZR.out v3 K3.out.below).mono ?_; rintro r4 v4 ⟨rfl, hb⟩; have K4 := hid (K3.out.new hb); clear hb)
      | (refine wpList_valW (by rfl) (run_loadH (.tmp 3) rfl w.heap.size 0 rfl hs (range_whole K4.out.x) HL.out) ?_)
      | (go_at_call 31; refine (HZS.out v4 K4.out.below).mono ?_; rintro r5 v5 ⟨rfl, hb⟩; have K5 := hid (K4.out.new hb); clear hb)
      | (go_at_call 20; refine (HIS.out _).mono ?_; rintro ri vi ⟨rfl, rfl⟩)
      | (go_at_call 16; refine (HZD.out _ K5.out.below).mono ?_; rintro r6 v6 ⟨rfl, hb⟩; have K6 := hid (K5.out.new hb); clear hb)
      | (go_at_call 32; refine (HZO.out _ K6.out.below).mono ?_; rintro r7 v7 ⟨rfl, hb⟩; have K7 := hid (K6.out.new hb); clear hb)
      | (refine wpList_valW (by rfl) (HBH.out _ _ _ rfl) ?_)
      | (refine wpList_valW (by rfl) (run_eqlH _ (.tmp 61) (.tmp 62) rfl m m HNL.out HNL.out rfl rfl true (by simp) _) ?_)
      | (go_at_call 35; refine (HZ.out.height _ K7.out.below).mono ?_; rintro r8 v8 ⟨rfl, hb⟩; have K8 := hid (K7.out.new hb); clear hb)
      | (go_at_call 17; refine (HZ.out.len _ K8.out.below).mono ?_; rintro r9 v9 ⟨rfl, hb⟩; have K9 := hid (K8.out.new hb); clear hb)
      | (go_at_call 14; refine (HZ.out.copy _ K9.out.below).mono ?_; rintro ra va ⟨rfl, hb⟩; have KA := hid (K9.out.new hb); clear hb; have q2 := KA.out.r.frozen 0; have q3 := KA.out.r.cell 0; simp at q3))
    have hA1 := KA.out.r.put 0 (.bool true)
    have hDn := KA.out.far
    refine ⟨by simp, .inl ⟨_, _, rfl, run_takeDeferred ((Below.heap_setCell va ⟨w.heap.size + 1, 0, none⟩ (.bool true) D (by simp; omega)).trans KA.out.d), ?_⟩⟩
    have hgr := grownBy_putObj' (va.setCell ⟨w.heap.size + 1, 0, none⟩ (.bool true)) D (.deferred none)
    have hA2 : At ((va.setCell ⟨w.heap.size + 1, 0, none⟩ (.bool true)).putObj D (.deferred none)) (w.heap.size + 1) #[.bool true] 4 := (hgr.block _ hA1.lt (by simp; omega)).trans hA1
    have q5 := hA2.cell 0
    refine ⟨_, results_one9 rfl _ _ ⟨w.heap.size + 1, 0, none⟩ (.bool true) rfl (by clear q2 q3; go_simp), rfl, ?_⟩
    exact (KA.out.below.setCell (by simp) _).grown hgr (by have := KA.out.below.size; simp [World.setCell]; omega) (fun k e => by cases e; omega)
end Go.Proofs.YthkbmpocfpbkoaaDoor
