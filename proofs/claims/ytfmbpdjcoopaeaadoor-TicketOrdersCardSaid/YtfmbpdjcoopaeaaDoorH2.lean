/-
  Layer 13, the program's side: the leaves that an order makes.
-/
import Derived.Test.YtfmbpdjcoopaeaaDoorKh
import Derived.Test.YtfmbpdjcoopaeaaDoorP6
import Derived.Test.YtfmbpdjcoopaeaaDoorME
namespace Go.Proofs.YtfmbpdjcoopaeaaDoor
open Go.RowKit

set_option maxRecDepth 100000 in
set_option maxHeartbeats 2000000 in
/-- Leaves, of what is no order, or a resize. -/
theorem pleaves13_no (o : Ord13) (AI AS : Option Addr) (cI cS : Nat) (w : World) (hk : okO o) (hm : OrI w w.heap.size o AI AS cI cS) (hl : o.sl.length ≤ 1000000) (h : rgtO o = false ∨ o.kind = 3) :
    Calls Tryd.prog 52 #[.agg (ordV o AI AS cI cS).toArray] w fun r w' => r = .returned (.tuple #[.slice none 0 0, errV 2]) ∧ Below w.heap.size w w' := by
  obtain ⟨O, hO⟩ : ∃ O, O = ordV o AI AS cI cS := ⟨_, rfl⟩
  have HOL := hid (show O.length = 4 by rw [hO]; rfl)
  have HC := hid (fun (V : World) (x : At V w.heap.size O.toArray 93) => show V.cell? ⟨w.heap.size, 0, none⟩ = some (.int .i64 o.kind) from by
    rw [hO] at x
    exact (ordV_cells x).1)
  have HRT := hid (fun (V : World) (x : Below w.heap.size w V) => rgtC_any w o AI AS cI cS V x hk (hm.later x) hl)
  have e2 : errV 2 = .iface 49 (.int .i64 2) := errV_pos (by decide)
  rw [e2]
  rw [← hO] at HRT ⊢
  have K0 := hid (show Below w.heap.size w (w.alloc (.cells O.toArray 93)) ∧ At (w.alloc (.cells O.toArray 93)) w.heap.size O.toArray 93 from ⟨(Below.refl _ _).alloc (Nat.le_refl _) _, At.new _ _ _⟩)
  obtain ⟨kd, hkd⟩ : ∃ k, k = o.kind := ⟨_, rfl⟩
  rw [← hkd] at HC h
  cases hr : rgtO o with
  | false =>
    rw [hr] at HRT
    clear hO hk hm hl hr e2 h hkd
    go_enter Tryd.func52, Tryd.ntmps52
    go_wp2_with (first
      | (refine wpList_valW (by rfl) (run_loadPO (.tmp 1) rfl w.heap.size 0 rfl O (range_all K0.out.2) HOL.out) ?_; try simp only [Act.put, List.setIfInBounds_toArray, List.set_cons_succ, List.set_cons_zero])
      | (go_at_call 53; refine (HRT.out _ K0.out.1).mono ?_; rintro r1 w1 ⟨rfl, h1⟩; have K1 := hid (K0.out.1.trans (h1.mono K0.out.1.size)); clear h1))
    go_ret2
    exact ⟨rfl, K1.out⟩
  | true =>
    obtain rfl : kd = 3 := by
      rcases h with h | h
      · rw [hr] at h; cases h
      · exact h
    rw [hr] at HRT
    clear hO hk hm hl hr e2 h hkd
    go_enter Tryd.func52, Tryd.ntmps52
    go_wp2_with (first
      | (refine wpList_valW (by rfl) (run_loadPO (.tmp 1) rfl w.heap.size 0 rfl O (range_all K0.out.2) HOL.out) ?_; try simp only [Act.put, List.setIfInBounds_toArray, List.set_cons_succ, List.set_cons_zero])
      | (go_at_call 53; refine (HRT.out _ K0.out.1).mono ?_; rintro r1 w1 ⟨rfl, h1⟩; have K1 := hid (And.intro (K0.out.1.trans (h1.mono K0.out.1.size)) (K0.out.2.new_ h1)); clear h1; have c0 := HC.out _ K1.out.2))
    go_ret2
    exact ⟨rfl, K1.out.1⟩
theorem madeH13 (n : Nat) : madeCells (Value.agg (ubs n32).toArray).cells (n * 32) = (ubs (List.replicate (32 * n) 0)).toArray := by
  have h : ∀ i, (ubs n32).toArray[i % (ubs n32).toArray.size]! = Value.int .u8 0 := by
    intro i
    have hs : (ubs n32).toArray.size = 32 := by simp [ubs_length, n32_length]
    have hlt : i % 32 < 32 := Nat.mod_lt _ (by omega)
    have key : ∀ (l : List Value), l = List.replicate 32 (Value.int .u8 0) → ∀ (k : Nat) (hk : k < l.toArray.size), l.toArray[k] = Value.int .u8 0 := by
      rintro l rfl k hk
      rw [List.getElem_toArray, List.getElem_replicate]
    rw [hs, getElem!_pos _ _ (by rw [hs]; exact hlt)]
    refine key _ ?_ _ _
    unfold ubs n32
    rw [List.map_replicate]
    rfl
  apply Array.toList_inj.1
  show ((Array.range (n * 32)).map fun x => (ubs n32).toArray[x % (ubs n32).toArray.size]!).toList = _
  rw [Array.map_congr_left (fun x _ => h x)]
  apply List.ext_getElem
  · simp [ubs_length]
    omega
  · intro i h1 h2
    simp [ubs, ub]
/-- The first leaves laid, the rest noughts. -/
def lvP (o : Ord13) (n j : Nat) : List UInt8 := lvN o j ++ List.replicate (32 * (n - j)) 0
theorem lvP_zero (o : Ord13) (n : Nat) : lvP o n 0 = List.replicate (32 * n) 0 := rfl
theorem lvP_all (o : Ord13) (n : Nat) : lvP o n n = lvN o n := by simp [lvP]
theorem lvP_length (o : Ord13) {n j : Nat} (h : j ≤ n) : (lvP o n j).length = 32 * n := by rw [lvP, List.length_append, lvN_length, List.length_replicate]; omega
theorem lvP_next (o : Ord13) {n j : Nat} (h : j < n) : spl (lvP o n j) (32 * j) (lfN o j) = lvP o n (j + 1) := by
  have h1 : List.replicate (32 * (n - j)) (0 : UInt8) = List.replicate 32 0 ++ List.replicate (32 * (n - (j + 1))) 0 := by rw [List.replicate_append_replicate]; congr 1; omega
  have := spl_at (lvN o j) (List.replicate 32 0) (List.replicate (32 * (n - (j + 1))) 0) (lfN o j) (by rw [lfN_length, List.length_replicate])
  rw [lvN_length] at this
  rw [lvP, h1, this, lvP, lvN, List.append_assoc]
/-- What Leaves has in memory. -/
structure LfW (w : World) (O : List Value) (od : Ord13) (n D j : Nat) (V : World) : Prop where
  bl : Below w.heap.size w V
  o : At V w.heap.size O.toArray 93
  r : At V D (ubs (lvP od n j)).toArray 25
  lo : w.heap.size < D
theorem LfW.new {w V V' : World} {O : List Value} {od : Ord13} {n D j : Nat} (k : LfW w O od n D j V) (hb : Below V.heap.size V V') : LfW w O od n D j V' := ⟨k.bl.trans (hb.mono k.bl.size), k.o.new_ hb, k.r.new_ hb, k.lo⟩
theorem LfW.store {w V : World} {O : List Value} {od : Ord13} {n D j : Nat} (k : LfW w O od n D j V) (h : j < n) : LfW w O od n D (j + 1) (V.setCells D (32 * j) (ubs (lfN od j))) := by
  have hlo := k.lo
  have h2 := at_setCells k.r (32 * j) (lfN od j)
  rw [lvP_next od h] at h2
  exact ⟨below_setCells k.bl (by omega) _ _, far_setCells k.o (by omega) _ _, h2, hlo⟩
theorem LfW.there {w V : World} {O : List Value} {od : Ord13} {n D j : Nat} (k : LfW w O od n D j V) (h : j < n) : V.there D (32 * j) 32 := there_at k.r _ _ (by rw [lvP_length od (by omega)]; omega)
set_option maxRecDepth 100000 in
set_option maxHeartbeats 4000000 in
/-- Leaves, of an order to write or to trim. -/
theorem pleaves13_ok (o : Ord13) (AI AS : Option Addr) (cI cS : Nat) (w : World) (hk : okO o) (hm : OrI w w.heap.size o AI AS cI cS) (hl : o.sl.length ≤ 1000000) (hr : rgtO o = true) (h3 : o.kind ≠ 3) (hT : Tabs w) :
    Calls Tryd.prog 52 #[.agg (ordV o AI AS cI cS).toArray] w fun r w' => ∃ A c, r = .returned (.tuple #[.slice A o.idx.length c, .nilIface]) ∧ Rd w' w'.heap.size A (ubs (lvN o o.idx.length)) ∧ Below w.heap.size w w' := by
  have hcs := rgtO_cases hr
  obtain ⟨kd, l, s, b⟩ := o
  simp only at hl h3 hcs
  obtain ⟨n, hn⟩ : ∃ n, n = l.length := ⟨_, rfl⟩
  obtain ⟨m, hmm⟩ : ∃ n, n = s.length := ⟨_, rfl⟩
  obtain ⟨O, hO⟩ : ∃ O, O = ordV ⟨kd, l, s, b⟩ AI AS cI cS := ⟨_, rfl⟩
  obtain ⟨OD, hOD⟩ : ∃ o : Ord13, o = ⟨kd, l, s, b⟩ := ⟨_, rfl⟩
  have HOL := hid (show O.length = 4 by rw [hO]; rfl)
  have HC := hid (fun (V : World) (x : At V w.heap.size O.toArray 93) => show V.cell? ⟨w.heap.size, 0, none⟩ = some (.int .i64 kd) ∧ V.cell? ⟨w.heap.size, 1, none⟩ = some (.slice AI n cI) ∧ V.cell? ⟨w.heap.size, 2, none⟩ = some (.slice AS m cS) from by
    rw [hO] at x
    rw [hn, hmm]
    exact ⟨(ordV_cells x).1, (ordV_cells x).2.1, (ordV_cells x).2.2.1⟩)
  have HRT := hid (fun (V : World) (x : Below w.heap.size w V) => rgtC_any w ⟨kd, l, s, b⟩ AI AS cI cS V x hk (hm.later x) hl)
  rw [hr, ← hO] at HRT
  have HR := hid (fun (V : World) (hb : Below w.heap.size w V) => (hm.later hb).i)
  have HS := hid (fun (V : World) (hb : Below w.heap.size w V) => (hm.later hb).s)
  have hll : n ≤ 256 ∧ ((kd = 1 ∧ m = n ∧ ∀ x ∈ l, x < 256 ^ 4) ∨ kd = 2) := by
    rcases hcs with ⟨h, -⟩ | ⟨h0, -, h1, -⟩ | ⟨h0, -, h1, -, h2⟩
    · exact absurd h h3
    · exact ⟨by rw [hn]; exact (rgtB_small h1).2.2, .inr h0⟩
    · exact ⟨by rw [hn]; exact (rgtB_small h1).2.2, .inl ⟨h0, by rw [hn, hmm]; exact h2, (rgtB_small h1).1⟩⟩
  have HLL := hid hll.1
  have HN := hid hn
  have HM := hid hmm
  have hmk : ∀ V : World, (Instr.makeSlice 78 (.int .i64 (n : Int)) (.int .i64 (n : Int))).run Tryd.prog V = .ok (.slice (some ⟨V.heap.size, 0, none⟩) n n) (V.alloc (.cells (ubs (lvP OD n 0)).toArray 25)) := fun V => by
    obtain ⟨i0, hi0, hz0, hz1, hz2⟩ := info_parts infoH
    have := run_make (P := Tryd.prog) V 78 25 i0 _ Tryd.underlying78 hi0 hz0 .i64 .i64 n n (by omega) (by omega) (by rw [hz2]; omega) (by omega)
    rw [hz1, Int.toNat_natCast, madeH13, ← lvP_zero OD n] at this
    exact this
  have K0 := hid (show Below w.heap.size w (w.alloc (.cells O.toArray 93)) ∧ At (w.alloc (.cells O.toArray 93)) w.heap.size O.toArray 93 from ⟨(Below.refl _ _).alloc (Nat.le_refl _) _, At.new _ _ _⟩)
  have HLE := hid (fun (x : Nat) (hx : x < 256 ^ 4) (y : Sl13) (hy : okS y) (V : World) (hb : Below w.heap.size w V) => show Calls Tryd.prog 32 #[.int .u64 (x : Int), .agg (slV y).toArray] V (fun r w' => r = .returned (.tuple #[.agg (ubs (hashL (leafT x y.1 y.2.1 y.2.2))).toArray, .nilIface]) ∧ Below V.heap.size V w') from by
    have := pleaf_any y.2.1 y.2.2 x y.1 V hy.2.1 hy.2.2 (by omega) hy.1 (hT.below hb)
    rw [show ixB x = true from decide_eq_true (by omega), lfH, show ixB x = true from decide_eq_true (by omega)] at this
    exact this)
  have HEM := hid (fun (V : World) (hb : Below w.heap.size w V) => show Calls Tryd.prog 91 #[.int .i64 0] V (fun r w' => r = .returned (.tuple #[.agg (ubs (emptyL 0)).toArray, .nilIface]) ∧ Below V.heap.size V w') from pempty_ok 0 V (by omega) (hT.below hb))
  have HKS := hid hk.2.1
  rw [← hO, ← hn, ← hOD]
  rcases hll.2 with ⟨rfl, hmn, hix⟩ | rfl
  · have HSL := hid hmn
    have HIX := hid hix
    have HNX := hid (fun (j : Nat) (h1 : j < l.length) (h2 : j < s.length) => show lfN OD j = hashL (leafT l[j] s[j].1 s[j].2.1 s[j].2.2) from by rw [hOD]; exact lfN_one h1 h2)
    have HLN := hid (fun j => lfN_length OD j)
    have HSTO := hid (fun (V : World) (D j : Nat) (k : LfW w O OD n D j V) (h : j < n) => k.store h)
    have HTHR := hid (fun (V : World) (D j : Nat) (k : LfW w O OD n D j V) (h : j < n) => k.there h)
    have HEND := hid (lvP_all OD n)
    clear hk hm hl hr h3 hT hcs hn hmm hO hOD hll hmn hix HEM
    go_enter Tryd.func52, Tryd.ntmps52
    go_upto_region 5 with (first
      | (refine wpList_valW (by rfl) (run_loadPO (.tmp 1) rfl w.heap.size 0 rfl O (range_all K0.out.2) HOL.out) ?_; try simp only [Act.put, List.setIfInBounds_toArray, List.set_cons_succ, List.set_cons_zero])
      | (go_at_call 53; refine (HRT.out _ K0.out.1).mono ?_; rintro r1 w1 ⟨rfl, h1⟩; have K1 := hid (And.intro (K0.out.1.trans (h1.mono K0.out.1.size)) (K0.out.2.new_ h1)); clear h1; obtain ⟨c0, c1, c2⟩ := HC.out _ K1.out.2; have A1 := hid (K1.out.2.new_ ((Below.refl w1.heap.size w1).alloc (Nat.le_refl _) (.cells (ubs (lvP OD n 0)).toArray 25))); obtain ⟨d0, d1, d2⟩ := HC.out _ A1.out))
    obtain ⟨D, hD⟩ : ∃ D, D = w1.heap.size := ⟨_, rfl⟩
    have H0 := hid (show LfW w O OD n D 0 (w1.alloc (.cells (ubs (lvP OD n 0)).toArray 25)) from
      ⟨K1.out.1.trans (((Below.refl _ _).alloc (Nat.le_refl _) _).mono K1.out.1.size), A1.out, by rw [hD]; exact At.new _ _ _, by rw [hD]; exact K1.out.2.lt⟩)
    rw [← hD]
    generalize (w1.alloc (.cells (ubs (lvP OD n 0)).toArray 25)) = w2 at H0 ⊢
    clear hmk hD K0 K1 A1 c0 c1 c2 d0 d1 d2
    go_loopw [5, 6, 23] (fun _ _ v wr => ∃ j : Nat, j ≤ n ∧ v = .int .i64 (j : Int) ∧ Hid (LfW w O OD n D j wr)) (fun _ _ v _ => n - (intOf v).toNat)
    case atStart => exact ⟨0, by omega, rfl, H0⟩
    case round =>
      clear H0
      obtain ⟨j, hj, rfl, HX⟩ := hrel
      by_cases hlt : j < n
      · have hd : decide ((j : Int) < (n : Int)) = true := by simp; omega
        have ik : (j : Int) < (n : Int) := by omega
        have ikm : (j : Int) < (m : Int) := by have := HSL.out; omega
        have hjl : j < l.length := by rw [← HN.out]; exact hlt
        have hjs : j < s.length := by rw [← HM.out, HSL.out]; exact hlt
        obtain ⟨g, q, rfl, -, q0⟩ := (HR.out wr HX.out.bl).at hjl
        obtain ⟨h, r, rfl, -, q1⟩ := (HS.out wr HX.out.bl).at HKS.out hjs
        obtain ⟨x, hx⟩ : ∃ x, x = l[j] := ⟨_, rfl⟩
        obtain ⟨y, hy⟩ : ∃ y, y = s[j] := ⟨_, rfl⟩
        obtain ⟨p, hp⟩ : ∃ p, p = q + j := ⟨_, rfl⟩
        obtain ⟨P1, hP1⟩ : ∃ p, p = r + j * 49 := ⟨_, rfl⟩
        rw [← hx, ← hp] at q0
        rw [← hy, Nat.mul_comm 49 j, ← hP1] at q1
        have Q1 := hid q1
        have HYK := hid (HKS.out y (by rw [hy]; exact List.getElem_mem hjs))
        have HLK := hid (HLE.out x (HIX.out x (by rw [hx]; exact List.getElem_mem hjl)) y HYK.out wr HX.out.bl)
        obtain ⟨nd, hnd⟩ : ∃ z, z = lfN OD j := ⟨_, rfl⟩
        have HND := hid (show nd.length = 32 by rw [hnd]; exact HLN.out j)
        have hnx := HNX.out j hjl hjs
        rw [← hnd, ← hx, ← hy] at hnx
        rw [← hnx] at HLK
        have ep := hp.symm
        have eP1 := hP1.symm
        obtain ⟨j1, hj1⟩ : ∃ m, m = j + 1 := ⟨_, rfl⟩
        have e2 : (j : Int) + 1 = (j1 : Int) := by omega
        have ew2 : IntKind.i64.wrap (j1 : Int) = (j1 : Int) := by rw [IntKind.wrap_i64] <;> have := HLL.out <;> omega
        obtain ⟨oo, hoo⟩ : ∃ o, o = 32 * j := ⟨_, rfl⟩
        have eo : j * 32 = oo := by omega
        have HST := hid (fun (V : World) (k : LfW w O OD n D j V) => show LfW w O OD n D j1 (V.setCells D oo (ubs nd)) from by
          have := HSTO.out V D j k hlt
          rw [← hnd, ← hoo, ← hj1] at this
          exact this)
        have HTH := hid (fun (V : World) (k : LfW w O OD n D j V) => show V.there D oo 32 from by rw [hoo]; exact HTHR.out V D j k hlt)
        have HJL := hid (show j1 ≤ n by omega)
        have HMS := hid (show n - j1 < n - j by omega)
        obtain ⟨c0, c1, c2⟩ := HC.out _ HX.out.o
        clear hlt hj hjl hjs hx hy hp hP1 hj1 hnd hnx hoo q1 HNX HLN HSTO HTHR
        go_wp2_with (first
          | (refine wpList_valW (by rfl) (run_loadPsAt (.tmp 39) rfl h P1 rfl (slV y) Q1.out (slV_length HYK.out)) ?_; try simp only [Act.put, List.setIfInBounds_toArray, List.set_cons_succ, List.set_cons_zero])
          | (go_at_call 32; refine HLK.out.mono ?_; rintro r4 w4 ⟨rfl, hb4⟩; have X4 := hid (HX.out.new hb4); clear hb4 q0 c0 c1 c2)
          | (refine wpList_store_mid rfl 25 (.tmp 44) (.tmp 42) rfl D oo (ubs nd).toArray rfl rfl ?t1 (sizeH_of HND.out) (ubs_all _) ?_; rotate_right; have X5 := hid (HST.out w4 X4.out); rw [List.toList_toArray]; generalize (w4.setCells D oo (ubs nd)) = w5 at X5 ⊢))
        case t1 => have := HTH.out w4 X4.out; simpa [ubs_length, HND.out] using this
        exact ⟨⟨j1, HJL.out, rfl, X5⟩, by
          show n - ((j1 : Int)).toNat < n - ((j : Int)).toNat
          rw [Int.toNat_natCast, Int.toNat_natCast]
          exact HMS.out⟩
      · obtain rfl : j = n := by omega
        have hd : decide ((j : Int) < (j : Int)) = false := by simp
        clear hlt hj
        go_wp2
        go_ret2
        refine ⟨some ⟨D, 0, none⟩, j, rfl, ?_, HX.out.bl⟩
        have := HX.out.r
        rw [HEND.out] at this
        exact Rd.of_at this 0 (fun q u hu => by rw [List.getElem?_toArray, Nat.zero_add]; exact hu) this.lt
  · have HNX := hid (fun (j : Nat) => show lfN OD j = emptyL 0 from by rw [hOD]; exact lfN_two)
    have HSTO := hid (fun (V : World) (D j : Nat) (k : LfW w O OD n D j V) (h : j < n) => k.store h)
    have HTHR := hid (fun (V : World) (D j : Nat) (k : LfW w O OD n D j V) (h : j < n) => k.there h)
    have HEND := hid (lvP_all OD n)
    have HND := hid (emptyL_length 0)
    clear hk hm hl hr h3 hT hcs hn hmm hO hOD hll HLE HKS
    generalize emptyL 0 = nd at HEM HNX HND
    go_enter Tryd.func52, Tryd.ntmps52
    go_upto_region 5 with (first
      | (refine wpList_valW (by rfl) (run_loadPO (.tmp 1) rfl w.heap.size 0 rfl O (range_all K0.out.2) HOL.out) ?_; try simp only [Act.put, List.setIfInBounds_toArray, List.set_cons_succ, List.set_cons_zero])
      | (go_at_call 53; refine (HRT.out _ K0.out.1).mono ?_; rintro r1 w1 ⟨rfl, h1⟩; have K1 := hid (And.intro (K0.out.1.trans (h1.mono K0.out.1.size)) (K0.out.2.new_ h1)); clear h1; obtain ⟨c0, c1, c2⟩ := HC.out _ K1.out.2; have A1 := hid (K1.out.2.new_ ((Below.refl w1.heap.size w1).alloc (Nat.le_refl _) (.cells (ubs (lvP OD n 0)).toArray 25))); obtain ⟨d0, d1, d2⟩ := HC.out _ A1.out))
    obtain ⟨D, hD⟩ : ∃ D, D = w1.heap.size := ⟨_, rfl⟩
    have H0 := hid (show LfW w O OD n D 0 (w1.alloc (.cells (ubs (lvP OD n 0)).toArray 25)) from
      ⟨K1.out.1.trans (((Below.refl _ _).alloc (Nat.le_refl _) _).mono K1.out.1.size), A1.out, by rw [hD]; exact At.new _ _ _, by rw [hD]; exact K1.out.2.lt⟩)
    rw [← hD]
    generalize (w1.alloc (.cells (ubs (lvP OD n 0)).toArray 25)) = w2 at H0 ⊢
    clear hmk hD K0 K1 A1 c0 c1 c2 d0 d1 d2
    go_loopw [5, 6, 23] (fun _ _ v wr => ∃ j : Nat, j ≤ n ∧ v = .int .i64 (j : Int) ∧ Hid (LfW w O OD n D j wr)) (fun _ _ v _ => n - (intOf v).toNat)
    case atStart => exact ⟨0, by omega, rfl, H0⟩
    case round =>
      clear H0
      obtain ⟨j, hj, rfl, HX⟩ := hrel
      by_cases hlt : j < n
      · have hd : decide ((j : Int) < (n : Int)) = true := by simp; omega
        have ik : (j : Int) < (n : Int) := by omega
        have hjl : j < l.length := by rw [← HN.out]; exact hlt
        obtain ⟨g, q, rfl, -, q0⟩ := (HR.out wr HX.out.bl).at hjl
        obtain ⟨x, hx⟩ : ∃ x, x = l[j] := ⟨_, rfl⟩
        obtain ⟨p, hp⟩ : ∃ p, p = q + j := ⟨_, rfl⟩
        rw [← hx, ← hp] at q0
        have HLK := hid (HEM.out wr HX.out.bl)
        have hnd := (HNX.out j).symm
        have ep := hp.symm
        obtain ⟨j1, hj1⟩ : ∃ m, m = j + 1 := ⟨_, rfl⟩
        have e2 : (j : Int) + 1 = (j1 : Int) := by omega
        have ew2 : IntKind.i64.wrap (j1 : Int) = (j1 : Int) := by rw [IntKind.wrap_i64] <;> have := HLL.out <;> omega
        obtain ⟨oo, hoo⟩ : ∃ o, o = 32 * j := ⟨_, rfl⟩
        have eo : j * 32 = oo := by omega
        have HST := hid (fun (V : World) (k : LfW w O OD n D j V) => show LfW w O OD n D j1 (V.setCells D oo (ubs nd)) from by
          have := HSTO.out V D j k hlt
          rw [← hnd, ← hoo, ← hj1] at this
          exact this)
        have HTH := hid (fun (V : World) (k : LfW w O OD n D j V) => show V.there D oo 32 from by rw [hoo]; exact HTHR.out V D j k hlt)
        have HJL := hid (show j1 ≤ n by omega)
        have HMS := hid (show n - j1 < n - j by omega)
        obtain ⟨c0, c1, c2⟩ := HC.out _ HX.out.o
        clear hlt hj hjl hx hp hj1 hnd hoo HNX HSTO HTHR
        go_wp2_with (first
          | (go_at_call 91; refine HLK.out.mono ?_; rintro r4 w4 ⟨rfl, hb4⟩; have X4 := hid (HX.out.new hb4); clear hb4 q0 c0 c1 c2)
          | (refine wpList_store_mid rfl 25 (.tmp 53) (.tmp 51) rfl D oo (ubs nd).toArray rfl rfl ?t1 (sizeH_of HND.out) (ubs_all _) ?_; rotate_right; have X5 := hid (HST.out w4 X4.out); rw [List.toList_toArray]; generalize (w4.setCells D oo (ubs nd)) = w5 at X5 ⊢))
        case t1 => have := HTH.out w4 X4.out; simpa [ubs_length, HND.out] using this
        exact ⟨⟨j1, HJL.out, rfl, X5⟩, by
          show n - ((j1 : Int)).toNat < n - ((j : Int)).toNat
          rw [Int.toNat_natCast, Int.toNat_natCast]
          exact HMS.out⟩
      · obtain rfl : j = n := by omega
        have hd : decide ((j : Int) < (j : Int)) = false := by simp
        clear hlt hj
        go_wp2
        go_ret2
        refine ⟨some ⟨D, 0, none⟩, j, rfl, ?_, HX.out.bl⟩
        have := HX.out.r
        rw [HEND.out] at this
        exact Rd.of_at this 0 (fun q u hu => by rw [List.getElem?_toArray, Nat.zero_add]; exact hu) this.lt
end Go.Proofs.YtfmbpdjcoopaeaaDoor
