/-
  Layer 11, the document's side: Node.
  Layer 11, the document's side: Root.
-/
import Derived.Test.YtlmecjnlinalkaaDoorM1
import Derived.Test.YtlmecjnlinalkaaDoorK5
import Derived.Test.YtlmecjnlinalkaaDoorN1
import Derived.Test.YtlmecjnlinalkaaDoorNl0
namespace Go.Proofs.YtlmecjnlinalkaaDoor
open Go.RowKit

theorem run_eq_sd (w : World) (u v : Nat × Nat) (D : Nat) :
    (Op.equalIn (D + 3) 132 (.agg (sptV u).toArray) (.agg (sptV v).toArray)).run Tryd.prog w = .ok (u.1 == v.1 && u.2 == v.2) w := by
  have hs : Tryd.prog.underlying 132 = some (.struct (Tryd.prog.fieldsOf 132)) := by
    unfold Program.fieldsOf
    rw [Tryd.underlying132]
  rw [run_equalIn_struct w (D + 2) _ _ _ hs (by kernel_rfl)]
  have p1 := fun (u : Nat × Nat) => run_part_plain (P := Tryd.prog) w plainIx (xs := (sptV u).toArray) (off := 0) (v := .int .i64 (u.1 : Int)) rfl
  have p2 := fun (u : Nat × Nat) => run_part_plain (P := Tryd.prog) w plainUx (xs := (sptV u).toArray) (off := 1) (v := .int .u64 (u.2 : Int)) rfl
  have q1 := run_equalIn_int (P := Tryd.prog) w (D + 1) 3 .i64 .i64 (u.1 : Int) (v.1 : Int) Tryd.underlying3
  have q2 := run_equalIn_int (P := Tryd.prog) w (D + 1) 23 .u64 .u64 (u.2 : Int) (v.2 : Int) Tryd.underlying23
  have ef : ∃ f1 f2 : Field, (Tryd.prog.fieldsOf 132).toList = [f1, f2] ∧ (f1.name ≠ "_" ∧ f1.type = 3 ∧ f1.offset = 0) ∧ (f2.name ≠ "_" ∧ f2.type = 23 ∧ f2.offset = 1) := by
    unfold Program.fieldsOf
    rw [Tryd.underlying132]
    exact ⟨_, _, rfl, ⟨by decide, rfl, rfl⟩, ⟨by decide, rfl, rfl⟩⟩
  obtain ⟨f1, f2, el, ⟨n1, t1, o1⟩, ⟨n2, t2, o2⟩⟩ := ef
  rw [el, eqf_two w (D + 2) _ _ f1 f2 n1 n2 _ _ _ _ _ _ (by rw [t1, o1]; exact p1 u) (by rw [t1, o1]; exact p1 v) (by rw [t1]; exact q1) (by rw [t2, o2]; exact p2 u) (by rw [t2, o2]; exact p2 v) (by rw [t2]; exact q2)]
  rw [cast_beq, cast_beq]
theorem guardSd : Tryd.prog.eqGuardType Tryd.prog.depth 132 = false := by kernel_rfl
theorem run_eqlSd {o : Oper} {a : Go.Act} (t2 : TypeId) (x y : Operand) (ho : o.op = .binOp .eql 132 x y t2) (u v : Nat × Nat) (hx : a.eval x = .agg (sptV u).toArray) (hy : a.eval y = .agg (sptV v).toArray) (r : Bool) (hr : (u.1 == v.1 && u.2 == v.2) = r) (w : World) :
    (execOp a.eval o).run Tryd.prog w = .ok (.value (.bool r)) w :=
  run_eql_op _ _ x y ho _ _ hx hy guardSd r w (by rw [run_eql_struct, run_eq_sd w u v 9997, hr]; rfl)
theorem sizeSd : (Tryd.prog.info? 132).map (·.size) = some 2 := by kernel_rfl
theorem run_loadSd {o : Oper} {a : Go.Act} {W : World} (x : Operand) (ho : o.op = .load 132 x) (b off : Nat) (hx : a.eval x = .pointer (some ⟨b, off, none⟩)) (q : Nat × Nat) (hc : W.rangeAt b off (sptV q)) : (execOp a.eval o).run Tryd.prog W = .ok (.value (.agg (sptV q).toArray)) W :=
  run_load_part _ x ho b off hx (sptV q) _ hc Tryd.underlying132 rfl (by rw [sizeSd]; rfl)
set_option maxRecDepth 100000 in
set_option maxHeartbeats 2000000 in
theorem node_left (k p f m : Nat) (le : List UInt8) (S R : List (Nat × Nat)) (A AS AR AE AI : Option Addr) (c cS cR cE cI : Nat) (W : World) (hS : Rd W W.heap.size AS (sptR S)) (hR : Rd W W.heap.size AR (sptR R)) (hl : S.length ≤ 1000000) (hl2 : R.length ≤ 1000000) (hB : Rd W W.heap.size AE (ubs le)) (hbl : le.length = 32 * S.length) (i : Nat) (hi : i < S.length) (he : S[i] = (k, p)) (hno : ∀ j (h : j < i), S[j]'(by omega) ≠ (k, p)) :
    Calls Tryd.prog 86 #[.int .i64 (k : Int), .int .u64 (p : Int), .int .u64 (f : Int), .slice A m c, .slice AS S.length cS, .slice AR R.length cR, .slice AE S.length cE, .slice AI R.length cI] W fun r W' => r = .returned (.agg (ubs (hpart le i)).toArray) ∧ Below W.heap.size W W' := by
  obtain ⟨n, hn⟩ : ∃ n, n = S.length := ⟨_, rfl⟩
  obtain ⟨n2, hn2⟩ : ∃ n, n = R.length := ⟨_, rfl⟩
  have HN := hid hn
  have HN2 := hid hn2
  have HL := hid (show n ≤ 1000000 ∧ n2 ≤ 1000000 by omega)
  have HS := hid (fun (V : World) (b : Below W.heap.size W V) => ((hS.below b).mono b.size : Rd V V.heap.size AS (sptR S)))
  have HR := hid (fun (V : World) (b : Below W.heap.size W V) => ((hR.below b).mono b.size : Rd V V.heap.size AR (sptR R)))
  have HI := hid (show i < n by omega)
  have HNO := hid hno
  have HE := hid he
  have HB := hid (fun (V : World) (b : Below W.heap.size W V) => hpart_range ((hB.below b).mono b.size : Rd V V.heap.size AE (ubs le)) hbl hi)
  have HBL := hid (hpart_length (bs := le) hbl hi)
  have HBW := hid ((Below.refl W.heap.size W).alloc (Nat.le_refl _) (.cells (ubs n32).toArray 25))
  have HAT := hid (show At (W.alloc (.cells (ubs n32).toArray 25)) W.heap.size (ubs n32).toArray 25 from At.new _ _ _)
  have hz := noughts32
  rw [← hn, ← hn2]
  clear hS hR hB hbl hl hl2 hno hn hn2 he
  go_enter Tryd.func86, Tryd.ntmps86
  go_wp2
  generalize W.alloc (.cells (ubs n32).toArray 25) = W0 at HBW HAT ⊢
  go_loopw [17] (fun v17 wr => ∃ j : Nat, j ≤ i ∧ v17 = .int .i64 (j : Int) ∧ wr = W0) (fun v17 _ => n - (intOf v17).toNat)
  case atStart => exact ⟨0, by omega, rfl, rfl⟩
  case round =>
    obtain ⟨j, hj, rfl, ew0⟩ := hrel
    obtain rfl := ew0.symm
    have hlt : j < n := by have := HI.out; omega
    have d1 : decide ((j : Int) < (n : Int)) = true := by simp; omega
    have d1n : decide (j < n) = true := by simp; omega
    have ik : (j : Int) < (n : Int) := by omega
    have hjS : j < S.length := by rw [← HN.out]; exact hlt
    obtain ⟨g, o, rfl, hra⟩ := sptR_in (HS.out W0 HBW.out) hjS
    obtain ⟨q, hq⟩ : ∃ q, q = o + 2 * j := ⟨_, rfl⟩
    rw [← hq] at hra
    have eq : o + j * 2 = q := by omega
    have HRA := hid hra
    clear hra hq
    obtain ⟨u, hu⟩ : ∃ u, u = S[j] := ⟨_, rfl⟩
    rw [← hu] at HRA
    by_cases hji : j = i
    · subst hji
      have heq : (u.1 == k && u.2 == p) = true := by rw [hu, HE.out]; simp
      have HEQ := hid heq
      obtain ⟨g3, o3, rfl, -, hb3⟩ := HB.out W0 HBW.out
      obtain ⟨q3, hq3⟩ : ∃ q, q = o3 + 32 * j := ⟨_, rfl⟩
      rw [← hq3] at hb3
      have HB3 := hid hb3
      obtain ⟨hp, hhp⟩ : ∃ h, h = hpart le j := ⟨_, rfl⟩
      have HHP := hid hhp
      rw [← hhp] at HB3 HBL
      clear hhp
      have eq3 : o3 + j * 32 = q3 := by omega
      clear hu heq hb3 hq3 hj
      go_wp2_with (first
        | (refine wpList_valW (by rfl) (run_loadSd (.tmp 27) rfl g q rfl u HRA.out) ?_)
        | (refine wpList_valW (by rfl) (run_eqlSd _ (.tmp 28) (.tmp 31) rfl u (k, p) rfl rfl true HEQ.out W0) ?_)
        | (refine wpList_valW (by rfl) (run_loadH (.tmp 35) rfl g3 q3 rfl hp HB3.out HBL.out) ?_)
        | (refine wpList_store_row rfl _ (.tmp 16) (.tmp 36) rfl W.heap.size (ubs hp).toArray rfl rfl 25 (ubs n32).toArray HAT.out (sizeH_of HBL.out) ?e5 (ubs_all _) ?e6; rotate_right))
      case e5 => simp [ubs_length, n32_length, HBL.out]
      refine bodyPost_ret (results_cell_row rfl _ _ W.heap.size 25 (ubs hp).toArray (0, 0) _ rfl (setRow_heap _ _ (ubs n32).toArray _ _ _ HAT.out) Tryd.underlying25 rfl (sizeH_of HBL.out)) rfl ?_
      exact ⟨by rw [← HHP.out], below_setRow HBW.out (Nat.le_refl _) _⟩
    · have heq : (u.1 == k && u.2 == p) = false := by
        have hne := HNO.out j (by omega)
        rw [← hu] at hne
        cases hh : (u.1 == k && u.2 == p) with
        | false => rfl
        | true =>
          simp only [Bool.and_eq_true, beq_iff_eq] at hh
          exact absurd (Prod.ext hh.1 hh.2) hne
      have HEQ := hid heq
      obtain ⟨j1, hj1⟩ : ∃ m, m = j + 1 := ⟨_, rfl⟩
      have e2 : (j : Int) + 1 = (j1 : Int) := by omega
      have ew : IntKind.i64.wrap (j1 : Int) = (j1 : Int) := by rw [IntKind.wrap_i64] <;> have := HL.out.1 <;> omega
      have HM := hid (show j1 ≤ i ∧ n - j1 < n - j by omega)
      clear hu heq hj hj1 hji
      go_wp2_with (first
        | (refine wpList_valW (by rfl) (run_loadSd (.tmp 27) rfl g q rfl u HRA.out) ?_)
        | (refine wpList_valW (by rfl) (run_eqlSd _ (.tmp 28) (.tmp 31) rfl u (k, p) rfl rfl false HEQ.out W0) ?_))
      exact ⟨⟨j1, HM.out.1, rfl, trivial⟩, by
        show n - ((j1 : Int)).toNat < n - ((j : Int)).toNat
        rw [Int.toNat_natCast, Int.toNat_natCast]
        exact HM.out.2⟩
set_option maxRecDepth 100000 in
set_option maxHeartbeats 2000000 in
theorem node_right (k p f m : Nat) (ri : List UInt8) (S R : List (Nat × Nat)) (A AS AR AE AI : Option Addr) (c cS cR cE cI : Nat) (W : World) (hS : Rd W W.heap.size AS (sptR S)) (hR : Rd W W.heap.size AR (sptR R)) (hl : S.length ≤ 1000000) (hl2 : R.length ≤ 1000000) (hnS : (k, p) ∉ S) (hB : Rd W W.heap.size AI (ubs ri)) (hbl : ri.length = 32 * R.length) (i : Nat) (hi : i < R.length) (he : R[i] = (k, p)) (hno : ∀ j (h : j < i), R[j]'(by omega) ≠ (k, p)) :
    Calls Tryd.prog 86 #[.int .i64 (k : Int), .int .u64 (p : Int), .int .u64 (f : Int), .slice A m c, .slice AS S.length cS, .slice AR R.length cR, .slice AE S.length cE, .slice AI R.length cI] W fun r W' => r = .returned (.agg (ubs (hpart ri i)).toArray) ∧ Below W.heap.size W W' := by
  obtain ⟨n, hn⟩ : ∃ n, n = S.length := ⟨_, rfl⟩
  obtain ⟨n2, hn2⟩ : ∃ n, n = R.length := ⟨_, rfl⟩
  have HN := hid hn
  have HN2 := hid hn2
  have HL := hid (show n ≤ 1000000 ∧ n2 ≤ 1000000 by omega)
  have HS := hid (fun (V : World) (b : Below W.heap.size W V) => ((hS.below b).mono b.size : Rd V V.heap.size AS (sptR S)))
  have HR := hid (fun (V : World) (b : Below W.heap.size W V) => ((hR.below b).mono b.size : Rd V V.heap.size AR (sptR R)))
  have HI := hid (show i < n2 by omega)
  have HNO := hid hno
  have HE := hid he
  have HNS := hid hnS
  have HB := hid (fun (V : World) (b : Below W.heap.size W V) => hpart_range ((hB.below b).mono b.size : Rd V V.heap.size AI (ubs ri)) hbl hi)
  have HBL := hid (hpart_length (bs := ri) hbl hi)
  have HBW := hid ((Below.refl W.heap.size W).alloc (Nat.le_refl _) (.cells (ubs n32).toArray 25))
  have HAT := hid (show At (W.alloc (.cells (ubs n32).toArray 25)) W.heap.size (ubs n32).toArray 25 from At.new _ _ _)
  have hz := noughts32
  rw [← hn, ← hn2]
  clear hS hR hB hbl hl hl2 hno hn hn2 he hnS
  go_enter Tryd.func86, Tryd.ntmps86
  go_wp2
  generalize W.alloc (.cells (ubs n32).toArray 25) = W0 at HBW HAT ⊢
  go_loopw [17] (fun v17 wr => ∃ j : Nat, j ≤ n ∧ v17 = .int .i64 (j : Int) ∧ wr = W0) (fun v17 _ => n - (intOf v17).toNat)
  case atStart => exact ⟨0, by omega, rfl, rfl⟩
  case round =>
    obtain ⟨j, hj, rfl, ew0⟩ := hrel
    obtain rfl := ew0.symm
    by_cases hlt : j < n
    · have d1 : decide ((j : Int) < (n : Int)) = true := by simp; omega
      have d1n : decide (j < n) = true := by simp; omega
      have ik : (j : Int) < (n : Int) := by omega
      have hjS : j < S.length := by rw [← HN.out]; exact hlt
      obtain ⟨g, o, rfl, hra⟩ := sptR_in (HS.out W0 HBW.out) hjS
      obtain ⟨q, hq⟩ : ∃ q, q = o + 2 * j := ⟨_, rfl⟩
      rw [← hq] at hra
      have eq : o + j * 2 = q := by omega
      have HRA := hid hra
      clear hra hq
      obtain ⟨u, hu⟩ : ∃ u, u = S[j] := ⟨_, rfl⟩
      rw [← hu] at HRA
      have heq : (u.1 == k && u.2 == p) = false := by
        cases hh : (u.1 == k && u.2 == p) with
        | false => rfl
        | true =>
          simp only [Bool.and_eq_true, beq_iff_eq] at hh
          refine absurd ?_ HNS.out
          rw [show ((k, p) : Nat × Nat) = S[j] from by rw [← hu]; exact (Prod.ext hh.1 hh.2).symm]
          exact List.getElem_mem hjS
      have HEQ := hid heq
      obtain ⟨j1, hj1⟩ : ∃ m, m = j + 1 := ⟨_, rfl⟩
      have e2 : (j : Int) + 1 = (j1 : Int) := by omega
      have ew : IntKind.i64.wrap (j1 : Int) = (j1 : Int) := by rw [IntKind.wrap_i64] <;> have := HL.out.1 <;> omega
      have HM := hid (show j1 ≤ n ∧ n - j1 < n - j by omega)
      clear hu heq hj hj1 hlt hjS
      go_wp2_with (first
        | (refine wpList_valW (by rfl) (run_loadSd (.tmp 27) rfl g q rfl u HRA.out) ?_)
        | (refine wpList_valW (by rfl) (run_eqlSd _ (.tmp 28) (.tmp 31) rfl u (k, p) rfl rfl false HEQ.out W0) ?_))
      exact ⟨⟨j1, HM.out.1, rfl, trivial⟩, by
        show n - ((j1 : Int)).toNat < n - ((j : Int)).toNat
        rw [Int.toNat_natCast, Int.toNat_natCast]
        exact HM.out.2⟩
    · obtain rfl : j = n := by omega
      have d1 : decide ((j : Int) < (j : Int)) = false := by simp
      clear hlt hj
      go_wp2
      clear d1
      go_loopw [18] (fun v18 wr => ∃ j : Nat, j ≤ i ∧ v18 = .int .i64 (j : Int) ∧ wr = W0) (fun v18 _ => n2 - (intOf v18).toNat)
      case atStart => exact ⟨0, by omega, rfl, rfl⟩
      case round =>
        obtain ⟨j, hj, rfl, ew0⟩ := hrel
        obtain rfl := ew0.symm
        have hlt : j < n2 := by have := HI.out; omega
        have d1 : decide ((j : Int) < (n2 : Int)) = true := by simp; omega
        have d1n : decide (j < n2) = true := by simp; omega
        have ik : (j : Int) < (n2 : Int) := by omega
        have hjS : j < R.length := by rw [← HN2.out]; exact hlt
        obtain ⟨g, o, rfl, hra⟩ := sptR_in (HR.out W0 HBW.out) hjS
        obtain ⟨q, hq⟩ : ∃ q, q = o + 2 * j := ⟨_, rfl⟩
        rw [← hq] at hra
        have eq : o + j * 2 = q := by omega
        have HRA := hid hra
        clear hra hq
        obtain ⟨u, hu⟩ : ∃ u, u = R[j] := ⟨_, rfl⟩
        rw [← hu] at HRA
        by_cases hji : j = i
        · subst hji
          have heq : (u.1 == k && u.2 == p) = true := by rw [hu, HE.out]; simp
          have HEQ := hid heq
          obtain ⟨g3, o3, rfl, -, hb3⟩ := HB.out W0 HBW.out
          obtain ⟨q3, hq3⟩ : ∃ q, q = o3 + 32 * j := ⟨_, rfl⟩
          rw [← hq3] at hb3
          have HB3 := hid hb3
          obtain ⟨hp, hhp⟩ : ∃ h, h = hpart ri j := ⟨_, rfl⟩
          have HHP := hid hhp
          rw [← hhp] at HB3 HBL
          clear hhp
          have eq3 : o3 + j * 32 = q3 := by omega
          clear hu heq hb3 hq3 hj
          go_wp2_with (first
            | (refine wpList_valW (by rfl) (run_loadSd (.tmp 45) rfl g q rfl u HRA.out) ?_)
            | (refine wpList_valW (by rfl) (run_eqlSd _ (.tmp 46) (.tmp 49) rfl u (k, p) rfl rfl true HEQ.out W0) ?_)
            | (refine wpList_valW (by rfl) (run_loadH (.tmp 53) rfl g3 q3 rfl hp HB3.out HBL.out) ?_)
            | (refine wpList_store_row rfl _ (.tmp 16) (.tmp 54) rfl W.heap.size (ubs hp).toArray rfl rfl 25 (ubs n32).toArray HAT.out (sizeH_of HBL.out) ?e5 (ubs_all _) ?e6; rotate_right))
          case e5 => simp [ubs_length, n32_length, HBL.out]
          refine bodyPost_ret (results_cell_row rfl _ _ W.heap.size 25 (ubs hp).toArray (0, 0) _ rfl (setRow_heap _ _ (ubs n32).toArray _ _ _ HAT.out) Tryd.underlying25 rfl (sizeH_of HBL.out)) rfl ?_
          exact ⟨by rw [← HHP.out], below_setRow HBW.out (Nat.le_refl _) _⟩
        · have heq : (u.1 == k && u.2 == p) = false := by
            have hne := HNO.out j (by omega)
            rw [← hu] at hne
            cases hh : (u.1 == k && u.2 == p) with
            | false => rfl
            | true =>
              simp only [Bool.and_eq_true, beq_iff_eq] at hh
              exact absurd (Prod.ext hh.1 hh.2) hne
          have HEQ := hid heq
          obtain ⟨j1, hj1⟩ : ∃ m, m = j + 1 := ⟨_, rfl⟩
          have e2 : (j : Int) + 1 = (j1 : Int) := by omega
          have ew : IntKind.i64.wrap (j1 : Int) = (j1 : Int) := by rw [IntKind.wrap_i64] <;> have := HL.out.2 <;> omega
          have HM := hid (show j1 ≤ i ∧ n2 - j1 < n2 - j by omega)
          clear hu heq hj hj1 hji
          go_wp2_with (first
            | (refine wpList_valW (by rfl) (run_loadSd (.tmp 45) rfl g q rfl u HRA.out) ?_)
            | (refine wpList_valW (by rfl) (run_eqlSd _ (.tmp 46) (.tmp 49) rfl u (k, p) rfl rfl false HEQ.out W0) ?_))
          exact ⟨⟨j1, HM.out.1, rfl, trivial⟩, by
            show n2 - ((j1 : Int)).toNat < n2 - ((j : Int)).toNat
            rw [Int.toNat_natCast, Int.toNat_natCast]
            exact HM.out.2⟩
set_option maxRecDepth 100000 in
set_option maxHeartbeats 2000000 in
theorem node_leaf (p f m : Nat) (lv : List UInt8) (S R : List (Nat × Nat)) (A AS AR AE AI : Option Addr) (c cS cR cE cI : Nat) (W : World) (hS : Rd W W.heap.size AS (sptR S)) (hR : Rd W W.heap.size AR (sptR R)) (hl : S.length ≤ 1000000) (hl2 : R.length ≤ 1000000) (hnS : (0, p) ∉ S) (hnR : (0, p) ∉ R) (hB : Rd W W.heap.size A (ubs lv)) (hbl : lv.length = 32 * m) (hm : m ≤ 1000000) (hfp : f ≤ p) (hpf : p - f < m) :
    Calls Tryd.prog 86 #[.int .i64 (0 : Int), .int .u64 (p : Int), .int .u64 (f : Int), .slice A m c, .slice AS S.length cS, .slice AR R.length cR, .slice AE S.length cE, .slice AI R.length cI] W fun r W' => r = .returned (.agg (ubs (hpart lv (p - f))).toArray) ∧ Below W.heap.size W W' := by
  obtain ⟨n, hn⟩ : ∃ n, n = S.length := ⟨_, rfl⟩
  obtain ⟨n2, hn2⟩ : ∃ n, n = R.length := ⟨_, rfl⟩
  have HN := hid hn
  have HN2 := hid hn2
  have HL := hid (show n ≤ 1000000 ∧ n2 ≤ 1000000 by omega)
  have HS := hid (fun (V : World) (b : Below W.heap.size W V) => ((hS.below b).mono b.size : Rd V V.heap.size AS (sptR S)))
  have HR := hid (fun (V : World) (b : Below W.heap.size W V) => ((hR.below b).mono b.size : Rd V V.heap.size AR (sptR R)))
  have HNS := hid hnS
  have HNR := hid hnR
  obtain ⟨i, hii⟩ : ∃ i, i = p - f := ⟨_, rfl⟩
  rw [← hii]
  have hi : i < m := by omega
  have w1 : IntKind.u64.wrap ((p : Int) - (f : Int)) = (i : Int) := by simp [IntKind.wrap, IntKind.signed, IntKind.bits]; omega
  have w2 : IntKind.i64.wrap (i : Int) = (i : Int) := by rw [IntKind.wrap_i64] <;> omega
  have im : (i : Int) < (m : Int) := by omega
  have HB := hid (fun (V : World) (b : Below W.heap.size W V) => hpart_range ((hB.below b).mono b.size : Rd V V.heap.size A (ubs lv)) hbl hi)
  have HBL := hid (hpart_length (bs := lv) hbl hi)
  have HBW := hid ((Below.refl W.heap.size W).alloc (Nat.le_refl _) (.cells (ubs n32).toArray 25))
  have HAT := hid (show At (W.alloc (.cells (ubs n32).toArray 25)) W.heap.size (ubs n32).toArray 25 from At.new _ _ _)
  have hz := noughts32
  rw [← hn, ← hn2]
  clear hS hR hB hbl hl hl2 hn hn2 hnS hnR hii hpf hfp hi hm
  go_enter Tryd.func86, Tryd.ntmps86
  go_wp2
  generalize W.alloc (.cells (ubs n32).toArray 25) = W0 at HBW HAT ⊢
  go_loopw [17] (fun v17 wr => ∃ j : Nat, j ≤ n ∧ v17 = .int .i64 (j : Int) ∧ wr = W0) (fun v17 _ => n - (intOf v17).toNat)
  case atStart => exact ⟨0, by omega, rfl, rfl⟩
  case round =>
    obtain ⟨j, hj, rfl, ew0⟩ := hrel
    obtain rfl := ew0.symm
    by_cases hlt : j < n
    · have d1 : decide ((j : Int) < (n : Int)) = true := by simp; omega
      have d1n : decide (j < n) = true := by simp; omega
      have ik : (j : Int) < (n : Int) := by omega
      have hjS : j < S.length := by rw [← HN.out]; exact hlt
      obtain ⟨g, o, rfl, hra⟩ := sptR_in (HS.out W0 HBW.out) hjS
      obtain ⟨q, hq⟩ : ∃ q, q = o + 2 * j := ⟨_, rfl⟩
      rw [← hq] at hra
      have eq : o + j * 2 = q := by omega
      have HRA := hid hra
      clear hra hq
      obtain ⟨u, hu⟩ : ∃ u, u = S[j] := ⟨_, rfl⟩
      rw [← hu] at HRA
      have heq : (u.1 == 0 && u.2 == p) = false := by
        cases hh : (u.1 == 0 && u.2 == p) with
        | false => rfl
        | true =>
          simp only [Bool.and_eq_true, beq_iff_eq] at hh
          refine absurd ?_ HNS.out
          rw [show ((0, p) : Nat × Nat) = S[j] from by rw [← hu]; exact (Prod.ext hh.1 hh.2).symm]
          exact List.getElem_mem hjS
      have HEQ := hid heq
      obtain ⟨j1, hj1⟩ : ∃ m, m = j + 1 := ⟨_, rfl⟩
      have e2 : (j : Int) + 1 = (j1 : Int) := by omega
      have ew : IntKind.i64.wrap (j1 : Int) = (j1 : Int) := by rw [IntKind.wrap_i64] <;> have := HL.out.1 <;> omega
      have HM := hid (show j1 ≤ n ∧ n - j1 < n - j by omega)
      clear hu heq hj hj1 hlt hjS
      go_wp2_with (first
        | (refine wpList_valW (by rfl) (run_loadSd (.tmp 27) rfl g q rfl u HRA.out) ?_)
        | (refine wpList_valW (by rfl) (run_eqlSd _ (.tmp 28) (.tmp 31) rfl u (0, p) rfl rfl false HEQ.out W0) ?_))
      exact ⟨⟨j1, HM.out.1, rfl, trivial⟩, by
        show n - ((j1 : Int)).toNat < n - ((j : Int)).toNat
        rw [Int.toNat_natCast, Int.toNat_natCast]
        exact HM.out.2⟩
    · obtain rfl : j = n := by omega
      have d1 : decide ((j : Int) < (j : Int)) = false := by simp
      clear hlt hj
      go_wp2
      clear d1
      go_loopw [18] (fun v18 wr => ∃ j : Nat, j ≤ n2 ∧ v18 = .int .i64 (j : Int) ∧ wr = W0) (fun v18 _ => n2 - (intOf v18).toNat)
      case atStart => exact ⟨0, by omega, rfl, rfl⟩
      case round =>
        obtain ⟨j, hj, rfl, ew0⟩ := hrel
        obtain rfl := ew0.symm
        by_cases hlt : j < n2
        · have d1 : decide ((j : Int) < (n2 : Int)) = true := by simp; omega
          have d1n : decide (j < n2) = true := by simp; omega
          have ik : (j : Int) < (n2 : Int) := by omega
          have hjS : j < R.length := by rw [← HN2.out]; exact hlt
          obtain ⟨g, o, rfl, hra⟩ := sptR_in (HR.out W0 HBW.out) hjS
          obtain ⟨q, hq⟩ : ∃ q, q = o + 2 * j := ⟨_, rfl⟩
          rw [← hq] at hra
          have eq : o + j * 2 = q := by omega
          have HRA := hid hra
          clear hra hq
          obtain ⟨u, hu⟩ : ∃ u, u = R[j] := ⟨_, rfl⟩
          rw [← hu] at HRA
          have heq : (u.1 == 0 && u.2 == p) = false := by
            cases hh : (u.1 == 0 && u.2 == p) with
            | false => rfl
            | true =>
              simp only [Bool.and_eq_true, beq_iff_eq] at hh
              refine absurd ?_ HNR.out
              rw [show ((0, p) : Nat × Nat) = R[j] from by rw [← hu]; exact (Prod.ext hh.1 hh.2).symm]
              exact List.getElem_mem hjS
          have HEQ := hid heq
          obtain ⟨j1, hj1⟩ : ∃ m, m = j + 1 := ⟨_, rfl⟩
          have e2 : (j : Int) + 1 = (j1 : Int) := by omega
          have ew : IntKind.i64.wrap (j1 : Int) = (j1 : Int) := by rw [IntKind.wrap_i64] <;> have := HL.out.2 <;> omega
          have HM := hid (show j1 ≤ n2 ∧ n2 - j1 < n2 - j by omega)
          clear hu heq hj hj1 hlt hjS
          go_wp2_with (first
            | (refine wpList_valW (by rfl) (run_loadSd (.tmp 45) rfl g q rfl u HRA.out) ?_)
            | (refine wpList_valW (by rfl) (run_eqlSd _ (.tmp 46) (.tmp 49) rfl u (0, p) rfl rfl false HEQ.out W0) ?_))
          exact ⟨⟨j1, HM.out.1, rfl, trivial⟩, by
            show n2 - ((j1 : Int)).toNat < n2 - ((j : Int)).toNat
            rw [Int.toNat_natCast, Int.toNat_natCast]
            exact HM.out.2⟩
        · obtain rfl : j = n2 := by omega
          have d1 : decide ((j : Int) < (j : Int)) = false := by simp
          clear hlt hj
          obtain ⟨g3, o3, rfl, -, hb3⟩ := HB.out W0 HBW.out
          obtain ⟨q3, hq3⟩ : ∃ q, q = o3 + 32 * i := ⟨_, rfl⟩
          rw [← hq3] at hb3
          have HB3 := hid hb3
          obtain ⟨hp, hhp⟩ : ∃ h, h = hpart lv i := ⟨_, rfl⟩
          have HHP := hid hhp
          rw [← hhp] at HB3 HBL
          have eq3 : o3 + i * 32 = q3 := by omega
          clear hhp hb3 hq3
          go_wp2_with (first
            | (refine wpList_valW (by rfl) (run_loadH (.tmp 62) rfl g3 q3 rfl hp HB3.out HBL.out) ?_)
            | (refine wpList_store_row rfl _ (.tmp 16) (.tmp 63) rfl W.heap.size (ubs hp).toArray rfl rfl 25 (ubs n32).toArray HAT.out (sizeH_of HBL.out) ?e5 (ubs_all _) ?e6; rotate_right))
          case e5 => simp [ubs_length, n32_length, HBL.out]
          refine bodyPost_ret (results_cell_row rfl _ _ W.heap.size 25 (ubs hp).toArray (0, 0) _ rfl (setRow_heap _ _ (ubs n32).toArray _ _ _ HAT.out) Tryd.underlying25 rfl (sizeH_of HBL.out)) rfl ?_
          exact ⟨by rw [← HHP.out], below_setRow HBW.out (Nat.le_refl _) _⟩
/-- What Node answers for a level. -/
def SpanC (f z h m : Nat) (lv le ri : List UInt8) (S R : List (Nat × Nat)) (A AS AR AE AI : Option Addr) (c cS cR cE cI : Nat) (W : World) (k : Nat) : Prop := ∀ (p : Nat) (V : World), rchS f z h k p → Below W.heap.size W V →
  Calls Tryd.prog 86 #[.int .i64 (k : Int), .int .u64 (p : Int), .int .u64 (f : Int), .slice A m c, .slice AS S.length cS, .slice AR R.length cR, .slice AE S.length cE, .slice AI R.length cI] V fun r V' => r = .returned (.agg (ubs (spanN f (sidL f h) (sidR z h) lv le ri k p)).toArray) ∧ Below V.heap.size V V'
set_option maxRecDepth 100000 in
set_option maxHeartbeats 2000000 in
theorem node_step (k p f z h m : Nat) (lv le ri : List UInt8) (S R : List (Nat × Nat)) (A AS AR AE AI : Option Addr) (c cS cR cE cI : Nat) (W : World) (hSe : S = sidL f h) (hRe : R = sidR z h) (hk : k < 32) (hk1 : k + 1 ≤ h) (IH : SpanC f z h m lv le ri S R A AS AR AE AI c cS cR cE cI W k) (hr : rchS f z h (k + 1) p) (hnS : (k + 1, p) ∉ sidL f h) (hnR : (k + 1, p) ∉ sidR z h) (hp : p < 9223372036854775807) (hm : z - f + 1 = m) (hlv : lv.length = 32 * m) (hle : le.length = 32 * (sidL f h).length) (hri : ri.length = 32 * (sidR z h).length) (hS : Rd W W.heap.size AS (sptR S)) (hR : Rd W W.heap.size AR (sptR R)) (hl : S.length ≤ 1000000) (hl2 : R.length ≤ 1000000) (hT : Tabr W) (hI : Tab W 1 IV.l) :
    Calls Tryd.prog 86 #[.int .i64 ((k + 1 : Nat) : Int), .int .u64 (p : Int), .int .u64 (f : Int), .slice A m c, .slice AS S.length cS, .slice AR R.length cR, .slice AE S.length cE, .slice AI R.length cI] W fun r W' => r = .returned (.agg (ubs (spanN f (sidL f h) (sidR z h) lv le ri (k + 1) p)).toArray) ∧ Below W.heap.size W W' := by
  have hlr := rch_two hk1 hr hnS hnR
  rw [spanN_step hnS hnR]
  rw [← hSe] at hnS
  rw [← hRe] at hnR
  obtain ⟨n, hn⟩ : ∃ n, n = S.length := ⟨_, rfl⟩
  obtain ⟨n2, hn2⟩ : ∃ n, n = R.length := ⟨_, rfl⟩
  have HN := hid hn
  have HN2 := hid hn2
  have HL := hid (show n ≤ 1000000 ∧ n2 ≤ 1000000 by omega)
  have HS := hid (fun (V : World) (b : Below W.heap.size W V) => ((hS.below b).mono b.size : Rd V V.heap.size AS (sptR S)))
  have HR := hid (fun (V : World) (b : Below W.heap.size W V) => ((hR.below b).mono b.size : Rd V V.heap.size AR (sptR R)))
  obtain ⟨pL, hpL⟩ : ∃ q, q = 2 * p := ⟨_, rfl⟩
  obtain ⟨pR, hpR⟩ : ∃ q, q = pL + 1 := ⟨_, rfl⟩
  have mL : IntKind.u64.wrap (2 * (p : Int)) = (pL : Int) := by simp [IntKind.wrap, IntKind.signed, IntKind.bits]; omega
  have mR : IntKind.u64.wrap ((pL : Int) + 1) = (pR : Int) := by simp [IntKind.wrap, IntKind.signed, IntKind.bits]; omega
  rw [← hpL] at hlr
  rw [← hpR] at hlr
  have HNS := hid hnS
  have HNR := hid hnR
  have HCL := hid (fun (V : World) (b : Below W.heap.size W V) => IH pL V hlr.1 b)
  have HCR := hid (fun (V : World) (b : Below W.heap.size W V) => IH pR V hlr.2 b)
  have LX := hid (spanN_length hm hlv hle hri k pL hlr.1)
  have LY := hid (spanN_length hm hlv hle hri k pR hlr.2)
  rw [← hpL]
  rw [← hpR]
  generalize spanN f (sidL f h) (sidR z h) lv le ri k pL = x at HCL LX ⊢
  generalize spanN f (sidL f h) (sidR z h) lv le ri k pR = y at HCR LY ⊢
  obtain ⟨k1, hk2⟩ : ∃ m, m = k + 1 := ⟨_, rfl⟩
  rw [← hk2] at HNS HNR ⊢
  have nk : (k1 : Int) - 1 = (k : Int) := by omega
  have wk : IntKind.i64.wrap (k : Int) = (k : Int) := by simp [IntKind.wrap, IntKind.signed, IntKind.bits]; omega
  have d0 : decide ((k1 : Int) = 0) = false := by simp; omega
  have d0b : ((k1 : Int) == 0) = false := by simp; omega
  have d0n : decide (k1 = 0) = false := by simp; omega
  have HJ := hid (fun (V : World) (b : Below W.heap.size W V) => joinR_any k1 x y V LX.out LY.out (hT.below b) (Tab.below (x := IV.a) (xs := [IV.b, IV.c, IV.d, IV.e, IV.f, IV.g, IV.h]) hI b))
  have HHL := hid (hashL_length (joinT k1 x y))
  generalize hashL (joinT k1 x y) = t at HJ HHL ⊢
  have HBW := hid ((Below.refl W.heap.size W).alloc (Nat.le_refl _) (.cells (ubs n32).toArray 25))
  have HAT := hid (show At (W.alloc (.cells (ubs n32).toArray 25)) W.heap.size (ubs n32).toArray 25 from At.new _ _ _)
  have hz := noughts32
  rw [← hn] at HCL HCR ⊢
  rw [← hn2] at HCL HCR ⊢
  clear hS hR hl hl2 hn hn2 hnS hnR hk hk1 hk2 hr hlr hpL hpR hm hlv hle hri IH hT hI hp hSe hRe
  go_enter Tryd.func86, Tryd.ntmps86
  go_wp2
  generalize W.alloc (.cells (ubs n32).toArray 25) = W0 at HBW HAT ⊢
  go_loopw [17] (fun v17 wr => ∃ j : Nat, j ≤ n ∧ v17 = .int .i64 (j : Int) ∧ wr = W0) (fun v17 _ => n - (intOf v17).toNat)
  case atStart => exact ⟨0, by omega, rfl, rfl⟩
  case round =>
    obtain ⟨j, hj, rfl, ew0⟩ := hrel
    obtain rfl := ew0.symm
    by_cases hlt : j < n
    · have d1 : decide ((j : Int) < (n : Int)) = true := by simp; omega
      have d1n : decide (j < n) = true := by simp; omega
      have ik : (j : Int) < (n : Int) := by omega
      have hjS : j < S.length := by rw [← HN.out]; exact hlt
      obtain ⟨g, o, rfl, hra⟩ := sptR_in (HS.out W0 HBW.out) hjS
      obtain ⟨q, hq⟩ : ∃ q, q = o + 2 * j := ⟨_, rfl⟩
      rw [← hq] at hra
      have eq : o + j * 2 = q := by omega
      have HRA := hid hra
      clear hra hq
      obtain ⟨u, hu⟩ : ∃ u, u = S[j] := ⟨_, rfl⟩
      rw [← hu] at HRA
      have heq : (u.1 == k1 && u.2 == p) = false := by
        cases hh : (u.1 == k1 && u.2 == p) with
        | false => rfl
        | true =>
          simp only [Bool.and_eq_true, beq_iff_eq] at hh
          refine absurd ?_ HNS.out
          rw [show ((k1, p) : Nat × Nat) = S[j] from by rw [← hu]; exact (Prod.ext hh.1 hh.2).symm]
          exact List.getElem_mem hjS
      have HEQ := hid heq
      obtain ⟨j1, hj1⟩ : ∃ m, m = j + 1 := ⟨_, rfl⟩
      have e2 : (j : Int) + 1 = (j1 : Int) := by omega
      have ew : IntKind.i64.wrap (j1 : Int) = (j1 : Int) := by rw [IntKind.wrap_i64] <;> have := HL.out.1 <;> omega
      have HM := hid (show j1 ≤ n ∧ n - j1 < n - j by omega)
      clear hu heq hj hj1 hlt hjS
      go_wp2_with (first
        | (refine wpList_valW (by rfl) (run_loadSd (.tmp 27) rfl g q rfl u HRA.out) ?_)
        | (refine wpList_valW (by rfl) (run_eqlSd _ (.tmp 28) (.tmp 31) rfl u (k1, p) rfl rfl false HEQ.out W0) ?_))
      exact ⟨⟨j1, HM.out.1, rfl, trivial⟩, by
        show n - ((j1 : Int)).toNat < n - ((j : Int)).toNat
        rw [Int.toNat_natCast, Int.toNat_natCast]
        exact HM.out.2⟩
    · obtain rfl : j = n := by omega
      have d1 : decide ((j : Int) < (j : Int)) = false := by simp
      clear hlt hj
      go_wp2
      clear d1
      go_loopw [18] (fun v18 wr => ∃ j : Nat, j ≤ n2 ∧ v18 = .int .i64 (j : Int) ∧ wr = W0) (fun v18 _ => n2 - (intOf v18).toNat)
      case atStart => exact ⟨0, by omega, rfl, rfl⟩
      case round =>
        obtain ⟨j, hj, rfl, ew0⟩ := hrel
        obtain rfl := ew0.symm
        by_cases hlt : j < n2
        · have d1 : decide ((j : Int) < (n2 : Int)) = true := by simp; omega
          have d1n : decide (j < n2) = true := by simp; omega
          have ik : (j : Int) < (n2 : Int) := by omega
          have hjS : j < R.length := by rw [← HN2.out]; exact hlt
          obtain ⟨g, o, rfl, hra⟩ := sptR_in (HR.out W0 HBW.out) hjS
          obtain ⟨q, hq⟩ : ∃ q, q = o + 2 * j := ⟨_, rfl⟩
          rw [← hq] at hra
          have eq : o + j * 2 = q := by omega
          have HRA := hid hra
          clear hra hq
          obtain ⟨u, hu⟩ : ∃ u, u = R[j] := ⟨_, rfl⟩
          rw [← hu] at HRA
          have heq : (u.1 == k1 && u.2 == p) = false := by
            cases hh : (u.1 == k1 && u.2 == p) with
            | false => rfl
            | true =>
              simp only [Bool.and_eq_true, beq_iff_eq] at hh
              refine absurd ?_ HNR.out
              rw [show ((k1, p) : Nat × Nat) = R[j] from by rw [← hu]; exact (Prod.ext hh.1 hh.2).symm]
              exact List.getElem_mem hjS
          have HEQ := hid heq
          obtain ⟨j1, hj1⟩ : ∃ m, m = j + 1 := ⟨_, rfl⟩
          have e2 : (j : Int) + 1 = (j1 : Int) := by omega
          have ew : IntKind.i64.wrap (j1 : Int) = (j1 : Int) := by rw [IntKind.wrap_i64] <;> have := HL.out.2 <;> omega
          have HM := hid (show j1 ≤ n2 ∧ n2 - j1 < n2 - j by omega)
          clear hu heq hj hj1 hlt hjS
          go_wp2_with (first
            | (refine wpList_valW (by rfl) (run_loadSd (.tmp 45) rfl g q rfl u HRA.out) ?_)
            | (refine wpList_valW (by rfl) (run_eqlSd _ (.tmp 46) (.tmp 49) rfl u (k1, p) rfl rfl false HEQ.out W0) ?_))
          exact ⟨⟨j1, HM.out.1, rfl, trivial⟩, by
            show n2 - ((j1 : Int)).toNat < n2 - ((j : Int)).toNat
            rw [Int.toNat_natCast, Int.toNat_natCast]
            exact HM.out.2⟩
        · obtain rfl : j = n2 := by omega
          have d1 : decide ((j : Int) < (j : Int)) = false := by simp
          clear hlt hj
          clear HS HR HNS HNR
          go_wp2_with (first
            | (go_at_call 86; refine (HCL.out _ HBW.out).mono ?_; rintro r1 w1 ⟨rfl, b1⟩; have B1 := hid (HBW.out.trans (b1.mono HBW.out.size)); have A1 := hid (HAT.out.new_ b1); clear b1 HCL)
            | (go_at_call 86; refine (HCR.out _ B1.out).mono ?_; rintro r2 w2 ⟨rfl, b2⟩; have B2 := hid (B1.out.trans (b2.mono B1.out.size)); have A2 := hid (A1.out.new_ b2); clear b2 HCR)
            | (go_at_call 88; refine (HJ.out _ B2.out).mono ?_; rintro r3 w3 ⟨rfl, b3⟩; have B3 := hid (B2.out.trans (b3.mono B2.out.size)); have A3 := hid (A2.out.new_ b3); clear b3 HJ)
            | (refine wpList_store_row rfl _ (.tmp 16) (.tmp 88) rfl W.heap.size (ubs t).toArray rfl rfl 25 (ubs n32).toArray A3.out (sizeH_of HHL.out) ?e5 (ubs_all _) ?e6; rotate_right))
          case e5 => simp [ubs_length, n32_length, HHL.out]
          refine bodyPost_ret (results_cell_row rfl _ _ W.heap.size 25 (ubs t).toArray (0, 0) _ rfl (setRow_heap _ _ (ubs n32).toArray _ _ _ A3.out) Tryd.underlying25 rfl (sizeH_of HHL.out)) rfl ?_
          exact ⟨rfl, below_setRow B3.out (Nat.le_refl _) _⟩
theorem first_side {S : List (Nat × Nat)} {x : Nat × Nat} (h : x ∈ S) : ∃ hi : S.idxOf x < S.length, S[S.idxOf x] = x ∧ ∀ j (hj : j < S.idxOf x), S[j]'(by omega) ≠ x := by
  refine ⟨List.idxOf_lt_length_of_mem h, List.getElem_idxOf _, fun j hj e => ?_⟩
  have := List.not_of_lt_findIdx (p := fun y => y == x) (xs := S) (i := j) hj
  simp [e] at this
/-- Node, for every node that is reached. -/
theorem rch_small {f z h k p : Nat} (hz : z < 4294967296) (hf : f ≤ z) (hr : rchS f z h k p) : p ≤ 4294967296 := by
  rcases hr with hr | hr | hr
  · exact (sidL_in (by omega) h _ hr).2
  · exact (sidR_in hz h _ hr).2
  · have h1 : z >>> k ≤ z := by rw [Nat.shiftRight_eq_div_pow]; exact Nat.div_le_self _ _
    omega
theorem nodeN_any (f z h m : Nat) (lv le ri : List UInt8) (A AS AR AE AI : Option Addr) (c cS cR cE cI : Nat) (hh : h ≤ 32) (hf : f ≤ z) (hz : z < 4294967296) (hm : z - f + 1 = m) (hm2 : m ≤ 1000000) (hlv : lv.length = 32 * m) (hle : le.length = 32 * (sidL f h).length) (hri : ri.length = 32 * (sidR z h).length) : ∀ (k : Nat), k ≤ h → ∀ W : World, Rd W W.heap.size A (ubs lv) → Rd W W.heap.size AS (sptR (sidL f h)) → Rd W W.heap.size AR (sptR (sidR z h)) → Rd W W.heap.size AE (ubs le) → Rd W W.heap.size AI (ubs ri) → Tabr W → Tab W 1 IV.l →
    SpanC f z h m lv le ri (sidL f h) (sidR z h) A AS AR AE AI c cS cR cE cI W k
  | k, hk => fun W hV hS hR hE hI hT hN p V hr hb => by
    have b2 := hb.size
    have hV' := ((hV.below hb).mono b2 : Rd V V.heap.size A (ubs lv))
    have hS' := ((hS.below hb).mono b2 : Rd V V.heap.size AS (sptR (sidL f h)))
    have hR' := ((hR.below hb).mono b2 : Rd V V.heap.size AR (sptR (sidR z h)))
    have hE' := ((hE.below hb).mono b2 : Rd V V.heap.size AE (ubs le))
    have hI' := ((hI.below hb).mono b2 : Rd V V.heap.size AI (ubs ri))
    have hT' := hT.below hb
    have hN' := Tab.below (x := IV.a) (xs := [IV.b, IV.c, IV.d, IV.e, IV.f, IV.g, IV.h]) hN hb
    have hl := sidL_length f h
    have hl2 := sidR_length z h
    have hsm := rch_small hz hf hr
    by_cases h1 : (k, p) ∈ sidL f h
    · obtain ⟨hi, he, hno⟩ := first_side h1
      rw [spanN_left h1]
      exact node_left k p f m le (sidL f h) (sidR z h) A AS AR AE AI c cS cR cE cI V hS' hR' (by omega) (by omega) hE' hle _ hi he hno
    · by_cases h2 : (k, p) ∈ sidR z h
      · obtain ⟨hi, he, hno⟩ := first_side h2
        rw [spanN_right h1 h2]
        exact node_right k p f m ri (sidL f h) (sidR z h) A AS AR AE AI c cS cR cE cI V hS' hR' (by omega) (by omega) h1 hI' hri _ hi he hno
      · cases k with
        | zero =>
          have hq := rch_leaf hr h1 h2
          rw [spanN_leaf h1 h2]
          exact node_leaf p f m lv (sidL f h) (sidR z h) A AS AR AE AI c cS cR cE cI V hS' hR' (by omega) (by omega) h1 h2 hV' hlv hm2 hq.1 (by omega)
        | succ k =>
          exact node_step k p f z h m lv le ri _ _ A AS AR AE AI c cS cR cE cI V rfl rfl (by omega) hk (nodeN_any f z h m lv le ri A AS AR AE AI c cS cR cE cI hh hf hz hm hm2 hlv hle hri k (by omega) V hV' hS' hR' hE' hI' hT' hN') hr h1 h2 (by omega) hm hlv hle hri hS' hR' (by omega) (by omega) hT' hN'
end Go.Proofs.YtlmecjnlinalkaaDoor

namespace Go.Proofs.YtlmecjnlinalkaaDoor
open Go.RowKit

/-- The error's number of Root; the root, or noughts. -/
def ebS (h : Int) (f m nl nr : Nat) : Nat := if spanB h f (m : Int) then (if nl = (sidL f h.toNat).length then (if nr = (sidR (f + m - 1) h.toNat).length then 0 else 5) else 5) else 1
def rootSp (h : Int) (f m nl nr : Nat) (lv le ri : List UInt8) : List UInt8 := if ebS h f m nl nr = 0 then spanN f (sidL f h.toNat) (sidR (f + m - 1) h.toNat) lv le ri h.toNat 0 else n32
set_option maxRecDepth 100000 in
set_option maxHeartbeats 2000000 in
theorem rootR_no1 (h : Int) (f m nl nr c cE cI : Nat) (A AE AI : Option Addr) (W : World) (hf : f < 2 ^ 64) (hg : spanB h f (m : Int) = false) :
    Calls Tryd.prog 47 #[.int .i64 h, .int .u64 (f : Int), .slice A m c, .slice AE nl cE, .slice AI nr cI] W fun r W' => r = .returned (.tuple #[.agg (ubs (n32)).toArray, .int .i64 1]) ∧ Below W.heap.size W W' := by
  obtain ⟨n0, hn0⟩ : ∃ m, m = n32 := ⟨_, rfl⟩
  have HAH := hid (fun (o : Oper) (a : Go.Act) (W : World) (h : o.op = .alloc 25) => run_alloc_of (o := o) (a := a) (W := W) _ h _ zeroH8)
  have HBH := hid (fun (o : Oper) (a : Go.Act) (W : World) (h : o.op = .build 25 #[]) => run_build_hash0 (o := o) (a := a) (W := W) h)
  have HNL := hid (show n0.length = 32 by rw [hn0]; exact n32_length)
  rw [← hn0] at HAH HBH ⊢
  have hb1 : Below W.heap.size W (W.alloc (.cells (ubs n0).toArray 25)) := (Below.refl _ _).alloc (Nat.le_refl _) _
  have X1 := hid (At.new W (ubs n0).toArray 25)
  have B1 := hid hb1
  have HR := hid (right11R_any h (m : Int) f (W.alloc (.cells (ubs n0).toArray 25)) hf)
  rw [hg] at HR
  clear hf hg hn0 hb1
  go_enter Tryd.func47, Tryd.ntmps47
  go_wp2_with (first
    | (refine Great.wpList_allocTo rfl _ rfl _ _ (HAH.out _ _ _ rfl) ?_)
    | (go_at_call 42; refine HR.out.mono ?_; rintro r2 w2 ⟨rfl, hw2⟩; rw [hw2]; clear hw2 HR; generalize W.alloc (.cells (ubs n0).toArray 25) = w2 at X1 B1 ⊢)
    | (refine wpList_valW (by rfl) (HBH.out _ _ _ rfl) ?_)
    | (refine wpList_store_row rfl _ (.tmp 10) (.tmp 20) rfl W.heap.size (ubs n0).toArray rfl rfl 25 (ubs n0).toArray X1.out (sizeH_of HNL.out) ?e5 (ubs_all _) ?e6; rotate_right))
  case e5 => rfl
  refine bodyPost_ret (results_row_tmp rfl _ _ W.heap.size 25 (ubs n0).toArray (0, 0) _ rfl (setRow_heap _ _ _ _ _ _ X1.out) Tryd.underlying25 rfl (sizeH_of HNL.out)) rfl ?_
  exact ⟨rfl, below_setRow B1.out (Nat.le_refl _) _⟩
set_option maxRecDepth 100000 in
set_option maxHeartbeats 2000000 in
theorem rootR_no5 (h f m nl nr c cE cI : Nat) (A AE AI : Option Addr) (W : World) (hg : spanB (h : Int) f (m : Int) = true) (hne : nl ≠ (sidL f h).length ∨ nl = (sidL f h).length ∧ nr ≠ (sidR (f + m - 1) h).length) :
    Calls Tryd.prog 47 #[.int .i64 (h : Int), .int .u64 (f : Int), .slice A m c, .slice AE nl cE, .slice AI nr cI] W fun r W' => r = .returned (.tuple #[.agg (ubs (n32)).toArray, .int .i64 5]) ∧ Below W.heap.size W W' := by
  obtain ⟨k', n', e1, e2, hh, h0, h2, h3⟩ := spanB_parts hg
  obtain rfl : h = k' := by omega
  obtain rfl : m = n' := by omega
  have hpw : (2 : Nat) ^ h ≤ 2 ^ 32 := Nat.pow_le_pow_right (by omega) hh
  have hf : f < 2 ^ 64 := by omega
  have HSD := hid (fun (V : World) => sidesR_any h m f V hh h0 (by omega))
  obtain ⟨n0, hn0⟩ : ∃ m, m = n32 := ⟨_, rfl⟩
  have HAH := hid (fun (o : Oper) (a : Go.Act) (W : World) (h : o.op = .alloc 25) => run_alloc_of (o := o) (a := a) (W := W) _ h _ zeroH8)
  have HBH := hid (fun (o : Oper) (a : Go.Act) (W : World) (h : o.op = .build 25 #[]) => run_build_hash0 (o := o) (a := a) (W := W) h)
  have HNL := hid (show n0.length = 32 by rw [hn0]; exact n32_length)
  rw [← hn0] at HAH HBH ⊢
  have hb1 : Below W.heap.size W (W.alloc (.cells (ubs n0).toArray 25)) := (Below.refl _ _).alloc (Nat.le_refl _) _
  have X1 := hid (At.new W (ubs n0).toArray 25)
  have B1 := hid hb1
  have HR := hid (right11R_any (h : Int) (m : Int) f (W.alloc (.cells (ubs n0).toArray 25)) hf)
  rw [hg] at HR
  clear hf hg hn0 hb1 hh h0 h2 h3 hpw e1 e2
  obtain ⟨LL, hLL⟩ : ∃ L, L = sidL f h := ⟨_, rfl⟩
  obtain ⟨LR, hLR⟩ : ∃ L, L = sidR (f + m - 1) h := ⟨_, rfl⟩
  rw [← hLL] at HSD hne
  rw [← hLR] at HSD hne
  obtain ⟨n1, hn1⟩ : ∃ n, n = LL.length := ⟨_, rfl⟩
  obtain ⟨n2, hn2⟩ : ∃ n, n = LR.length := ⟨_, rfl⟩
  rw [← hn1] at HSD hne
  rw [← hn2] at HSD hne
  rcases hne with hne | ⟨he, hne⟩
  · have k1 : decide ((n1 : Int) = (nl : Int)) = false := by simp; omega
    have k1b : ((n1 : Int) == (nl : Int)) = false := by simp; omega
    have k1c : ((n1 : Int) != (nl : Int)) = true := by simp; omega
    have k1d : (n1 == nl) = false := by simp; omega
    have k1e : (n1 != nl) = true := by simp; omega
    clear hne hn1 hn2 hLL hLR
    go_enter Tryd.func47, Tryd.ntmps47
    go_wp2_with (first
      | (refine Great.wpList_allocTo rfl _ rfl _ _ (HAH.out _ _ _ rfl) ?_)
      | (go_at_call 42; refine HR.out.mono ?_; rintro r2 w2 ⟨rfl, hw2⟩; rw [hw2]; clear hw2 HR; generalize W.alloc (.cells (ubs n0).toArray 25) = w2 at X1 B1 ⊢)
      | (go_at_call 44; refine (HSD.out w2).mono ?_; rintro r3 w3 ⟨A1, c1, A2, c2, rfl, hs3⟩; have S3 := hid hs3; have X3 := hid (X1.out.new_ hs3.b); have B3 := hid (B1.out.trans (hs3.b.mono B1.out.size)); clear hs3)
      | (refine wpList_valW (by rfl) (HBH.out _ _ _ rfl) ?_)
      | (refine wpList_store_row rfl _ (.tmp 10) (.tmp 41) rfl W.heap.size (ubs n0).toArray rfl rfl 25 (ubs n0).toArray X3.out (sizeH_of HNL.out) ?e5 (ubs_all _) ?e6; rotate_right))
    case e5 => rfl
    refine bodyPost_ret (results_row_tmp rfl _ _ W.heap.size 25 (ubs n0).toArray (0, 0) _ rfl (setRow_heap _ _ _ _ _ _ X3.out) Tryd.underlying25 rfl (sizeH_of HNL.out)) rfl ?_
    exact ⟨rfl, below_setRow B3.out (Nat.le_refl _) _⟩
  · have k1 : decide ((n1 : Int) = (nl : Int)) = true := by simp; omega
    have k1b : ((n1 : Int) == (nl : Int)) = true := by simp; omega
    have k1c : ((n1 : Int) != (nl : Int)) = false := by simp; omega
    have k1d : (n1 == nl) = true := by simp; omega
    have k1e : (n1 != nl) = false := by simp; omega
    have l1 : decide ((n2 : Int) = (nr : Int)) = false := by simp; omega
    have l1b : ((n2 : Int) == (nr : Int)) = false := by simp; omega
    have l1c : ((n2 : Int) != (nr : Int)) = true := by simp; omega
    have l1d : (n2 == nr) = false := by simp; omega
    have l1e : (n2 != nr) = true := by simp; omega
    clear he hne hn1 hn2 hLL hLR
    go_enter Tryd.func47, Tryd.ntmps47
    go_wp2_with (first
      | (refine Great.wpList_allocTo rfl _ rfl _ _ (HAH.out _ _ _ rfl) ?_)
      | (go_at_call 42; refine HR.out.mono ?_; rintro r2 w2 ⟨rfl, hw2⟩; rw [hw2]; clear hw2 HR; generalize W.alloc (.cells (ubs n0).toArray 25) = w2 at X1 B1 ⊢)
      | (go_at_call 44; refine (HSD.out w2).mono ?_; rintro r3 w3 ⟨A1, c1, A2, c2, rfl, hs3⟩; have S3 := hid hs3; have X3 := hid (X1.out.new_ hs3.b); have B3 := hid (B1.out.trans (hs3.b.mono B1.out.size)); clear hs3)
      | (refine wpList_valW (by rfl) (HBH.out _ _ _ rfl) ?_)
      | (refine wpList_store_row rfl _ (.tmp 10) (.tmp 41) rfl W.heap.size (ubs n0).toArray rfl rfl 25 (ubs n0).toArray X3.out (sizeH_of HNL.out) ?e7 (ubs_all _) ?e8; rotate_right))
    case e7 => rfl
    refine bodyPost_ret (results_row_tmp rfl _ _ W.heap.size 25 (ubs n0).toArray (0, 0) _ rfl (setRow_heap _ _ _ _ _ _ X3.out) Tryd.underlying25 rfl (sizeH_of HNL.out)) rfl ?_
    exact ⟨rfl, below_setRow B3.out (Nat.le_refl _) _⟩
set_option maxRecDepth 100000 in
set_option maxHeartbeats 2000000 in
theorem rootR_ok (h f m c cE cI : Nat) (lv le ri : List UInt8) (A AE AI : Option Addr) (W : World) (hg : spanB (h : Int) f (m : Int) = true) (hlv : lv.length = 32 * m) (hle : le.length = 32 * (sidL f h).length) (hri : ri.length = 32 * (sidR (f + m - 1) h).length) (hV : Rd W W.heap.size A (ubs lv)) (hE : Rd W W.heap.size AE (ubs le)) (hI : Rd W W.heap.size AI (ubs ri)) (hT : Tabr W) (hN : Tab W 1 IV.l) :
    Calls Tryd.prog 47 #[.int .i64 (h : Int), .int .u64 (f : Int), .slice A m c, .slice AE (sidL f h).length cE, .slice AI (sidR (f + m - 1) h).length cI] W fun r W' => r = .returned (.tuple #[.agg (ubs (spanN f (sidL f h) (sidR (f + m - 1) h) lv le ri h 0)).toArray, .int .i64 0]) ∧ Below W.heap.size W W' := by
  obtain ⟨k', n', e1, e2, hh, h0, h2, h3⟩ := spanB_parts hg
  obtain rfl : h = k' := by omega
  obtain rfl : m = n' := by omega
  have hpw : (2 : Nat) ^ h ≤ 2 ^ 32 := Nat.pow_le_pow_right (by omega) hh
  have hf : f < 2 ^ 64 := by omega
  have HSD := hid (fun (V : World) => sidesR_any h m f V hh h0 (by omega))
  have HN := hid (fun (V : World) (A1 A2 : Option Addr) (c1 c2 : Nat) (b : Below W.heap.size W V) (hS : Rd V V.heap.size A1 (sptR (sidL f h))) (hR : Rd V V.heap.size A2 (sptR (sidR (f + m - 1) h))) => nodeN_any f (f + m - 1) h m lv le ri A A1 A2 AE AI c c1 c2 cE cI hh (by omega) (by omega) (by omega) (by omega) hlv hle hri h (Nat.le_refl _) V ((hV.below b).mono b.size) hS hR ((hE.below b).mono b.size) ((hI.below b).mono b.size) (hT.below b) (Tab.below (x := IV.a) (xs := [IV.b, IV.c, IV.d, IV.e, IV.f, IV.g, IV.h]) hN b) 0 V (.inr (.inr ⟨by rw [shr_all (show f < 2 ^ h by omega)]; omega, Nat.zero_le _⟩)) (Below.refl _ _))
  have HNL2 := hid (spanN_length (by omega) hlv hle hri h 0 (.inr (.inr ⟨by rw [shr_all (show f < 2 ^ h by omega)]; omega, Nat.zero_le _⟩)) : (spanN f (sidL f h) (sidR (f + m - 1) h) lv le ri h 0).length = 32)
  generalize spanN f (sidL f h) (sidR (f + m - 1) h) lv le ri h 0 = t at HN HNL2 ⊢
  obtain ⟨n0, hn0⟩ : ∃ m, m = n32 := ⟨_, rfl⟩
  have HAH := hid (fun (o : Oper) (a : Go.Act) (W : World) (h : o.op = .alloc 25) => run_alloc_of (o := o) (a := a) (W := W) _ h _ zeroH8)
  have HBH := hid (fun (o : Oper) (a : Go.Act) (W : World) (h : o.op = .build 25 #[]) => run_build_hash0 (o := o) (a := a) (W := W) h)
  have HNL := hid (show n0.length = 32 by rw [hn0]; exact n32_length)
  rw [← hn0] at HAH HBH
  have hb1 : Below W.heap.size W (W.alloc (.cells (ubs n0).toArray 25)) := (Below.refl _ _).alloc (Nat.le_refl _) _
  have X1 := hid (At.new W (ubs n0).toArray 25)
  have B1 := hid hb1
  have HR := hid (right11R_any (h : Int) (m : Int) f (W.alloc (.cells (ubs n0).toArray 25)) hf)
  rw [hg] at HR
  obtain ⟨LL, hLL⟩ : ∃ L, L = sidL f h := ⟨_, rfl⟩
  obtain ⟨LR, hLR⟩ : ∃ L, L = sidR (f + m - 1) h := ⟨_, rfl⟩
  rw [← hLL] at HSD HN ⊢
  rw [← hLR] at HSD HN ⊢
  have HSD2 := hid (fun (V : World) => (HSD.out V).mono fun r w' h => h)
  obtain ⟨n1, hn1⟩ : ∃ n, n = LL.length := ⟨_, rfl⟩
  obtain ⟨n2, hn2⟩ : ∃ n, n = LR.length := ⟨_, rfl⟩
  rw [← hn1] at HSD HN ⊢
  rw [← hn2] at HSD HN ⊢
  have HRD := hid (fun (w V : World) (A1 A2 : Option Addr) (c1 c2 : Nat) (h : SdW w (.slice A1 n1 c1) (.slice A2 n2 c2) LL LR V) => (⟨by rw [hn1] at h; exact h.l.rd, by rw [hn2] at h; exact h.r.rd⟩ : Rd V V.heap.size A1 (sptR LL) ∧ Rd V V.heap.size A2 (sptR LR)))
  clear HSD2 hf hg hb1 hh h0 h2 h3 hpw e1 e2 hlv hle hri hV hE hI hT hN hn1 hn2 hLL hLR hn0
  have k1 : decide ((n1 : Int) = (n1 : Int)) = true := by simp
  have k1b : ((n1 : Int) == (n1 : Int)) = true := by simp
  have k1c : ((n1 : Int) != (n1 : Int)) = false := by simp
  have k1d : (n1 == n1) = true := by simp
  have k1e : (n1 != n1) = false := by simp
  have l1 : decide ((n2 : Int) = (n2 : Int)) = true := by simp
  have l1b : ((n2 : Int) == (n2 : Int)) = true := by simp
  have l1c : ((n2 : Int) != (n2 : Int)) = false := by simp
  have l1d : (n2 == n2) = true := by simp
  have l1e : (n2 != n2) = false := by simp
  go_enter Tryd.func47, Tryd.ntmps47
  go_wp2_with (first
    | (refine Great.wpList_allocTo rfl _ rfl _ _ (HAH.out _ _ _ rfl) ?_)
    | (go_at_call 42; refine HR.out.mono ?_; rintro r2 w2 ⟨rfl, hw2⟩; rw [hw2]; clear hw2 HR; generalize W.alloc (.cells (ubs n0).toArray 25) = w2 at X1 B1 ⊢)
    | (go_at_call 44; refine (HSD.out w2).mono ?_; rintro r3 w3 ⟨A1, c1, A2, c2, rfl, hs3⟩; have S3 := hid hs3; have X3 := hid (X1.out.new_ hs3.b); have B3 := hid (B1.out.trans (hs3.b.mono B1.out.size)); clear hs3)
    | (go_at_call 86; refine (HN.out w3 A1 A2 c1 c2 B3.out (HRD.out _ _ _ _ _ _ S3.out).1 (HRD.out _ _ _ _ _ _ S3.out).2).mono ?_; rintro r4 w4 ⟨rfl, hb4⟩; have X4 := hid (X3.out.new_ hb4); have B4 := hid (B3.out.trans (hb4.mono B3.out.size)); clear hb4 HN)
    | (refine wpList_store_row rfl _ (.tmp 10) (.tmp 49) rfl W.heap.size (ubs t).toArray rfl rfl 25 (ubs n0).toArray X4.out (sizeH_of HNL2.out) ?e5 (ubs_all _) ?e6; rotate_right))
  case e5 => simp [ubs_length, HNL.out, HNL2.out]
  refine bodyPost_ret (results_row_tmp rfl _ _ W.heap.size 25 (ubs t).toArray (0, 0) _ rfl (setRow_heap _ _ _ _ _ _ X4.out) Tryd.underlying25 rfl (sizeH_of HNL2.out)) rfl ?_
  exact ⟨rfl, below_setRow B4.out (Nat.le_refl _) _⟩
/-- Root, for all arguments. -/
theorem root11R_any (h : Int) (f m nl nr c cE cI : Nat) (lv le ri : List UInt8) (A AE AI : Option Addr) (W : World) (hf : f < 2 ^ 64) (hlv : lv.length = 32 * m) (hle : le.length = 32 * nl) (hri : ri.length = 32 * nr) (hV : Rd W W.heap.size A (ubs lv)) (hE : Rd W W.heap.size AE (ubs le)) (hI : Rd W W.heap.size AI (ubs ri)) (hT : Tabr W) (hN : Tab W 1 IV.l) :
    Calls Tryd.prog 47 #[.int .i64 h, .int .u64 (f : Int), .slice A m c, .slice AE nl cE, .slice AI nr cI] W fun r W' => r = .returned (.tuple #[.agg (ubs (rootSp h f m nl nr lv le ri)).toArray, .int .i64 (ebS h f m nl nr : Nat)]) ∧ Below W.heap.size W W' := by
  unfold rootSp
  cases hg : spanB h f (m : Int) with
  | false =>
    have e : ebS h f m nl nr = 1 := by rw [ebS, hg]; rfl
    rw [e, if_neg (by decide)]
    exact rootR_no1 h f m nl nr c cE cI A AE AI W hf hg
  | true =>
    obtain ⟨k, n, e1, e2, -⟩ := spanB_parts hg
    subst e1
    rw [Int.toNat_natCast]
    by_cases h1 : nl = (sidL f k).length
    · by_cases h2 : nr = (sidR (f + m - 1) k).length
      · have e : ebS (k : Int) f m nl nr = 0 := by rw [ebS, hg, if_pos rfl, Int.toNat_natCast, if_pos h1, if_pos h2]
        rw [e, if_pos rfl]
        subst h1 h2
        exact rootR_ok k f m c cE cI lv le ri A AE AI W hg hlv hle hri hV hE hI hT hN
      · have e : ebS (k : Int) f m nl nr = 5 := by rw [ebS, hg, if_pos rfl, Int.toNat_natCast, if_pos h1, if_neg h2]
        rw [e, if_neg (by decide)]
        exact rootR_no5 k f m nl nr c cE cI A AE AI W hg (.inr ⟨h1, h2⟩)
    · have e : ebS (k : Int) f m nl nr = 5 := by rw [ebS, hg, if_pos rfl, Int.toNat_natCast, if_neg h1]
      rw [e, if_neg (by decide)]
      exact rootR_no5 k f m nl nr c cE cI A AE AI W hg (.inl h1)
end Go.Proofs.YtlmecjnlinalkaaDoor
