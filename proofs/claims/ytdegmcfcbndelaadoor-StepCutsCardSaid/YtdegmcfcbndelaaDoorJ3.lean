/-
  Layer 10, the document's side: climb: two nodes joined.
  Layer 10, the document's side: climb, for every node that is reached.
  Layer 10, the document's side: Texts.
  Layer 10, the document's side: Texts where there is a root; Check.
-/
import Derived.Test.YtdegmcfcbndelaaDoorK4
import Derived.Test.YtdegmcfcbndelaaDoorJ1
import Derived.Test.YtdegmcfcbndelaaDoorK6
import Derived.Test.YtdegmcfcbndelaaDoorK9
namespace Go.Proofs.YtdegmcfcbndelaaDoor
open Go.RowKit

theorem part_block {A : Option Addr} {bs : List UInt8} {c k n c2 : Nat} (h : (Part.v ⟨A, bs, c⟩).ownBlock = some k) : (Value.slice A n c2).ownBlock = some k := by
  cases A with
  | none => cases h
  | some a => exact h
/-- What climb answers for a height. -/
def ClimbC (l : List Nat) (lv bes : List UInt8) (S : List (Nat × Nat)) (k : Nat) : Prop := ∀ (p : Nat) (A AL AS AB : Option Addr) (c c2 cS cb : Nat) (W : World), p < 18446744073709551616 → (∀ q ∈ spotsS l k p, q ∈ S) → Nu W W.heap.size A l → Rd W W.heap.size AS (sptR S) → Rd W W.heap.size AL (ubs lv) → Rd W W.heap.size AB (ubs bes) → Tabr W → Tab W 1 IV.l →
  Calls Tryd.prog 80 #[.slice A l.length c, .slice AL l.length c2, .slice AS S.length cS, .slice AB S.length cb, .int .i64 (k : Int), .int .u64 (p : Int)] W fun r W' => ∃ (A1 : Option Addr) (c1 : Nat) (ps : List Part), r = .returned (.tuple #[.slice A1 ps.length c1, .agg (ubs (climbS l lv S bes k p).2).toArray]) ∧ ps.map (·.bs) = (climbS l lv S bes k p).1 ∧ Apt W' W.heap.size (.slice A1 ps.length c1) ps ∧ Below W.heap.size W W'
set_option maxRecDepth 100000 in
set_option maxHeartbeats 2000000 in
theorem climbR_step (l : List Nat) (lv bes : List UInt8) (S : List (Nat × Nat)) (hlv : lv.length = 32 * l.length) (hbes : bes.length = 32 * S.length) (hl : S.length ≤ 1000000) (k : Nat) (hk : k < 32) (IH : ClimbC l lv bes S k) (p : Nat) (A AL AS AB : Option Addr) (c c2 cS cb : Nat) (W : World) (hin : ∀ q ∈ spotsS l (k + 1) p, q ∈ S) (hnS : (k + 1, p) ∉ S) (hr : Nu W W.heap.size A l) (hS : Rd W W.heap.size AS (sptR S)) (hV : Rd W W.heap.size AL (ubs lv)) (hB : Rd W W.heap.size AB (ubs bes)) (hT : Tabr W) (hI : Tab W 1 IV.l) :
    Calls Tryd.prog 80 #[.slice A l.length c, .slice AL l.length c2, .slice AS S.length cS, .slice AB S.length cb, .int .i64 ((k + 1 : Nat) : Int), .int .u64 (p : Int)] W fun r W' => ∃ (A1 : Option Addr) (c1 : Nat) (ps : List Part), r = .returned (.tuple #[.slice A1 ps.length c1, .agg (ubs (climbS l lv S bes (k + 1) p).2).toArray]) ∧ ps.map (·.bs) = (climbS l lv S bes (k + 1) p).1 ∧ Apt W' W.heap.size (.slice A1 ps.length c1) ps ∧ Below W.heap.size W W' := by
  have hlr := spots_left hin hnS
  rw [climbS_step hnS]
  obtain ⟨pL, hpL⟩ : ∃ q, q = 2 * p % 18446744073709551616 := ⟨_, rfl⟩
  obtain ⟨pR, hpR⟩ : ∃ q, q = (2 * p + 1) % 18446744073709551616 := ⟨_, rfl⟩
  have mL : IntKind.u64.wrap (2 * (p : Int)) = (pL : Int) := by simp [IntKind.wrap, IntKind.signed, IntKind.bits]; omega
  have mR : IntKind.u64.wrap ((pL : Int) + 1) = (pR : Int) := by simp [IntKind.wrap, IntKind.signed, IntKind.bits]; omega
  rw [← hpL, ← hpR] at hlr
  have HIB := hid (fun (V : World) (b : Below W.heap.size W V) => Tab.below (x := IV.a) (xs := [IV.b, IV.c, IV.d, IV.e, IV.f, IV.g, IV.h]) hI b)
  have HTB := hid (fun (V : World) (b : Below W.heap.size W V) => hT.below b)
  have HCL := hid (fun (V : World) (b : Below W.heap.size W V) => IH pL A AL AS AB c c2 cS cb V (by omega) hlr.1 (hr.new b) ((hS.below b).mono b.size) ((hV.below b).mono b.size) ((hB.below b).mono b.size) (hT.below b) (HIB.out V b))
  have HCR := hid (fun (V : World) (b : Below W.heap.size W V) => IH pR A AL AS AB c c2 cS cb V (by omega) hlr.2 (hr.new b) ((hS.below b).mono b.size) ((hV.below b).mono b.size) ((hB.below b).mono b.size) (hT.below b) (HIB.out V b))
  have LX := hid (climbS_root hlv hbes k pL hlr.1)
  have LY := hid (climbS_root hlv hbes k pR hlr.2)
  have NX := hid (climbS_texts (l := l) (lv := lv) (S := S) (bes := bes) k pL)
  have NY := hid (climbS_texts (l := l) (lv := lv) (S := S) (bes := bes) k pR)
  have hpow : 2 ^ k ≤ 2 ^ 31 := Nat.pow_le_pow_right (by omega) (by omega)
  have HPW := hid (show 2 ^ k ≤ 2147483648 from hpow)
  rw [← hpL, ← hpR]
  generalize (climbS l lv S bes k pL).2 = x at HCL LX ⊢
  generalize (climbS l lv S bes k pL).1 = tx at HCL NX ⊢
  generalize (climbS l lv S bes k pR).2 = y at HCR LY ⊢
  generalize (climbS l lv S bes k pR).1 = ty at HCR NY ⊢
  obtain ⟨m, hm⟩ : ∃ m, m = k + 1 := ⟨_, rfl⟩
  rw [← hm] at hnS ⊢
  have HNS := hid hnS
  have nk : (m : Int) - 1 = (k : Int) := by omega
  have wk : IntKind.i64.wrap (k : Int) = (k : Int) := by simp [IntKind.wrap, IntKind.signed, IntKind.bits]; omega
  have d0 : decide ((m : Int) = 0) = false := by simp; omega
  have d0b : ((m : Int) == 0) = false := by simp; omega
  have d0n : decide (m = 0) = false := by simp; omega
  have HJT := hid (fun V => joinTextR_new m x y V LX.out LY.out)
  have HTL := hid (joinT_length m x y LX.out LY.out)
  generalize joinT m x y = tt at HJT HTL ⊢
  have HHL := hid (hashL_length tt)
  obtain ⟨n, hn⟩ : ∃ n, n = S.length := ⟨_, rfl⟩
  have HN := hid hn
  have HL := hid (show n ≤ 1000000 by omega)
  have HS := hid (fun (V : World) (b : Below W.heap.size W V) => ((hS.below b).mono b.size : Rd V V.heap.size AS (sptR S)))
  have HBW := hid ((Below.refl W.heap.size W).alloc (Nat.le_refl _) (.cells (ubs n32).toArray 25))
  have HAT := hid (show At (W.alloc (.cells (ubs n32).toArray 25)) W.heap.size (ubs n32).toArray 25 from At.new _ _ _)
  have HSU := hid (fun (V : World) (A : Option Addr) (c : Nat) (b : Below W.heap.size W V) (h : Rb V V.heap.size A tt) => show Calls Tryd.prog 105 #[.slice A 66 c] V (fun e w' => e = .returned (.agg (ubs (hashL tt)).toArray) ∧ Below V.heap.size V w') by
    have := sumR_any tt A c V h (by rw [HTL.out]; omega) (HTB.out V b) (HIB.out V b)
    rw [HTL.out] at this
    exact this)
  have hz := noughts32
  rw [← hn] at HCL HCR ⊢
  generalize l.length = ll at HCL HCR ⊢
  clear hlv hbes hl hk IH hin hnS hr hS hV hB hT hI hlr hpL hpR hm hn hpow HIB HTB
  go_enter Tryd.func80, Tryd.ntmps80
  go_wp2
  generalize W.alloc (.cells (ubs n32).toArray 25) = W0 at HBW HAT ⊢
  go_loopw [14] (fun v14 wr => ∃ j : Nat, j ≤ n ∧ v14 = .int .i64 (j : Int) ∧ wr = W0) (fun v14 _ => n - (intOf v14).toNat)
  case atStart => exact ⟨0, by omega, rfl, rfl⟩
  case round =>
    obtain ⟨j, hj, rfl, ew0⟩ := hrel
    obtain rfl := ew0.symm
    by_cases hlt : j < n
    · have d1 : decide ((j : Int) < (n : Int)) = true := by simp; omega
      have d1n : decide (j < n) = true := by simp; omega
      have ik : (j : Int) < (n : Int) := by omega
      have hjS : j < S.length := by rw [← HN.out]; exact hlt
      obtain ⟨g, o, rfl, hra⟩ := sptR_in (HS.out W0 HBW.out) hjS
      obtain ⟨q, hq⟩ : ∃ q, q = o + 2 * j := ⟨_, rfl⟩
      rw [← hq] at hra
      have eq : o + j * 2 = q := by omega
      have HRA := hid hra
      clear hra hq
      obtain ⟨u, hu⟩ : ∃ u, u = S[j] := ⟨_, rfl⟩
      rw [← hu] at HRA
      have heq : (u.1 == m && u.2 == p) = false := by
        cases hh : (u.1 == m && u.2 == p) with
        | false => rfl
        | true =>
          simp only [Bool.and_eq_true, beq_iff_eq] at hh
          refine absurd ?_ HNS.out
          rw [show ((m, p) : Nat × Nat) = S[j] from by rw [← hu]; exact (Prod.ext hh.1 hh.2).symm]
          exact List.getElem_mem hjS
      have HEQ := hid heq
      obtain ⟨j1, hj1⟩ : ∃ m, m = j + 1 := ⟨_, rfl⟩
      have e2 : (j : Int) + 1 = (j1 : Int) := by omega
      have ew : IntKind.i64.wrap (j1 : Int) = (j1 : Int) := by rw [IntKind.wrap_i64] <;> have := HL.out <;> omega
      have HM := hid (show j1 ≤ n ∧ n - j1 < n - j by omega)
      clear hu heq hj hj1 hlt hjS
      go_wp2_with (first
        | (refine wpList_valW (by rfl) (run_loadSp (.tmp 29) rfl g q rfl u HRA.out) ?_)
        | (refine wpList_valW (by rfl) (run_eqlSp _ (.tmp 30) (.tmp 33) rfl u (m, p) rfl rfl false HEQ.out W0) ?_))
      exact ⟨⟨j1, HM.out.1, rfl, trivial⟩, by
        show n - ((j1 : Int)).toNat < n - ((j : Int)).toNat
        rw [Int.toNat_natCast, Int.toNat_natCast]
        exact HM.out.2⟩
    · obtain rfl : j = n := by omega
      have d1 : decide ((j : Int) < (j : Int)) = false := by simp
      clear hlt hj HS HNS
      go_wp2_with (first
        | (go_at_call 80; refine (HCL.out _ HBW.out).mono ?_; rintro r1 w1 ⟨A1, c1, ps1, rfl, e1, a1, b1⟩; have E1 := hid e1; have P1 := hid a1; have B1 := hid b1; have R1 := hid (HAT.out.new_ b1); clear e1 a1 b1 HCL)
        | (refine wpList_store_row rfl _ (.tmp 17) (.tmp 68) rfl w1.heap.size (ubs x).toArray rfl rfl 25 (ubs n32).toArray (At.new w1 _ _) (sizeH_of LX.out) ?s1 (ubs_all _) ?s2; rotate_right; have b2 := below_setRow ((Below.refl w1.heap.size w1).alloc (Nat.le_refl _) (.cells (ubs n32).toArray 25)) (Nat.le_refl _) (ubs x).toArray; have X2 := hid (show At ((w1.alloc (.cells (ubs n32).toArray 25)).setRow w1.heap.size (ubs x).toArray) w1.heap.size (ubs x).toArray 25 from setRow_heap _ _ (ubs n32).toArray _ _ _ (At.new w1 _ _)); have P2 := hid (P1.out.kept b2); have R2 := hid (R1.out.new_ b2); have B2 := hid (B1.out.trans (b2.mono B1.out.size)); clear b2; generalize ((w1.alloc (.cells (ubs n32).toArray 25)).setRow w1.heap.size (ubs x).toArray) = w2 at X2 P2 R2 B2 ⊢)
        | (go_at_call 80; refine (HCR.out _ (HBW.out.trans (B2.out.mono HBW.out.size))).mono ?_; rintro r3 w3 ⟨A2, c4, ps2, rfl, e2, a2, b3⟩; have E2 := hid e2; have Q3 := hid a2; have P3 := hid (P2.out.kept b3); have R3 := hid (R2.out.new_ b3); have X3 := hid (X2.out.new_ b3); have S3 := hid b3.size; have B3 := hid (B2.out.trans (b3.mono B2.out.size)); clear e2 a2 b3 HCR)
        | (refine wpList_store_row rfl _ (.tmp 19) (.tmp 81) rfl w3.heap.size (ubs y).toArray rfl rfl 25 (ubs n32).toArray (At.new w3 _ _) (sizeH_of LY.out) ?s3 (ubs_all _) ?s4; rotate_right; have b4 := below_setRow ((Below.refl w3.heap.size w3).alloc (Nat.le_refl _) (.cells (ubs n32).toArray 25)) (Nat.le_refl _) (ubs y).toArray; have Y4 := hid (show At ((w3.alloc (.cells (ubs n32).toArray 25)).setRow w3.heap.size (ubs y).toArray) w3.heap.size (ubs y).toArray 25 from setRow_heap _ _ (ubs n32).toArray _ _ _ (At.new w3 _ _)); have P4 := hid (P3.out.kept b4); have Q4 := hid (Q3.out.kept b4); have X4 := hid (X3.out.new_ b4); have R4 := hid (R3.out.new_ b4); have S4 := hid (Nat.le_trans S3.out b4.size); have B4 := hid (B3.out.trans (b4.mono B3.out.size)); clear b4; generalize ((w3.alloc (.cells (ubs n32).toArray 25)).setRow w3.heap.size (ubs y).toArray) = w4 at Y4 P4 Q4 X4 R4 S4 B4 ⊢)
        | (refine wpList_valW (by rfl) (run_loadH (.tmp 17) rfl w1.heap.size 0 rfl x (range_whole X4.out) LX.out) ?_)
        | (refine wpList_valW (by rfl) (run_loadH (.tmp 19) rfl w3.heap.size 0 rfl y (range_whole Y4.out) LY.out) ?_)
        | (go_at_call 104; refine (HJT.out _).mono ?_; rintro r5 w5 ⟨A5, c5, rfl, rb5, k5, b5⟩; have T5 := hid rb5; have K5 := hid k5; have P5 := hid (P4.out.kept b5); have Q5 := hid (Q4.out.kept b5); have R5 := hid (R4.out.new_ b5); have B5 := hid (B4.out.trans (b5.mono B4.out.size)); clear rb5 k5 b5)
        | (refine wpList_append_pt (by rfl) (.tmp 86) (.tmp 87) rfl (.slice A1 ps1.length c1) (.slice A2 ps2.length c4) rfl rfl P5.out Q5.out B2.out.size (fun q hq k hk e => by have h1 := (Q5.out.2 q hq).2 k hk; have h2 := (P2.out.lt k e).2; omega) (by have h1 := congrArg List.length E1.out; have h2 := congrArg List.length E2.out; rw [List.length_map] at h1 h2; have := NX.out; have := NY.out; have := HPW.out; omega) B5.out.size ?_; intro A6 c6 w6 k1 k2 k3; have P6 := hid k1; have G6 := hid k3; have T6 := hid (Rb.grown T5.out k2 (fun b o e e' => by have h1 := K5.out b (by rw [e]; rfl); have h2 := (P2.out.lt b e').2; have h3 := S4.out; omega)); have R6 := hid (R5.out.grown k2 (fun e => by have h1 := (P5.out.lt _ e).1; have h2 := HAT.out.lt; omega)); have S6 := hid ((Below.refl W0.heap.size w5).grown k2 B5.out.size (fun k hk => (P5.out.lt k hk).1)).size; have B6 := hid (B5.out.grown k2 B5.out.size (fun k hk => (P5.out.lt k hk).1)); clear k1 k2 k3)
        | (refine wpList_valW (by rfl) (run_buildTx (.tmp 89) rfl ⟨A5, tt, c5⟩ (by unfold Part.v; rw [HTL.out]; rfl)) ?_)
        | (refine wpList_append_pt (by rfl) (.tmp 88) (.tmp 90) rfl (.slice A6 (ps1 ++ ps2).length c6) (.slice (some ⟨w6.heap.size, 0, none⟩) 1 1) (by rw [List.length_append]; rfl) rfl (P6.out.kept ((Below.refl _ _).alloc (Nat.le_refl _) _)) (Apt.lit (B := W0.heap.size) T6.out (fun k hk => by have h1 := K5.out k (part_block hk); have h2 := B4.out.size; have h3 := S6.out; omega) B6.out.size) (Nat.le_refl _) (fun q hq k hk e => by obtain rfl : q = ⟨A5, tt, c5⟩ := (by simpa using hq); have h1 := K5.out k (part_block hk); rcases G6.out with g | g; (· have h2 := (P2.out.lt k (g.symm.trans e)).2; have h3 := S4.out; omega); (· rw [g] at e; have h4 : w5.heap.size = k := (by simpa using e); omega)) (by have h1 := congrArg List.length E1.out; have h2 := congrArg List.length E2.out; rw [List.length_map] at h1 h2; rw [List.length_append]; have := NX.out; have := NY.out; have := HPW.out; simp; omega) (B6.out.alloc B6.out.size _).size ?_; intro A7 c7 w7 k1 k2 k3; have P7 := hid k1; have R7 := hid (((R6.out.alloc _).grown k2 (fun e => by have h1 := (P6.out.lt _ e).1; have h2 := HAT.out.lt; omega))); have B7 := hid ((B6.out.alloc B6.out.size _).grown k2 (B6.out.alloc B6.out.size _).size (fun k hk => (P6.out.lt k hk).1)); clear k1 k2 k3)
        | (go_at_call 105; refine (HSU.out w7 A5 c5 (HBW.out.trans (B7.out.mono HBW.out.size)) (P7.out.2 ⟨A5, tt, c5⟩ (by simp)).1).mono ?_; rintro r8 w8 ⟨rfl, b8⟩; have P8 := hid (P7.out.kept b8); have R8 := hid (R7.out.new_ b8); have B8 := hid (B7.out.trans (b8.mono B7.out.size)); clear b8)
        | (refine wpList_store_row rfl _ (.tmp 13) (.tmp 93) rfl W.heap.size (ubs (hashL tt)).toArray rfl rfl 25 (ubs n32).toArray R8.out (sizeH_of HHL.out) ?s5 (ubs_all _) ?s6; rotate_right))
      all_goals try (simp [ubs_length, n32_length, LX.out, LY.out, HHL.out]; done)
      refine bodyPost_ret (results_pair rfl _ _ W.heap.size 25 (ubs (hashL tt)).toArray (0, 0) _ rfl (setRow_heap _ _ (ubs n32).toArray _ _ _ R8.out) Tryd.underlying25 rfl (sizeH_of HHL.out)) rfl ?_
      refine ⟨A7, c7, ps1 ++ ps2 ++ [⟨A5, tt, c5⟩], ?_, ?_, (P8.out.row HAT.out.lt _).mono HBW.out.size, below_setRow (HBW.out.trans (B8.out.mono HBW.out.size)) (Nat.le_refl _) _⟩
      · first
          | (rw [List.length_append, List.length_append]; rfl)
          | (rw [List.length_append]; rfl)
          | rfl
      · rw [List.map_append, List.map_append, E1.out, E2.out]
        rfl
end Go.Proofs.YtdegmcfcbndelaaDoor

namespace Go.Proofs.YtdegmcfcbndelaaDoor
open Go.RowKit

theorem first_of {α : Type} [BEq α] [LawfulBEq α] {S : List α} {x : α} (h : x ∈ S) : ∃ hi : S.idxOf x < S.length, S[S.idxOf x] = x ∧ ∀ j (hj : j < S.idxOf x), S[j]'(by omega) ≠ x := by
  refine ⟨List.idxOf_lt_length_of_mem h, List.getElem_idxOf _, fun j hj e => ?_⟩
  have := List.not_of_lt_findIdx (p := fun y => y == x) (xs := S) (i := j) hj
  simp [e] at this
theorem climbR_any (l : List Nat) (lv bes : List UInt8) (S : List (Nat × Nat)) (hlv : lv.length = 32 * l.length) (hbes : bes.length = 32 * S.length) (hl : S.length ≤ 1000000) (hl2 : l.length ≤ 1000000) : ∀ k, k ≤ 32 → ClimbC l lv bes S k
  | k, hk => fun p A AL AS AB c c2 cS cb W hp hin hr hS hV hB hT hI => by
    by_cases h : (k, p) ∈ S
    · obtain ⟨hi, he, hno⟩ := first_of h
      refine (climb_spot k p l bes S A AL AS AB l.length c c2 cS cb W hS hB hbes hl _ hi he hno).mono ?_
      rintro r W' ⟨rfl, hb⟩
      rw [climbS_spot h]
      exact ⟨none, 0, [], rfl, rfl, Apt.nil _ _, hb⟩
    · cases k with
      | zero =>
        obtain ⟨hi, he, hno⟩ := first_of (leaf_of_not hin h)
        refine Calls.mono (climb_leaf p l lv S A AL AS AB S.length c c2 cS cb W hr hS hV hlv hl hl2 h _ hi he hno) ?_
        rintro r W' ⟨rfl, hb⟩
        rw [climbS_leaf h]
        exact ⟨none, 0, [], rfl, rfl, Apt.nil _ _, hb⟩
      | succ k => exact climbR_step l lv bes S hlv hbes hl k (by omega) (climbR_any l lv bes S hlv hbes hl hl2 k (by omega)) p A AL AS AB c c2 cS cb W hin h hr hS hV hB hT hI
end Go.Proofs.YtdegmcfcbndelaaDoor

namespace Go.Proofs.YtdegmcfcbndelaaDoor
open Go.RowKit

theorem results_mid {P : Program} {fn : Func} {u p v : Tmp} {ty : TypeId} (h : fn.results = #[.tmp u, .cell p ty, .tmp v]) (tmps : Array Value) (w : World) (g : Nat) (t : TypeId) (cs : Array Value) (fr : Nat × Nat) (d : TypeDesc)
    (hp : tmps.getD p undef = .pointer (some ⟨g, 0, none⟩)) (hg : w.heap[g]? = some (.cells cs t fr))
    (hu : P.underlying ty = some d) (hd : (match d with | .struct _ | .array _ _ => true | _ => false) = true) (hi : (P.info? ty).map (·.size) = some cs.size) :
    (results fn tmps).run P w = .ok (.tuple #[tmps.getD u undef, .agg cs, tmps.getD v undef]) w := by
  have hp' : tmps[p]?.getD undef = .pointer (some ⟨g, 0, none⟩) := by simpa using hp
  simp [results, h, hp', asAddr, Result.andThen, run_loadVar_row w g t ty cs fr d hg hu hd hi]
set_option maxRecDepth 100000 in
set_option maxHeartbeats 2000000 in
theorem textsR_no1 (h : Int) (l : List Nat) (A AL AB : Option Addr) (c nl cl nb cb : Nat) (W : World) (hr : Nu W W.heap.size A l) (hg : rgtB h l = false) :
    Calls Tryd.prog 41 #[.int .i64 h, .slice A l.length c, .slice AL nl cl, .slice AB nb cb] W fun r W' => r = .returned (.tuple #[.slice none 0 0, .agg (ubs n32).toArray, .int .i64 1]) ∧ Below W.heap.size W W' := by
  obtain ⟨m, hm⟩ : ∃ m, m = n32 := ⟨_, rfl⟩
  have HAH := hid (fun (o : Oper) (a : Go.Act) (W : World) (h : o.op = .alloc 25) => run_alloc_of (o := o) (a := a) (W := W) _ h _ zeroH8)
  have HBH := hid (fun (o : Oper) (a : Go.Act) (W : World) (h : o.op = .build 25 #[]) => run_build_hash0 (o := o) (a := a) (W := W) h)
  have HNL := hid (show m.length = 32 by rw [hm]; exact n32_length)
  rw [← hm] at HAH HBH ⊢
  have hb1 : Below W.heap.size W (W.alloc (.cells (ubs m).toArray 25)) := (Below.refl _ _).alloc (Nat.le_refl _) _
  have X1 := hid (At.new W (ubs m).toArray 25)
  have B1 := hid hb1
  have HR := hid (right10R_any h l A c (W.alloc (.cells (ubs m).toArray 25)) (hr.new hb1))
  rw [hg] at HR
  generalize l.length = n at HR ⊢
  clear hr hg hm hb1
  go_enter Tryd.func41, Tryd.ntmps41
  go_wp2_with (first
    | (refine Great.wpList_allocTo rfl _ rfl _ _ (HAH.out _ _ _ rfl) ?_)
    | (go_at_call 31; refine HR.out.mono ?_; rintro r2 w2 ⟨rfl, hb2⟩; have X2 := hid (X1.out.new_ hb2); have B2 := hid (B1.out.trans (hb2.mono B1.out.size)); clear hb2)
    | (refine wpList_valW (by rfl) (HBH.out _ _ _ rfl) ?_)
    | (refine wpList_store_row rfl _ (.tmp 9) (.tmp 18) rfl W.heap.size (ubs m).toArray rfl rfl 25 (ubs m).toArray X2.out (sizeH_of HNL.out) ?e5 (ubs_all _) ?e6; rotate_right))
  case e5 => rfl
  refine bodyPost_ret (results_mid rfl _ _ W.heap.size 25 (ubs m).toArray (0, 0) _ rfl (setRow_heap _ _ _ _ _ _ X2.out) Tryd.underlying25 rfl (sizeH_of HNL.out)) rfl ?_
  exact ⟨rfl, below_setRow B2.out (Nat.le_refl _) _⟩
set_option maxRecDepth 100000 in
set_option maxHeartbeats 2000000 in
theorem textsR_no2 (h : Int) (l : List Nat) (A AL AB : Option Addr) (c nl cl nb cb : Nat) (W : World) (hr : Nu W W.heap.size A l) (hg : rgtB h l = true) (hne : nl ≠ l.length) :
    Calls Tryd.prog 41 #[.int .i64 h, .slice A l.length c, .slice AL nl cl, .slice AB nb cb] W fun r W' => r = .returned (.tuple #[.slice none 0 0, .agg (ubs n32).toArray, .int .i64 2]) ∧ Below W.heap.size W W' := by
  obtain ⟨m, hm⟩ : ∃ m, m = n32 := ⟨_, rfl⟩
  have HAH := hid (fun (o : Oper) (a : Go.Act) (W : World) (h : o.op = .alloc 25) => run_alloc_of (o := o) (a := a) (W := W) _ h _ zeroH8)
  have HBH := hid (fun (o : Oper) (a : Go.Act) (W : World) (h : o.op = .build 25 #[]) => run_build_hash0 (o := o) (a := a) (W := W) h)
  have HNL := hid (show m.length = 32 by rw [hm]; exact n32_length)
  rw [← hm] at HAH HBH ⊢
  have hb1 : Below W.heap.size W (W.alloc (.cells (ubs m).toArray 25)) := (Below.refl _ _).alloc (Nat.le_refl _) _
  have X1 := hid (At.new W (ubs m).toArray 25)
  have B1 := hid hb1
  have HR := hid (right10R_any h l A c (W.alloc (.cells (ubs m).toArray 25)) (hr.new hb1))
  rw [hg] at HR
  obtain ⟨n, hn⟩ : ∃ n, n = l.length := ⟨_, rfl⟩
  rw [← hn] at HR hne ⊢
  have k1 : decide ((nl : Int) = (n : Int)) = false := by simp; omega
  have k1b : ((nl : Int) == (n : Int)) = false := by simp; omega
  have k1c : ((nl : Int) != (n : Int)) = true := by simp; omega
  have k1d : (nl == n) = false := by simpa using hne
  have k1e : (nl != n) = true := by simpa using hne
  clear hr hg hm hb1 hn hne
  go_enter Tryd.func41, Tryd.ntmps41
  go_wp2_with (first
    | (refine Great.wpList_allocTo rfl _ rfl _ _ (HAH.out _ _ _ rfl) ?_)
    | (go_at_call 31; refine HR.out.mono ?_; rintro r2 w2 ⟨rfl, hb2⟩; have X2 := hid (X1.out.new_ hb2); have B2 := hid (B1.out.trans (hb2.mono B1.out.size)); clear hb2)
    | (refine wpList_valW (by rfl) (HBH.out _ _ _ rfl) ?_)
    | (refine wpList_store_row rfl _ (.tmp 9) (.tmp 24) rfl W.heap.size (ubs m).toArray rfl rfl 25 (ubs m).toArray X2.out (sizeH_of HNL.out) ?e5 (ubs_all _) ?e6; rotate_right))
  case e5 => rfl
  refine bodyPost_ret (results_mid rfl _ _ W.heap.size 25 (ubs m).toArray (0, 0) _ rfl (setRow_heap _ _ _ _ _ _ X2.out) Tryd.underlying25 rfl (sizeH_of HNL.out)) rfl ?_
  exact ⟨rfl, below_setRow B2.out (Nat.le_refl _) _⟩
set_option maxRecDepth 100000 in
set_option maxHeartbeats 2000000 in
theorem textsR_no5 (h : Nat) (l : List Nat) (A AL AB : Option Addr) (c cl nb cb : Nat) (W : World) (hr : Nu W W.heap.size A l) (hg : rgtB (h : Int) l = true) (hne : nb ≠ (spotsS l h 0).length) :
    Calls Tryd.prog 41 #[.int .i64 (h : Int), .slice A l.length c, .slice AL l.length cl, .slice AB nb cb] W fun r W' => r = .returned (.tuple #[.slice none 0 0, .agg (ubs n32).toArray, .int .i64 5]) ∧ Below W.heap.size W W' := by
  obtain ⟨m, hm⟩ : ∃ m, m = n32 := ⟨_, rfl⟩
  have HAH := hid (fun (o : Oper) (a : Go.Act) (W : World) (h : o.op = .alloc 25) => run_alloc_of (o := o) (a := a) (W := W) _ h _ zeroH8)
  have HBH := hid (fun (o : Oper) (a : Go.Act) (W : World) (h : o.op = .build 25 #[]) => run_build_hash0 (o := o) (a := a) (W := W) h)
  have HNL := hid (show m.length = 32 by rw [hm]; exact n32_length)
  rw [← hm] at HAH HBH ⊢
  have hb1 : Below W.heap.size W (W.alloc (.cells (ubs m).toArray 25)) := (Below.refl _ _).alloc (Nat.le_refl _) _
  have X1 := hid (At.new W (ubs m).toArray 25)
  have B1 := hid hb1
  obtain ⟨hh, -, hlen, -, -⟩ := rgtB_parts hg
  have HR := hid (right10R_any (h : Int) l A c (W.alloc (.cells (ubs m).toArray 25)) (hr.new hb1))
  rw [hg] at HR
  have HSP := hid (fun (V : World) (b : Below W.heap.size W V) => show Calls Tryd.prog 74 #[.slice A l.length c, .int .i64 (h : Int), .int .u64 0] V (fun r W' => ∃ A1 c1, r = .returned (.slice A1 (spotsS l h 0).length c1) ∧ Asp W' V.heap.size (.slice A1 (spotsS l h 0).length c1) (spotsS l h 0) ∧ Below V.heap.size V W') from spotsR_any l (by omega) h hh 0 A c V (hr.new b) (by omega))
  obtain ⟨ns, hns⟩ : ∃ n, n = (spotsS l h 0).length := ⟨_, rfl⟩
  rw [← hns] at HSP hne
  obtain ⟨n, hn⟩ : ∃ n, n = l.length := ⟨_, rfl⟩
  rw [← hn] at HR HSP ⊢
  have k1 : decide ((nb : Int) = (ns : Int)) = false := by simp; omega
  have k1b : ((nb : Int) == (ns : Int)) = false := by simp; omega
  have k1c : ((nb : Int) != (ns : Int)) = true := by simp; omega
  have k1d : (nb == ns) = false := by simpa using hne
  have k1e : (nb != ns) = true := by simpa using hne
  clear hr hg hm hb1 hn hne hns hh hlen
  go_enter Tryd.func41, Tryd.ntmps41
  go_wp2_with (first
    | (refine Great.wpList_allocTo rfl _ rfl _ _ (HAH.out _ _ _ rfl) ?_)
    | (go_at_call 31; refine HR.out.mono ?_; rintro r2 w2 ⟨rfl, hb2⟩; have X2 := hid (X1.out.new_ hb2); have B2 := hid (B1.out.trans (hb2.mono B1.out.size)); clear hb2)
    | (go_at_call 74; refine (HSP.out w2 B2.out).mono ?_; rintro r3 w3 ⟨A3, c3, rfl, -, hb3⟩; have X3 := hid (X2.out.new_ hb3); have B3 := hid (B2.out.trans (hb3.mono B2.out.size)); clear hb3)
    | (refine wpList_valW (by rfl) (HBH.out _ _ _ rfl) ?_)
    | (refine wpList_store_row rfl _ (.tmp 9) (.tmp 33) rfl W.heap.size (ubs m).toArray rfl rfl 25 (ubs m).toArray X3.out (sizeH_of HNL.out) ?e5 (ubs_all _) ?e6; rotate_right))
  case e5 => rfl
  refine bodyPost_ret (results_mid rfl _ _ W.heap.size 25 (ubs m).toArray (0, 0) _ rfl (setRow_heap _ _ _ _ _ _ X3.out) Tryd.underlying25 rfl (sizeH_of HNL.out)) rfl ?_
  exact ⟨rfl, below_setRow B3.out (Nat.le_refl _) _⟩
end Go.Proofs.YtdegmcfcbndelaaDoor

namespace Go.Proofs.YtdegmcfcbndelaaDoor
open Go.RowKit

set_option maxRecDepth 100000 in
set_option maxHeartbeats 4000000 in
theorem textsR_ok (h : Nat) (l : List Nat) (lv bes : List UInt8) (A AL AB : Option Addr) (c cl cb : Nat) (W : World) (hr : Nu W W.heap.size A l) (hL : Rd W W.heap.size AL (ubs lv)) (hB : Rd W W.heap.size AB (ubs bes)) (hg : rgtB (h : Int) l = true) (hlv : lv.length = 32 * l.length) (hbes : bes.length = 32 * (spotsS l h 0).length) (hT : Tabr W) (hI : Tab W 1 IV.l) :
    Calls Tryd.prog 41 #[.int .i64 (h : Int), .slice A l.length c, .slice AL l.length cl, .slice AB (spotsS l h 0).length cb] W fun r W' => ∃ A1 c1 ps, r = .returned (.tuple #[.slice A1 (List.length ps) c1, .agg (ubs (climbS l lv (spotsS l h 0) bes h 0).2).toArray, .int .i64 0]) ∧ ps.map (·.bs) = (climbS l lv (spotsS l h 0) bes h 0).1 ∧ Apt W' W.heap.size (.slice A1 ps.length c1) ps ∧ Below W.heap.size W W' := by
  obtain ⟨m, hm⟩ : ∃ m, m = n32 := ⟨_, rfl⟩
  have HAH := hid (fun (o : Oper) (a : Go.Act) (W : World) (h : o.op = .alloc 25) => run_alloc_of (o := o) (a := a) (W := W) _ h _ zeroH8)
  have HNL := hid (show m.length = 32 by rw [hm]; exact n32_length)
  rw [← hm] at HAH
  have hb1 : Below W.heap.size W (W.alloc (.cells (ubs m).toArray 25)) := (Below.refl _ _).alloc (Nat.le_refl _) _
  have X1 := hid (At.new W (ubs m).toArray 25)
  have B1 := hid hb1
  obtain ⟨hh, -, hlen, -, -⟩ := rgtB_parts hg
  have hthou := spots_thousand hg
  have HR := hid (right10R_any (h : Int) l A c (W.alloc (.cells (ubs m).toArray 25)) (hr.new hb1))
  rw [hg] at HR
  have HSP := hid (fun (V : World) (b : Below W.heap.size W V) => show Calls Tryd.prog 74 #[.slice A l.length c, .int .i64 (h : Int), .int .u64 0] V (fun r W' => ∃ A1 c1, r = .returned (.slice A1 (spotsS l h 0).length c1) ∧ Asp W' V.heap.size (.slice A1 (spotsS l h 0).length c1) (spotsS l h 0) ∧ Below V.heap.size V W') from spotsR_any l (by omega) h hh 0 A c V (hr.new b) (by omega))
  have HCB := hid (fun (V : World) (AS : Option Addr) (cS : Nat) (b : Below W.heap.size W V) (hS : Rd V V.heap.size AS (sptR (spotsS l h 0))) => show Calls Tryd.prog 80 #[.slice A l.length c, .slice AL l.length cl, .slice AS (spotsS l h 0).length cS, .slice AB (spotsS l h 0).length cb, .int .i64 (h : Int), .int .u64 0] V (fun r W' => ∃ (A1 : Option Addr) (c1 : Nat) (ps : List Part), r = .returned (.tuple #[.slice A1 ps.length c1, .agg (ubs (climbS l lv (spotsS l h 0) bes h 0).2).toArray]) ∧ ps.map (·.bs) = (climbS l lv (spotsS l h 0) bes h 0).1 ∧ Apt W' V.heap.size (.slice A1 ps.length c1) ps ∧ Below V.heap.size V W') from
    climbR_any l lv bes (spotsS l h 0) hlv hbes (by omega) (by omega) h hh 0 A AL AS AB c cl cS cb V (by omega) (fun q hq => hq) (hr.new b) hS ((hL.below b).mono b.size) ((hB.below b).mono b.size) (hT.below b) (Tab.below (x := IV.a) (xs := [IV.b, IV.c, IV.d, IV.e, IV.f, IV.g, IV.h]) hI b))
  have HRL := hid (climbS_root (S := spotsS l h 0) hlv hbes h 0 (fun q hq => hq))
  generalize (climbS l lv (spotsS l h 0) bes h 0).2 = root at HCB HRL ⊢
  generalize (climbS l lv (spotsS l h 0) bes h 0).1 = tx at HCB ⊢
  have HRD := hid (fun (V : World) (B : Nat) (AS : Option Addr) (cS : Nat) (hA : Asp V B (.slice AS (spotsS l h 0).length cS) (spotsS l h 0)) => (hA.rd : Rd V V.heap.size AS (sptR (spotsS l h 0))))
  obtain ⟨sp, hsp⟩ : ∃ s, s = spotsS l h 0 := ⟨_, rfl⟩
  rw [← hsp] at HSP HCB HRD ⊢
  obtain ⟨ns, hns⟩ : ∃ n, n = sp.length := ⟨_, rfl⟩
  rw [← hns] at HSP HCB HRD ⊢
  obtain ⟨n, hn⟩ : ∃ n, n = l.length := ⟨_, rfl⟩
  rw [← hn] at HR HSP HCB ⊢
  have k1 : decide ((ns : Int) = (ns : Int)) = true := by simp
  have k2 : decide ((n : Int) = (n : Int)) = true := by simp
  clear hr hL hB hg hlv hbes hT hI hm hb1 hh hlen hthou hsp hns hn
  go_enter Tryd.func41, Tryd.ntmps41
  go_wp2_with (first
    | (refine Great.wpList_allocTo rfl _ rfl _ _ (HAH.out _ _ _ rfl) ?_)
    | (go_at_call 31; refine HR.out.mono ?_; rintro r2 w2 ⟨rfl, hb2⟩; have X2 := hid (X1.out.new_ hb2); have B2 := hid (B1.out.trans (hb2.mono B1.out.size)); clear hb2)
    | (go_at_call 74; refine (HSP.out w2 B2.out).mono ?_; rintro r3 w3 ⟨A3, c3, rfl, ha3, hb3⟩; have X3 := hid (X2.out.new_ hb3); have B3 := hid (B2.out.trans (hb3.mono B2.out.size)); have R3 := hid (HRD.out _ _ _ _ ha3); clear hb3 ha3)
    | (go_at_call 80; refine (HCB.out w3 A3 c3 B3.out R3.out).mono ?_; rintro r4 w4 ⟨A4, c4, ps, rfl, he4, ha4, hb4⟩; have X4 := hid (X3.out.new_ hb4); have P4 := hid (ha4.mono (show W.heap.size + 1 ≤ w3.heap.size from X3.out.lt)); have E4 := hid he4; have B4 := hid (B3.out.trans (hb4.mono B3.out.size)); clear he4 ha4 hb4)
    | (refine wpList_store_row rfl _ (.tmp 13) (.tmp 42) rfl w4.heap.size (ubs root).toArray rfl rfl 25 (ubs m).toArray (At.new _ _ _) (sizeH_of HRL.out) ?e5 (ubs_all _) ?e6; rotate_right))
  case e5 => simp [ubs_length, HNL.out, HRL.out]
  have hb5 : Below w4.heap.size w4 ((w4.alloc (.cells (ubs m).toArray 25)).setRow w4.heap.size (ubs root).toArray) := below_setRow ((Below.refl _ _).alloc (Nat.le_refl _) _) (Nat.le_refl _) _
  have X5 := hid (X4.out.new_ hb5)
  have P5 := hid (P4.out.kept hb5)
  have B5 := hid (B4.out.trans (hb5.mono B4.out.size))
  have G5 := hid (show At ((w4.alloc (.cells (ubs m).toArray 25)).setRow w4.heap.size (ubs root).toArray) w4.heap.size (ubs root).toArray 25 from setRow_heap _ _ _ _ _ _ (At.new _ _ _))
  have N5 := hid (show W.heap.size ≠ w4.heap.size from by have := X4.out.lt; omega)
  clear hb5
  generalize ((w4.alloc (.cells (ubs m).toArray 25)).setRow w4.heap.size (ubs root).toArray) = w5 at X5 P5 B5 G5 ⊢
  generalize w4.heap.size = G at G5 N5 ⊢
  have X6 := hid X5.out.drew
  have P6 := hid (P5.out.kept ((Below.refl _ _).drew))
  have B6 := hid B5.out.drew
  have G6 := hid G5.out.drew
  obtain ⟨w6, hw6⟩ : ∃ w, w = w5.drew := ⟨_, rfl⟩
  rw [← hw6] at X6 P6 B6 G6
  have HW6 := hid hw6.symm
  clear hw6
  refine wp_region_upto_in (fun V => At V G (ubs root).toArray 25) 4 5 HW6.out (by kernel_rfl) (by kernel_rfl) ?_
  refine wpUpto_takeL (i := 0) (v := .slice A4 ps.length c4) rfl rfl (by decide +kernel) (by decide +kernel) (by decide +kernel) (by decide +kernel) (by decide) (fun _ _ _ h => h) (Or.inl ⟨by rfl, ?_⟩) G6.out ?_
  · (intro W hSW; go_simp)
  simp only [List.set_cons_succ, List.set_cons_zero]
  refine wpUpto_takeL (i := 1) (v := .agg (ubs root).toArray) rfl rfl (by decide +kernel) (by decide +kernel) (by decide +kernel) (by decide +kernel) (by decide) (fun _ _ _ h => h) (Or.inl ⟨by rfl, ?_⟩) G6.out ?_
  · (intro W hSW; exact run_loadH (.tmp 13) rfl G 0 rfl root (range_whole hSW) HRL.out)
  simp only [List.set_cons_succ, List.set_cons_zero]
  refine wpUpto_takeL (i := 2) (v := .slice A4 ps.length c4) rfl rfl (by decide +kernel) (by decide +kernel) (by decide +kernel) (by decide +kernel) (by decide) (fun _ _ _ h => h) (Or.inl ⟨by rfl, ?_⟩) G6.out ?_
  · (intro W hSW; go_simp)
  simp only [List.set_cons_succ, List.set_cons_zero]
  refine wpUpto_one (i := 3) rfl (by decide +kernel) rfl ?_
  intro Q0 hQ0
  refine wp_unit (run_store_row 25 (.tmp 9) (.tmp 44) rfl W.heap.size (ubs root).toArray rfl rfl 25 (ubs m).toArray X6.out (sizeH_of HRL.out) (by simp [ubs_length, HNL.out, HRL.out]) (ubs_all _)) ?_
  have G7 := hid (show At (w6.setRow W.heap.size (ubs root).toArray) G (ubs root).toArray 25 from G6.out.setRow_far N5.out.symm)
  refine hQ0.out _ _ (fun _ => G7.out) ?_
  clear hQ0 Q0
  simp only [Act.put, List.setIfInBounds_toArray]
  refine wpUpto_one (i := 4) rfl (by decide +kernel) rfl ?_
  intro Q0 hQ0
  refine wp_val (w' := w6.setRow W.heap.size (ubs root).toArray) (v := .int .i64 0) (by go_simp) ?_
  refine hQ0.out _ _ (fun h => absurd rfl h) ?_
  clear hQ0 Q0
  simp only [Act.put]
  refine wpUpto_done (by decide +kernel) ?_ _
  go_simp
  go_wp2
  refine bodyPost_ret (results_mid rfl _ _ W.heap.size 25 (ubs root).toArray (0, 0) _ rfl (setRow_heap _ _ _ _ _ _ X6.out) Tryd.underlying25 rfl (sizeH_of HRL.out)) rfl ?_
  refine ⟨A4, c4, ps, rfl, E4.out, ?_, below_setRow B6.out (Nat.le_refl _) _⟩
  exact (P6.out.row (Nat.lt_succ_self _) _).mono (Nat.le_succ _)
/-- The document's Texts, for all arguments. -/
theorem textsR_any (h : Int) (l : List Nat) (lv bes : List UInt8) (A AL AB : Option Addr) (c nl cl nb cb : Nat) (W : World) (hr : Nu W W.heap.size A l) (hL : Rd W W.heap.size AL (ubs lv)) (hB : Rd W W.heap.size AB (ubs bes)) (hlv : lv.length = 32 * nl) (hbes : bes.length = 32 * nb) (hT : Tabr W) (hI : Tab W 1 IV.l) :
    Calls Tryd.prog 41 #[.int .i64 h, .slice A l.length c, .slice AL nl cl, .slice AB nb cb] W fun r W' => ∃ A1 c1 ps, r = .returned (.tuple #[.slice A1 (List.length ps) c1, .agg (ubs (rootS h l nl nb lv bes)).toArray, .int .i64 (ccB h l nl nb : Int)]) ∧ ps.map (·.bs) = textsS h l nl nb lv bes ∧ Apt W' W.heap.size (.slice A1 ps.length c1) ps ∧ Below W.heap.size W W' := by
  have bad : ∀ k : Nat, k ≠ 0 → ccB h l nl nb = k → Calls Tryd.prog 41 #[.int .i64 h, .slice A l.length c, .slice AL nl cl, .slice AB nb cb] W (fun r W' => r = .returned (.tuple #[.slice none 0 0, .agg (ubs n32).toArray, .int .i64 (k : Int)]) ∧ Below W.heap.size W W') → Calls Tryd.prog 41 #[.int .i64 h, .slice A l.length c, .slice AL nl cl, .slice AB nb cb] W fun r W' => ∃ A1 c1 ps, r = .returned (.tuple #[.slice A1 (List.length ps) c1, .agg (ubs (rootS h l nl nb lv bes)).toArray, .int .i64 (ccB h l nl nb : Int)]) ∧ ps.map (·.bs) = textsS h l nl nb lv bes ∧ Apt W' W.heap.size (.slice A1 ps.length c1) ps ∧ Below W.heap.size W W' := fun k h0 hk hc => by
    rw [rootS, textsS, hk, if_neg h0, if_neg h0]
    exact hc.mono fun r W' ⟨h1, h2⟩ => ⟨none, 0, [], h1, rfl, Apt.nil _ _, h2⟩
  cases hg : rgtB h l with
  | false =>
    refine bad 1 (by decide) (by unfold ccB; rw [hg]; rfl) ?_
    exact textsR_no1 h l A AL AB c nl cl nb cb W hr hg
  | true =>
    by_cases h1 : nl = l.length
    · obtain ⟨k, rfl⟩ := rgtB_nat hg
      by_cases h2 : nb = (spotsS l k 0).length
      · have e : ccB (k : Int) l nl nb = 0 := by unfold ccB; rw [hg, if_pos rfl, if_pos h1, Int.toNat_natCast, if_pos h2]
        rw [rootS, textsS, if_pos e, if_pos e, e, Int.toNat_natCast]
        subst h1 h2
        exact textsR_ok k l lv bes A AL AB c cl cb W hr hL hB hg hlv hbes hT hI
      · refine bad 5 (by decide) (by unfold ccB; rw [hg, if_pos rfl, if_pos h1, Int.toNat_natCast, if_neg h2]) ?_
        subst h1
        exact textsR_no5 k l A AL AB c cl nb cb W hr hg h2
    · refine bad 2 (by decide) (by unfold ccB; rw [hg, if_pos rfl, if_neg h1]) ?_
      exact textsR_no2 h l A AL AB c nl cl nb cb W hr hg h1
set_option maxRecDepth 100000 in
set_option maxHeartbeats 2000000 in
theorem checkR10_any (q : List UInt8) (hq : q.length = 32) (h : Int) (l : List Nat) (lv bes : List UInt8) (A AL AB : Option Addr) (c nl cl nb cb : Nat) (W : World) (hr : Nu W W.heap.size A l) (hL : Rd W W.heap.size AL (ubs lv)) (hB : Rd W W.heap.size AB (ubs bes)) (hlv : lv.length = 32 * nl) (hbes : bes.length = 32 * nb) (hT : Tabr W) (hI : Tab W 1 IV.l) :
    Calls Tryd.prog 81 #[.agg (ubs q).toArray, .int .i64 h, .slice A l.length c, .slice AL nl cl, .slice AB nb cb] W fun r W' => r = .returned (.int .i64 (ckB q h l nl nb lv bes : Int)) ∧ Below W.heap.size W W' := by
  obtain ⟨m, hm⟩ : ∃ m, m = n32 := ⟨_, rfl⟩
  have HAH := hid (fun (o : Oper) (a : Go.Act) (W : World) (h : o.op = .alloc 25) => run_alloc_of (o := o) (a := a) (W := W) _ h _ zeroH8)
  have HNL := hid (show m.length = 32 by rw [hm]; exact n32_length)
  have HQL := hid hq
  rw [← hm] at HAH
  obtain ⟨w0, hw0⟩ : ∃ w, w = W.alloc (.cells (ubs q).toArray 25) := ⟨_, rfl⟩
  have hb0 : Below W.heap.size W w0 := by rw [hw0]; exact (Below.refl _ _).alloc (Nat.le_refl _) _
  have X0 := hid (show At w0 W.heap.size (ubs q).toArray 25 by rw [hw0]; exact At.new _ _ _)
  have B0 := hid hb0
  have HTX := hid (textsR_any h l lv bes A AL AB c nl cl nb cb w0 (hr.new hb0) ((hL.below hb0).mono hb0.size) ((hB.below hb0).mono hb0.size) hlv hbes (hT.below hb0) (Tab.below (x := IV.a) (xs := [IV.b, IV.c, IV.d, IV.e, IV.f, IV.g, IV.h]) hI hb0))
  have HRL := hid (rootS_length (h := h) (l := l) hlv hbes)
  unfold ckB
  generalize rootS h l nl nb lv bes = root at HTX HRL ⊢
  generalize ccB h l nl nb = kx at HTX ⊢
  generalize textsS h l nl nb lv bes = tx at HTX
  generalize l.length = n at HTX ⊢
  clear hr hL hB hlv hbes hT hI hm hb0
  by_cases hk : kx = 0
  · subst hk
    rw [if_pos rfl]
    by_cases he : root = q
    · have HE := hid (show (root == q) = !false by simpa using he)
      rw [if_pos he]
      clear he
      go_enter Tryd.func81, Tryd.ntmps81
      go_wp2_with (first
        | (rw [← hw0]; clear hw0; go_at_call 41; refine HTX.out.mono ?_; rintro r1 w1 ⟨A1, c1, ps, rfl, -, -, hb1⟩; have B1 := hid (B0.out.trans (hb1.mono B0.out.size)); have X1 := hid (X0.out.new_ hb1); clear hb1)
        | (refine Great.wpList_allocTo rfl _ rfl _ _ (HAH.out _ _ _ rfl) ?_)
        | (refine wpList_store_row rfl _ (.tmp 12) (.tmp 21) rfl w1.heap.size (ubs root).toArray rfl rfl 25 (ubs m).toArray (At.new _ _ _) (sizeH_of HRL.out) (by simp [ubs_length, HNL.out, HRL.out]) (ubs_all _) ?_; have hb2 : Below w1.heap.size w1 ((w1.alloc (.cells (ubs m).toArray 25)).setRow w1.heap.size (ubs root).toArray) := below_setRow ((Below.refl _ _).alloc (Nat.le_refl _) _) (Nat.le_refl _) _; have B2 := hid (B1.out.trans (hb2.mono B1.out.size)); have X2 := hid (X1.out.new_ hb2); have G2 := hid (show At ((w1.alloc (.cells (ubs m).toArray 25)).setRow w1.heap.size (ubs root).toArray) w1.heap.size (ubs root).toArray 25 from setRow_heap _ _ _ _ _ _ (At.new _ _ _)); clear hb2; generalize ((w1.alloc (.cells (ubs m).toArray 25)).setRow w1.heap.size (ubs root).toArray) = w2 at B2 X2 G2 ⊢; generalize w1.heap.size = G at G2 ⊢)
        | (refine wpList_valW (by rfl) (run_loadH (.tmp 12) rfl G 0 rfl root (range_whole G2.out) HRL.out) ?_)
        | (refine wpList_valW (by rfl) (run_loadH (.tmp 5) rfl W.heap.size 0 rfl q (range_whole X2.out) HQL.out) ?_)
        | (refine wpList_valW (by rfl) (run_neqH _ (.tmp 26) (.tmp 27) rfl root q HRL.out HQL.out rfl rfl _ HE.out w2) ?_))
      go_ret
      exact ⟨rfl, B2.out⟩
    · have HE := hid (show (root == q) = !true by simpa using he)
      rw [if_neg he]
      clear he
      go_enter Tryd.func81, Tryd.ntmps81
      go_wp2_with (first
        | (rw [← hw0]; clear hw0; go_at_call 41; refine HTX.out.mono ?_; rintro r1 w1 ⟨A1, c1, ps, rfl, -, -, hb1⟩; have B1 := hid (B0.out.trans (hb1.mono B0.out.size)); have X1 := hid (X0.out.new_ hb1); clear hb1)
        | (refine Great.wpList_allocTo rfl _ rfl _ _ (HAH.out _ _ _ rfl) ?_)
        | (refine wpList_store_row rfl _ (.tmp 12) (.tmp 21) rfl w1.heap.size (ubs root).toArray rfl rfl 25 (ubs m).toArray (At.new _ _ _) (sizeH_of HRL.out) (by simp [ubs_length, HNL.out, HRL.out]) (ubs_all _) ?_; have hb2 : Below w1.heap.size w1 ((w1.alloc (.cells (ubs m).toArray 25)).setRow w1.heap.size (ubs root).toArray) := below_setRow ((Below.refl _ _).alloc (Nat.le_refl _) _) (Nat.le_refl _) _; have B2 := hid (B1.out.trans (hb2.mono B1.out.size)); have X2 := hid (X1.out.new_ hb2); have G2 := hid (show At ((w1.alloc (.cells (ubs m).toArray 25)).setRow w1.heap.size (ubs root).toArray) w1.heap.size (ubs root).toArray 25 from setRow_heap _ _ _ _ _ _ (At.new _ _ _)); clear hb2; generalize ((w1.alloc (.cells (ubs m).toArray 25)).setRow w1.heap.size (ubs root).toArray) = w2 at B2 X2 G2 ⊢; generalize w1.heap.size = G at G2 ⊢)
        | (refine wpList_valW (by rfl) (run_loadH (.tmp 12) rfl G 0 rfl root (range_whole G2.out) HRL.out) ?_)
        | (refine wpList_valW (by rfl) (run_loadH (.tmp 5) rfl W.heap.size 0 rfl q (range_whole X2.out) HQL.out) ?_)
        | (refine wpList_valW (by rfl) (run_neqH _ (.tmp 26) (.tmp 27) rfl root q HRL.out HQL.out rfl rfl _ HE.out w2) ?_))
      go_ret
      exact ⟨rfl, B2.out⟩
  · rw [if_neg hk]
    have k1 : decide ((kx : Int) = 0) = false := by simp; omega
    have k1b : ((kx : Int) == 0) = false := by simp; omega
    have k1c : decide (kx = 0) = false := by simpa using hk
    have k1d : (kx == 0) = false := by simpa using hk
    clear hk
    go_enter Tryd.func81, Tryd.ntmps81
    go_wp2_with (first
      | (rw [← hw0]; clear hw0; go_at_call 41; refine HTX.out.mono ?_; rintro r1 w1 ⟨A1, c1, ps, rfl, -, -, hb1⟩; have B1 := hid (B0.out.trans (hb1.mono B0.out.size)); have X1 := hid (X0.out.new_ hb1); clear hb1)
      | (refine Great.wpList_allocTo rfl _ rfl _ _ (HAH.out _ _ _ rfl) ?_)
      | (refine wpList_store_row rfl _ (.tmp 12) (.tmp 21) rfl w1.heap.size (ubs root).toArray rfl rfl 25 (ubs m).toArray (At.new _ _ _) (sizeH_of HRL.out) (by simp [ubs_length, HNL.out, HRL.out]) (ubs_all _) ?_; have hb2 : Below w1.heap.size w1 ((w1.alloc (.cells (ubs m).toArray 25)).setRow w1.heap.size (ubs root).toArray) := below_setRow ((Below.refl _ _).alloc (Nat.le_refl _) _) (Nat.le_refl _) _; have B2 := hid (B1.out.trans (hb2.mono B1.out.size)); have X2 := hid (X1.out.new_ hb2); have G2 := hid (show At ((w1.alloc (.cells (ubs m).toArray 25)).setRow w1.heap.size (ubs root).toArray) w1.heap.size (ubs root).toArray 25 from setRow_heap _ _ _ _ _ _ (At.new _ _ _)); clear hb2; generalize ((w1.alloc (.cells (ubs m).toArray 25)).setRow w1.heap.size (ubs root).toArray) = w2 at B2 X2 G2 ⊢; generalize w1.heap.size = G at G2 ⊢))
    go_ret
    exact ⟨rfl, B2.out⟩
end Go.Proofs.YtdegmcfcbndelaaDoor
