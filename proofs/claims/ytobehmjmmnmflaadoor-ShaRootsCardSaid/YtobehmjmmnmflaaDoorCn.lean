/-
  The program's numbers out of its tables, each held against its root.
-/
import Derived.Test.YtobehmjmmnmflaaDoorTh
import Derived.Test.YtobehmjmmnmflaaDoorHh
import Derived.BigQuiet
import Derived.Deep.Cut
namespace Go.Proofs.YtobehmjmmnmflaaDoor
open Go.RowKit

section
variable {P : Program} {ops : Array Oper} {Q : Exit → Act → World → Prop} {md : Region.Mode} {S : World → Prop} {z : Nat}
/-- Number i is taken first; the frame behind it written out. -/
theorem wpUpto_takeL {i t : Nat} {oi : Oper} {v : Value} {fuel : Nat} {listed : Array Bool} {l : List Value} {d : List Deferred} {w : World} (hi : ops[i]? = some oi) (hd : oi.dst = some t)
    (hs : Region.noSelect ops = true) (hf : Region.free md ops listed i = true) (hr : (Region.ready md ops listed).contains i = true) (hw : waits md ops z i = true) (hiz : i ≠ z)
    (hQ : ∀ c a w, Q (.panic c) (a.put oi.dst v) w → Q (.panic c) a w) (hy : YieldsIf P ops S oi v ⟨l.toArray, d⟩) (hS : S w)
    (h : wpUpto P md ops Q S z fuel (listed.setIfInBounds i true) ⟨(l.set t v).toArray, d⟩ w) : wpUpto P md ops Q S z (fuel + 1) listed ⟨l.toArray, d⟩ w := by
  refine wpUpto_take hi hs hf hr hw hiz hQ hy hS ?_
  rw [hd]
  simpa [Act.put] using h
/-- One alone can come up, behind a guard that lets it. -/
theorem wpUpto_oneC {i : Nat} {o : Oper} {fuel : Nat} {listed : Array Bool} {a : Act} {w : World} (ho : ops[i]? = some o) (hr : Region.ready md ops listed = [i]) (hg : Region.wanted o (yielded ops a.tmps) = true)
    (h : ∀ K : Act → World → Prop, RowKit.Hid (∀ a' w', (i ≠ z → S w') → wpUpto P md ops Q S z fuel (listed.setIfInBounds i true) a' w' → K a' w') → o.wp P a w K Q) : wpUpto P md ops Q S z (fuel + 1) listed a w := by
  refine ⟨fun h0 => (by rw [hr] at h0; cases h0), fun j hj => ?_⟩
  rw [hr] at hj
  obtain rfl : j = i := by simpa using hj
  unfold wpOp
  rw [ho]
  simp only [hg, if_true]
  exact .inl (h _ (fun _ _ h1 h2 => ⟨h1, h2⟩))
end
theorem w_neq_same (t : TypeId) (x : BitVec 32) : binOp .neq t (uw x) (uw x) = pure (.bool false) := by
  simp only [uw, binOp_neq]
  simp
theorem eqGuard_uw {P : Program} (op : BinOp) (t : TypeId) (p q : Operand) (x y : BitVec 32) (w : World) : (eqGuard op t p q (uw x) (uw y)).run P w = .ok () w := by
  unfold uw
  go_simp
/-- An error of package api. -/
def eV (n : Nat) : Value := .iface 29 (.int .i64 (n : Int))
set_option maxRecDepth 100000 in
set_option maxHeartbeats 600000 in
theorem constant_any (i : Nat) (hi : i < 64) (w : World) (hT : Tabs w) :
    Calls Tryd.prog 9 #[.int .i64 (i : Int)] w fun e w' => e = .returned (.tuple #[uw (KT.getD i 0), .nilIface]) ∧ Below w.heap.size w w' := by
  obtain ⟨t1, t2, t3, t4, t5⟩ := tc_ok hi
  have HTB := hid (fun W (hb : Below w.heap.size w W) => ((hT.below hb).k : Tab W 2 KT))
  have HC := hid (fun W (hb : Below w.heap.size w W) => Tab.at_ (HTB.out W hb) (i := i) (by rw [KT_length]; exact hi))
  have HP := hid (prime_any i (by omega))
  have HB := hid (beyondCube_any (prN i))
  have HF := hid (fun (W : World) => fraction_any 37 W.heap.size (prN i) (tc i) (.inr rfl) t1 t2 (W.alloc (.cells #[.int .u64 (prN i)] 52)) (At.new _ _ _) (fun W2 h2 => cube_tells (prN i) (tc i) W.heap.size (by have := (pr_le (k := i) (by omega)).2; omega) t1 t3 t4 W2 h2))
  obtain ⟨x, hx⟩ : ∃ x, x = KT.getD i 0#32 := ⟨_, rfl⟩
  have HV : (((tc i - 1) % 4294967296 : Nat) : Int) = (x.toNat : Int) := by rw [hx]; exact congrArg Int.ofNat t5
  have hne := w_neq_same 23 x
  have hx' : KT.getD i 0 = x := hx.symm
  rw [← hx] at HC
  have HF2 := hid (fun (W : World) => show Calls Tryd.prog 23 #[.func (.func 37) #[] #[.pointer (some ⟨W.heap.size, 0, none⟩)]] (W.alloc (.cells #[.int .u64 (prN i)] 52)) (fun e w' => e = .returned (uw x) ∧ Below W.heap.size W w') by
    refine (HF.out W).mono ?_
    rintro e w' ⟨rfl, rfl⟩
    refine ⟨?_, ((Below.refl _ _).alloc (Nat.le_refl _) _).alloc (by simp) _⟩
    rw [HV]
    rfl)
  rw [hx']
  clear t1 t2 t3 t4 t5 hx hx' hT HTB
  have c1 : decide ((i : Int) < 0) = false := by simp
  have c2 : decide ((64 : Int) ≤ (i : Int)) = false := by simp; omega
  clear HF HV
  have S0' := hid (Below.refl w.heap.size w)
  go_enter Tryd.func9, Tryd.ntmps9
  go_wp2
  have S0 := hid (below_drewN S0'.out 1)
  refine wp_region_upto (fun W => Below w.heap.size w W) 16 16 (by kernel_rfl) (by kernel_rfl) ?_
  refine wpUpto_takeL (i := 0) (v := .int .i64 (i : Int)) rfl rfl (by kernel_rfl) (by kernel_rfl) (by kernel_rfl) (by kernel_rfl) (by decide) (fun _ _ _ h => h) (Or.inl ⟨by rfl, ?_⟩) S0.out ?_
  · (intro W hSW; go_simp)
  simp only [List.set_cons_succ, List.set_cons_zero]
  refine wpUpto_takeL (i := 1) (v := .bool false) rfl rfl (by kernel_rfl) (by kernel_rfl) (by kernel_rfl) (by kernel_rfl) (by decide) (fun _ _ _ h => h) (Or.inl ⟨by rfl, ?_⟩) S0.out ?_
  · (intro W hSW; go_simp)
  simp only [List.set_cons_succ, List.set_cons_zero]
  refine wpUpto_takeL (i := 2) (v := .bool false) rfl rfl (by kernel_rfl) (by kernel_rfl) (by kernel_rfl) (by kernel_rfl) (by decide) (fun _ _ _ h => h) (Or.inl ⟨by rfl, ?_⟩) S0.out ?_
  · (intro W hSW; go_simp)
  simp only [List.set_cons_succ, List.set_cons_zero]
  refine wpUpto_takeL (i := 3) (v := .int .i64 (i : Int)) rfl rfl (by kernel_rfl) (by kernel_rfl) (by kernel_rfl) (by kernel_rfl) (by decide) (fun _ _ _ h => h) (Or.inl ⟨by rfl, ?_⟩) S0.out ?_
  · (intro W hSW; go_simp)
  simp only [List.set_cons_succ, List.set_cons_zero]
  refine wpUpto_takeL (i := 4) (v := .bool false) rfl rfl (by kernel_rfl) (by kernel_rfl) (by kernel_rfl) (by kernel_rfl) (by decide) (fun _ _ _ h => h) (Or.inl ⟨by rfl, ?_⟩) S0.out ?_
  · (intro W hSW; go_simp)
  simp only [List.set_cons_succ, List.set_cons_zero]
  refine wpUpto_takeL (i := 5) (v := .bool false) rfl rfl (by kernel_rfl) (by kernel_rfl) (by kernel_rfl) (by kernel_rfl) (by decide) (fun _ _ _ h => h) (Or.inl ⟨by rfl, ?_⟩) S0.out ?_
  · (intro W hSW; go_simp)
  simp only [List.set_cons_succ, List.set_cons_zero]
  refine wpUpto_takeL (i := 6) (v := .bool false) rfl rfl (by kernel_rfl) (by kernel_rfl) (by kernel_rfl) (by kernel_rfl) (by decide) (fun _ _ _ h => h) (Or.inl ⟨by rfl, ?_⟩) S0.out ?_
  · (intro W hSW; go_simp)
  simp only [List.set_cons_succ, List.set_cons_zero]
  refine wpUpto_takeL (i := 7) (v := .int .i64 (i : Int)) rfl rfl (by kernel_rfl) (by kernel_rfl) (by kernel_rfl) (by kernel_rfl) (by decide) (fun _ _ _ h => h) (Or.inl ⟨by rfl, ?_⟩) S0.out ?_
  · (intro W hSW; go_simp)
  simp only [List.set_cons_succ, List.set_cons_zero]
  refine wpUpto_takeL (i := 8) (v := .pointer (some ⟨2, i, none⟩)) rfl rfl (by kernel_rfl) (by kernel_rfl) (by kernel_rfl) (by kernel_rfl) (by decide) (fun _ _ _ h => h) (Or.inl ⟨by rfl, ?_⟩) S0.out ?_
  · (intro W hSW; go_simp; exact fun h => absurd h (by omega))
  simp only [List.set_cons_succ, List.set_cons_zero]
  refine wpUpto_takeL (i := 9) (v := uw x) rfl rfl (by kernel_rfl) (by kernel_rfl) (by kernel_rfl) (by kernel_rfl) (by decide) (fun _ _ _ h => h) (Or.inl ⟨by rfl, ?_⟩) S0.out ?_
  · (intro W hSW; have c0 := HC.out W hSW; go_simp)
  simp only [List.set_cons_succ, List.set_cons_zero]
  refine wpUpto_takeL (i := 10) (v := .int .i64 (i : Int)) rfl rfl (by kernel_rfl) (by kernel_rfl) (by kernel_rfl) (by kernel_rfl) (by decide) (fun _ _ _ h => h) (Or.inl ⟨by rfl, ?_⟩) S0.out ?_
  · (intro W hSW; go_simp)
  simp only [List.set_cons_succ, List.set_cons_zero]
  refine wpUpto_oneC (i := 11) rfl (by kernel_rfl) (by rfl) ?_
  intro Q0 hQ0
  go_simp
  go_at_call 25
  refine (HP.out _).mono ?_
  rintro e w2 ⟨rfl, rfl⟩
  refine hQ0.out _ _ (fun _ => S0.out) ?_
  clear hQ0 Q0
  refine wpUpto_oneC (i := 12) rfl (by kernel_rfl) (by rfl) ?_
  intro Q0 hQ0
  go_simp
  go_at_call 24
  refine (HB.out _).mono ?_
  rintro e w2 ⟨rfl, rfl⟩
  refine hQ0.out _ _ (fun _ => S0.out.alloc S0.out.size _) ?_
  clear hQ0 Q0
  refine wpUpto_oneC (i := 13) rfl (by kernel_rfl) (by rfl) ?_
  intro Q0 hQ0
  go_simp
  go_at_call 23
  refine (HF2.out w.drew).mono ?_
  rintro e w3 ⟨rfl, hb3⟩
  have S3 := hid (S0.out.trans (hb3.mono S0.out.size))
  refine hQ0.out _ _ (fun _ => S3.out) ?_
  clear hQ0 Q0 hb3
  refine wpUpto_takeL (i := 14) (v := .bool false) rfl rfl (by kernel_rfl) (by kernel_rfl) (by kernel_rfl) (by kernel_rfl) (by decide) (fun _ _ _ h => h) (Or.inl ⟨by rfl, ?_⟩) S3.out ?_
  · (intro W hSW; have hg := eqGuard_uw (P := Tryd.prog) .neq 23 (.tmp 13) (.tmp 17) x x W; go_simp)
  simp only [List.set_cons_succ, List.set_cons_zero]
  refine wpUpto_takeL (i := 15) (v := .bool false) rfl rfl (by kernel_rfl) (by kernel_rfl) (by kernel_rfl) (by kernel_rfl) (by decide) (fun _ _ _ h => h) (Or.inl ⟨by rfl, ?_⟩) S3.out ?_
  · (intro W hSW; go_simp)
  simp only [List.set_cons_succ, List.set_cons_zero]
  refine wpUpto_done (by kernel_rfl) ?_ _
  have c3 := HC.out w3 S3.out
  go_simp
  go_wp2
  go_ret2
  exact ⟨rfl, S3.out⟩
set_option maxRecDepth 100000 in
set_option maxHeartbeats 600000 in
theorem initial_any (i : Nat) (hi : i < 8) (w : World) (hT : Tabs w) :
    Calls Tryd.prog 10 #[.int .i64 (i : Int)] w fun e w' => e = .returned (.tuple #[uw (IV.l.getD i 0), .nilIface]) ∧ Below w.heap.size w w' := by
  obtain ⟨t1, t2, t3, t4, t5⟩ := ts_ok hi
  have HTB := hid (fun W (hb : Below w.heap.size w W) => ((hT.below hb).i : Tab W 3 IV.l))
  have HC := hid (fun W (hb : Below w.heap.size w W) => Tab.at_ (HTB.out W hb) (i := i) (by exact hi))
  have HP := hid (prime_any i (by omega))
  have HB := hid (beyondSquare_any (prN i))
  have HF := hid (fun (W : World) => fraction_any 40 W.heap.size (prN i) (ts i) (.inl rfl) t1 t2 (W.alloc (.cells #[.int .u64 (prN i)] 52)) (At.new _ _ _) (fun W2 h2 => square_tells (prN i) (ts i) W.heap.size t1 t3 t4 W2 h2))
  obtain ⟨x, hx⟩ : ∃ x, x = IV.l.getD i 0#32 := ⟨_, rfl⟩
  have HV : (((ts i - 1) % 4294967296 : Nat) : Int) = (x.toNat : Int) := by rw [hx]; exact congrArg Int.ofNat t5
  have hne := w_neq_same 23 x
  have hx' : IV.l.getD i 0 = x := hx.symm
  rw [← hx] at HC
  have HF2 := hid (fun (W : World) => show Calls Tryd.prog 23 #[.func (.func 40) #[] #[.pointer (some ⟨W.heap.size, 0, none⟩)]] (W.alloc (.cells #[.int .u64 (prN i)] 52)) (fun e w' => e = .returned (uw x) ∧ Below W.heap.size W w') by
    refine (HF.out W).mono ?_
    rintro e w' ⟨rfl, rfl⟩
    refine ⟨?_, ((Below.refl _ _).alloc (Nat.le_refl _) _).alloc (by simp) _⟩
    rw [HV]
    rfl)
  rw [hx']
  clear t1 t2 t3 t4 t5 hx hx' hT HTB
  have c1 : decide ((i : Int) < 0) = false := by simp
  have c2 : decide ((8 : Int) ≤ (i : Int)) = false := by simp; omega
  clear HF HV
  have S0' := hid (Below.refl w.heap.size w)
  go_enter Tryd.func10, Tryd.ntmps10
  go_wp2
  have S0 := hid (below_drewN S0'.out 1)
  refine wp_region_upto (fun W => Below w.heap.size w W) 16 16 (by kernel_rfl) (by kernel_rfl) ?_
  refine wpUpto_takeL (i := 0) (v := .int .i64 (i : Int)) rfl rfl (by kernel_rfl) (by kernel_rfl) (by kernel_rfl) (by kernel_rfl) (by decide) (fun _ _ _ h => h) (Or.inl ⟨by rfl, ?_⟩) S0.out ?_
  · (intro W hSW; go_simp)
  simp only [List.set_cons_succ, List.set_cons_zero]
  refine wpUpto_takeL (i := 1) (v := .bool false) rfl rfl (by kernel_rfl) (by kernel_rfl) (by kernel_rfl) (by kernel_rfl) (by decide) (fun _ _ _ h => h) (Or.inl ⟨by rfl, ?_⟩) S0.out ?_
  · (intro W hSW; go_simp)
  simp only [List.set_cons_succ, List.set_cons_zero]
  refine wpUpto_takeL (i := 2) (v := .bool false) rfl rfl (by kernel_rfl) (by kernel_rfl) (by kernel_rfl) (by kernel_rfl) (by decide) (fun _ _ _ h => h) (Or.inl ⟨by rfl, ?_⟩) S0.out ?_
  · (intro W hSW; go_simp)
  simp only [List.set_cons_succ, List.set_cons_zero]
  refine wpUpto_takeL (i := 3) (v := .int .i64 (i : Int)) rfl rfl (by kernel_rfl) (by kernel_rfl) (by kernel_rfl) (by kernel_rfl) (by decide) (fun _ _ _ h => h) (Or.inl ⟨by rfl, ?_⟩) S0.out ?_
  · (intro W hSW; go_simp)
  simp only [List.set_cons_succ, List.set_cons_zero]
  refine wpUpto_takeL (i := 4) (v := .bool false) rfl rfl (by kernel_rfl) (by kernel_rfl) (by kernel_rfl) (by kernel_rfl) (by decide) (fun _ _ _ h => h) (Or.inl ⟨by rfl, ?_⟩) S0.out ?_
  · (intro W hSW; go_simp)
  simp only [List.set_cons_succ, List.set_cons_zero]
  refine wpUpto_takeL (i := 5) (v := .bool false) rfl rfl (by kernel_rfl) (by kernel_rfl) (by kernel_rfl) (by kernel_rfl) (by decide) (fun _ _ _ h => h) (Or.inl ⟨by rfl, ?_⟩) S0.out ?_
  · (intro W hSW; go_simp)
  simp only [List.set_cons_succ, List.set_cons_zero]
  refine wpUpto_takeL (i := 6) (v := .bool false) rfl rfl (by kernel_rfl) (by kernel_rfl) (by kernel_rfl) (by kernel_rfl) (by decide) (fun _ _ _ h => h) (Or.inl ⟨by rfl, ?_⟩) S0.out ?_
  · (intro W hSW; go_simp)
  simp only [List.set_cons_succ, List.set_cons_zero]
  refine wpUpto_takeL (i := 7) (v := .int .i64 (i : Int)) rfl rfl (by kernel_rfl) (by kernel_rfl) (by kernel_rfl) (by kernel_rfl) (by decide) (fun _ _ _ h => h) (Or.inl ⟨by rfl, ?_⟩) S0.out ?_
  · (intro W hSW; go_simp)
  simp only [List.set_cons_succ, List.set_cons_zero]
  refine wpUpto_takeL (i := 8) (v := .pointer (some ⟨3, i, none⟩)) rfl rfl (by kernel_rfl) (by kernel_rfl) (by kernel_rfl) (by kernel_rfl) (by decide) (fun _ _ _ h => h) (Or.inl ⟨by rfl, ?_⟩) S0.out ?_
  · (intro W hSW; go_simp; exact fun h => absurd h (by omega))
  simp only [List.set_cons_succ, List.set_cons_zero]
  refine wpUpto_takeL (i := 9) (v := uw x) rfl rfl (by kernel_rfl) (by kernel_rfl) (by kernel_rfl) (by kernel_rfl) (by decide) (fun _ _ _ h => h) (Or.inl ⟨by rfl, ?_⟩) S0.out ?_
  · (intro W hSW; have c0 := HC.out W hSW; go_simp)
  simp only [List.set_cons_succ, List.set_cons_zero]
  refine wpUpto_takeL (i := 10) (v := .int .i64 (i : Int)) rfl rfl (by kernel_rfl) (by kernel_rfl) (by kernel_rfl) (by kernel_rfl) (by decide) (fun _ _ _ h => h) (Or.inl ⟨by rfl, ?_⟩) S0.out ?_
  · (intro W hSW; go_simp)
  simp only [List.set_cons_succ, List.set_cons_zero]
  refine wpUpto_oneC (i := 11) rfl (by kernel_rfl) (by rfl) ?_
  intro Q0 hQ0
  go_simp
  go_at_call 25
  refine (HP.out _).mono ?_
  rintro e w2 ⟨rfl, rfl⟩
  refine hQ0.out _ _ (fun _ => S0.out) ?_
  clear hQ0 Q0
  refine wpUpto_oneC (i := 12) rfl (by kernel_rfl) (by rfl) ?_
  intro Q0 hQ0
  go_simp
  go_at_call 26
  refine (HB.out _).mono ?_
  rintro e w2 ⟨rfl, rfl⟩
  refine hQ0.out _ _ (fun _ => S0.out.alloc S0.out.size _) ?_
  clear hQ0 Q0
  refine wpUpto_oneC (i := 13) rfl (by kernel_rfl) (by rfl) ?_
  intro Q0 hQ0
  go_simp
  go_at_call 23
  refine (HF2.out w.drew).mono ?_
  rintro e w3 ⟨rfl, hb3⟩
  have S3 := hid (S0.out.trans (hb3.mono S0.out.size))
  refine hQ0.out _ _ (fun _ => S3.out) ?_
  clear hQ0 Q0 hb3
  refine wpUpto_takeL (i := 14) (v := .bool false) rfl rfl (by kernel_rfl) (by kernel_rfl) (by kernel_rfl) (by kernel_rfl) (by decide) (fun _ _ _ h => h) (Or.inl ⟨by rfl, ?_⟩) S3.out ?_
  · (intro W hSW; have hg := eqGuard_uw (P := Tryd.prog) .neq 23 (.tmp 13) (.tmp 17) x x W; go_simp)
  simp only [List.set_cons_succ, List.set_cons_zero]
  refine wpUpto_takeL (i := 15) (v := .bool false) rfl rfl (by kernel_rfl) (by kernel_rfl) (by kernel_rfl) (by kernel_rfl) (by decide) (fun _ _ _ h => h) (Or.inl ⟨by rfl, ?_⟩) S3.out ?_
  · (intro W hSW; go_simp)
  simp only [List.set_cons_succ, List.set_cons_zero]
  refine wpUpto_done (by kernel_rfl) ?_ _
  have c3 := HC.out w3 S3.out
  go_simp
  go_wp2
  go_ret2
  exact ⟨rfl, S3.out⟩
set_option maxRecDepth 100000 in
theorem constant_low (i : Int) (hi : i < 0) (w : World) :
    Calls Tryd.prog 9 #[.int .i64 i] w fun e w' => e = .returned (.tuple #[.int .u32 0, eV 1]) ∧ Below w.heap.size w w' := by
  have c1 : decide (i < 0) = true := by simp; omega
  clear hi
  go_enter Tryd.func9, Tryd.ntmps9
  go_wp2
  go_quiet (fail)
  go_wp2
  go_ret2
  exact ⟨rfl, below_drewN (Below.refl w.heap.size w) _⟩
set_option maxRecDepth 100000 in
theorem constant_high (i : Int) (hi : 64 ≤ i) (w : World) :
    Calls Tryd.prog 9 #[.int .i64 i] w fun e w' => e = .returned (.tuple #[.int .u32 0, eV 1]) ∧ Below w.heap.size w w' := by
  have c1 : decide (i < 0) = false := by simp; omega
  have c2 : decide ((64 : Int) ≤ i) = true := by simp; omega
  clear hi
  go_enter Tryd.func9, Tryd.ntmps9
  go_wp2
  go_quiet (fail)
  go_wp2
  go_ret2
  exact ⟨rfl, below_drewN (Below.refl w.heap.size w) _⟩
set_option maxRecDepth 100000 in
theorem initial_low (i : Int) (hi : i < 0) (w : World) :
    Calls Tryd.prog 10 #[.int .i64 i] w fun e w' => e = .returned (.tuple #[.int .u32 0, eV 1]) ∧ Below w.heap.size w w' := by
  have c1 : decide (i < 0) = true := by simp; omega
  clear hi
  go_enter Tryd.func10, Tryd.ntmps10
  go_wp2
  go_quiet (fail)
  go_wp2
  go_ret2
  exact ⟨rfl, below_drewN (Below.refl w.heap.size w) _⟩
set_option maxRecDepth 100000 in
theorem initial_high (i : Int) (hi : 8 ≤ i) (w : World) :
    Calls Tryd.prog 10 #[.int .i64 i] w fun e w' => e = .returned (.tuple #[.int .u32 0, eV 1]) ∧ Below w.heap.size w w' := by
  have c1 : decide (i < 0) = false := by simp; omega
  have c2 : decide ((8 : Int) ≤ i) = true := by simp; omega
  clear hi
  go_enter Tryd.func10, Tryd.ntmps10
  go_wp2
  go_quiet (fail)
  go_wp2
  go_ret2
  exact ⟨rfl, below_drewN (Below.refl w.heap.size w) _⟩
end Go.Proofs.YtobehmjmmnmflaaDoor
