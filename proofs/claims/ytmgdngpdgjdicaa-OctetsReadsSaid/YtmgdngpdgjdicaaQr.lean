/-
  The document's own reader: contracts of its function Take.
-/
import Derived.Test.YtmgdngpdgjdicaaRf
namespace Go.Proofs.Ytmgdngpdgjdicaa
open Go.RowKit

theorem results_tmp_row {P : Program} {fn : Func} {u p : Tmp} {ty : TypeId} (h : fn.results = #[.tmp u, .cell p ty]) (tmps : Array Value) (w : World) (g : Nat) (t : TypeId) (cs : Array Value) (fr : Nat × Nat) (d : TypeDesc)
    (hp : tmps.getD p undef = .pointer (some ⟨g, 0, none⟩)) (hg : w.heap[g]? = some (.cells cs t fr))
    (hu : P.underlying ty = some d) (hd : (match d with | .struct _ | .array _ _ => true | _ => false) = true) (hi : (P.info? ty).map (·.size) = some cs.size) :
    (results fn tmps).run P w = .ok (.tuple #[tmps.getD u undef, .agg cs]) w := by
  have hp' : tmps[p]?.getD undef = .pointer (some ⟨g, 0, none⟩) := by simpa using hp
  simp [results, h, hp', asAddr, Result.andThen, run_loadVar_row w g t ty cs fr d hg hu hd hi]
theorem results_row_row {P : Program} {fn : Func} {p q : Tmp} {ty tz : TypeId} (h : fn.results = #[.cell p ty, .cell q tz]) (tmps : Array Value) (w : World) (g g2 : Nat) (t t2 : TypeId) (cs cs2 : Array Value) (fr fr2 : Nat × Nat) (d d2 : TypeDesc)
    (hp : tmps.getD p undef = .pointer (some ⟨g, 0, none⟩)) (hg : w.heap[g]? = some (.cells cs t fr))
    (hu : P.underlying ty = some d) (hd : (match d with | .struct _ | .array _ _ => true | _ => false) = true) (hi : (P.info? ty).map (·.size) = some cs.size)
    (hq : tmps.getD q undef = .pointer (some ⟨g2, 0, none⟩)) (hg2 : w.heap[g2]? = some (.cells cs2 t2 fr2))
    (hu2 : P.underlying tz = some d2) (hd2 : (match d2 with | .struct _ | .array _ _ => true | _ => false) = true) (hi2 : (P.info? tz).map (·.size) = some cs2.size) :
    (results fn tmps).run P w = .ok (.tuple #[.agg cs, .agg cs2]) w := by
  have hp' : tmps[p]?.getD undef = .pointer (some ⟨g, 0, none⟩) := by simpa using hp
  have hq' : tmps[q]?.getD undef = .pointer (some ⟨g2, 0, none⟩) := by simpa using hq
  simp [results, h, hp', hq', asAddr, Sem.run_bind, Result.andThen, run_loadVar_row w g t ty cs fr d hg hu hd hi, run_loadVar_row w g2 t2 tz cs2 fr2 d2 hg2 hu2 hd2 hi2]
theorem sizeR : (Try.prog.info? 57).map (·.size) = some 2 := by kernel_rfl

/-- What a function of the document's reader hands on: bytes of the argument's memory, and the reader behind them; what was there stays. -/
def QOut (B : Nat) (k : Nat) (xs ms : List UInt8) (w : World) (x : Value) (w' : World) : Prop :=
  ∃ A c A2 c2, x = .tuple #[.slice A xs.length c, wv A2 ms.length c2 k] ∧ Rb w' B A xs ∧ Rb w' B A2 ms ∧ ms.length ≤ c2 ∧ Below w.heap.size w w'
set_option maxHeartbeats 1000000 in
theorem qtake_done (B k : Nat) (ms : List UInt8) (A : Option Addr) (c : Nat) (n : Int) (hk : k ≠ 0) (w : World) (ha : Rb w B A ms) (hc : ms.length ≤ c) :
    Calls Try.prog 28 #[wv A ms.length c k, .int .i64 n] w fun e w' => ∃ x, e = .returned x ∧ QOut B k [] ms w x w' := by
  have HA := hid ha
  have hd : ((k : Int) != 0) = true := by simp; omega
  clear ha hk
  unfold wv
  go_enter Try.func28, Try.ntmps28
  go_wp2
  go_region
  all_goals
    go_wp2
    refine bodyPost_ret (results_tmp_row rfl _ _ (w.heap.size + 1) 57 #[.slice A ms.length c, .int .i64 k] (0, 0) _ rfl (heap_alloc2_new _ _ _) Try.underlying57 rfl sizeR) rfl ?_
    exact ⟨_, rfl, none, 0, A, c, rfl, Rd.nil _ _ _, (HA.out.alloc _).alloc _, hc, (((Below.refl _ _).alloc (Nat.le_refl _) _).alloc (by simp) _).drew⟩
set_option maxHeartbeats 1000000 in
theorem qtake_bad (B : Nat) (ms : List UInt8) (A : Option Addr) (c : Nat) (n : Int) (hn : n < 0 ∨ (ms.length : Int) < n) (w : World) (ha : Rb w B A ms) (hc : ms.length ≤ c) :
    Calls Try.prog 28 #[wv A ms.length c 0, .int .i64 n] w fun e w' => ∃ x, e = .returned x ∧ QOut B 2 [] ms w x w' := by
  have HA := hid ha
  clear ha
  unfold wv
  by_cases h0 : n < 0
  · clear hn
    go_enter Try.func28, Try.ntmps28
    go_wp2
    go_region
    all_goals
      go_wp2
      refine bodyPost_ret (results_tmp_row rfl _ _ (w.heap.size + 1) 57 #[.slice A ms.length c, .int .i64 2] (0, 0) _ rfl (heap_alloc2_new _ _ _) Try.underlying57 rfl sizeR) rfl ?_
      exact ⟨_, rfl, none, 0, A, c, rfl, Rd.nil _ _ _, (HA.out.alloc _).alloc _, hc, (((Below.refl _ _).alloc (Nat.le_refl _) _).alloc (by simp) _).drew⟩
  · have hd : decide (n < 0) = false := by simpa using h0
    have hl : (ms.length : Int) < n := by omega
    clear hn
    go_enter Try.func28, Try.ntmps28
    go_wp2
    go_region
    all_goals
      go_wp2
      refine bodyPost_ret (results_tmp_row rfl _ _ (w.heap.size + 1) 57 #[.slice A ms.length c, .int .i64 2] (0, 0) _ rfl (heap_alloc2_new _ _ _) Try.underlying57 rfl sizeR) rfl ?_
      exact ⟨_, rfl, none, 0, A, c, rfl, Rd.nil _ _ _, (HA.out.alloc _).alloc _, hc, (((Below.refl _ _).alloc (Nat.le_refl _) _).alloc (by simp) _).drew⟩
set_option maxHeartbeats 1000000 in
theorem qtake_good (B : Nat) (ms : List UInt8) (A : Option Addr) (c n : Nat) (hn : n ≤ ms.length) (w : World) (ha : Rb w B A ms) (hc : ms.length ≤ c) :
    Calls Try.prog 28 #[wv A ms.length c 0, .int .i64 n] w fun e w' => ∃ x, e = .returned x ∧ QOut B 0 (ms.take n) (ms.drop n) w x w' := by
  have HA := hid ha
  have h0 : decide ((n : Int) < 0) = false := by simp
  clear ha
  unfold wv
  go_enter Try.func28, Try.ntmps28
  go_wp2
  · go_region
    all_goals
      go_wp2
      have hd : ms.drop n = [] := List.drop_eq_nil_of_le (by omega)
      have hl : (ms.take n).length = n := by rw [List.length_take]; omega
      refine bodyPost_ret (results_tmp_row rfl _ _ (w.heap.size + 1) 57 #[.slice A (ms.length - n) 0, .int .i64 0] (0, 0) _ rfl (heap_alloc2_new _ _ _) Try.underlying57 rfl sizeR) rfl ?_
      refine ⟨_, rfl, A, n, A, 0, by rw [hl, List.length_drop]; rfl, ((rb_take HA.out n).alloc _).alloc _, by rw [hd]; exact Rd.nil _ _ _, by rw [hd]; simp, (((Below.refl _ _).alloc (Nat.le_refl _) _).alloc (by simp) _).drew⟩
  · have hcn : ¬ c = n := by assumption
    have HN := hid hcn
    clear hcn
    go_region
    all_goals
      go_wp2
      have hl : (ms.take n).length = n := by rw [List.length_take]; omega
      have h1 := rb_drop HA.out (n := n) (cap := c) hn hc
      rw [if_neg HN.out] at h1
      refine bodyPost_ret (results_tmp_row rfl _ _ (w.heap.size + 1) 57 #[.slice (A.map (·.add n)) (ms.length - n) (c - n), .int .i64 0] (0, 0) _ rfl (heap_alloc2_new _ _ _) Try.underlying57 rfl sizeR) rfl ?_
      refine ⟨_, rfl, A, c, A.map (·.add n), c - n, by rw [hl, List.length_drop]; rfl, ((rb_take HA.out n).alloc _).alloc _, (h1.alloc _).alloc _, by rw [List.length_drop]; omega, (((Below.refl _ _).alloc (Nat.le_refl _) _).alloc (by simp) _).drew⟩
end Go.Proofs.Ytmgdngpdgjdicaa
