/-
  Layer 13, the document's side: Right.
  Layer 13, the document's side: Fits, May.
-/
import Derived.Test.YtfmbpdjcoopaeaaDoorM5
import Derived.Test.YtfmbpdjcoopaeaaDoorM7
import Derived.Test.YtfmbpdjcoopaeaaDoorV3
namespace Go.Proofs.YtfmbpdjcoopaeaaDoor
open Go.RowKit

/-- A sealed block's epoch. -/
def ep (l : List Sl13) (j : Nat) : Nat := (l.getD j (0, [], [])).1
theorem ep_get {l : List Sl13} {j : Nat} (h : j < l.length) : ep l j = (l[j]).1 := by
  unfold ep
  rw [List.getD_eq_getElem?_getD, List.getElem?_eq_getElem h]
  rfl
theorem ep_head (l : List Sl13) : (l.headD (0, [], [])).1 = ep l 0 := by cases l <;> rfl
theorem oneE_no {l : List Sl13} {j : Nat} (hj : j < l.length) (h : rightB 0 (ep l j) = false ∨ ep l j ≠ ep l 0) : oneE l = false := by
  unfold oneE
  rw [ep_head]
  refine Bool.eq_false_iff.2 fun e => ?_
  have := List.all_eq_true.1 e _ (List.getElem_mem hj)
  rw [Bool.and_eq_true, decide_eq_true_eq, ← ep_get hj] at this
  rcases h with h | h
  · rw [this.1] at h
    cases h
  · exact h this.2
theorem oneE_all {l : List Sl13} (h : ∀ j, j < l.length → rightB 0 (ep l j) = true ∧ ep l j = ep l 0) : oneE l = true := by
  unfold oneE
  rw [ep_head]
  refine List.all_eq_true.2 fun x hx => ?_
  obtain ⟨j, hj, rfl⟩ := List.getElem_of_mem hx
  rw [Bool.and_eq_true, decide_eq_true_eq, ← ep_get hj]
  exact h j hj
/-- What a function with an order has in memory. -/
structure OwW (w : World) (C : List Value) (V : World) : Prop where
  bl : Below w.heap.size w V
  o : At V w.heap.size C.toArray 97
theorem OwW.new {w V V' : World} {C : List Value} (x : OwW w C V) (hb : Below V.heap.size V V') : OwW w C V' := ⟨x.bl.trans (hb.mono x.bl.size), x.o.new_ hb⟩
theorem OwW.drewN {w V : World} {C : List Value} (x : OwW w C V) (n : Nat) : OwW w C (V.drewN n) := ⟨below_drewN x.bl n, x.o⟩
theorem OwW.start {w : World} {C : List Value} : OwW w C (w.alloc (.cells C.toArray 97)) := ⟨(Below.refl _ _).alloc (Nat.le_refl _) _, At.new _ _ _⟩
set_option maxRecDepth 100000 in
set_option maxHeartbeats 2000000 in
theorem rgtR_none (kd : Int) (l : List Nat) (s : List Sl13) (b : Nat) (AI AS : Option Addr) (cI cS : Nat) (w : World) (h1 : kd ≠ 1) (h2 : kd ≠ 2) (h3 : kd ≠ 3) :
    Calls Tryd.prog 51 #[.agg (ordV ⟨kd, l, s, b⟩ AI AS cI cS).toArray] w fun r w' => r = .returned (.bool (rgtO ⟨kd, l, s, b⟩)) ∧ Below w.heap.size w w' := by
  rw [show rgtO ⟨kd, l, s, b⟩ = false by unfold rgtO; simp [h1, h2, h3]]
  obtain ⟨C, hC⟩ : ∃ C, C = ordV ⟨kd, l, s, b⟩ AI AS cI cS := ⟨_, rfl⟩
  have K0 := hid (OwW.start (w := w) (C := C))
  obtain ⟨n, hn⟩ : ∃ n, n = l.length := ⟨_, rfl⟩
  obtain ⟨m, hm⟩ : ∃ m, m = s.length := ⟨_, rfl⟩
  have HOC := hid (fun (V : World) (x : OwW w C V) => show V.cell? ⟨w.heap.size, 0, none⟩ = some (.int .i64 kd) ∧ V.cell? ⟨w.heap.size, 1, none⟩ = some (.slice AI n cI) ∧ V.cell? ⟨w.heap.size, 2, none⟩ = some (.slice AS m cS) ∧ V.cell? ⟨w.heap.size, 3, none⟩ = some (.int .u64 (b : Int)) from by
    have h := x.o
    rw [hC] at h
    rw [hn, hm]
    exact ordV_cells h)
  rw [← hC]
  have f3 : decide (kd = 3) = false := by simpa using h3
  have f3b : (kd == 3) = false := by simpa using h3
  have f1 : (kd != 1) = true := by simpa using h1
  have f2 : (kd != 2) = true := by simpa using h2
  clear hC hn hm h1 h2 h3
  obtain ⟨c0, c1, c2, c3⟩ := HOC.out _ K0.out
  go_enter Tryd.func51, Tryd.ntmps51
  go_wp2
  go_ret
  exact ⟨rfl, K0.out.bl⟩
set_option maxRecDepth 100000 in
set_option maxHeartbeats 2000000 in
theorem rgtR_three (l : List Nat) (s : List Sl13) (b : Nat) (AI AS : Option Addr) (cI cS : Nat) (w : World) :
    Calls Tryd.prog 51 #[.agg (ordV ⟨3, l, s, b⟩ AI AS cI cS).toArray] w fun r w' => r = .returned (.bool (rgtO ⟨3, l, s, b⟩)) ∧ Below w.heap.size w w' := by
  by_cases q1 : l = []
  · by_cases q2 : s = []
    · subst q1 q2
      by_cases q3 : 0 < b
      · by_cases q4 : b ≤ 4294967296
        · rw [show rgtO ⟨3, [], [], b⟩ = true by unfold rgtO; simp; omega]
          have g0 : decide (0 < (b : Int)) = true := by simp; omega
          have g0n : decide (0 < b) = true := by simp; omega
          have g1 : decide ((b : Int) ≤ 4294967296) = true := by simp; omega
          have g1n : decide (b ≤ 4294967296) = true := by simp; omega
          obtain ⟨C, hC⟩ : ∃ C, C = ordV ⟨3, [], [], b⟩ AI AS cI cS := ⟨_, rfl⟩
          have K0 := hid (OwW.start (w := w) (C := C))
          have HOC := hid (fun (V : World) (x : OwW w C V) => show V.cell? ⟨w.heap.size, 0, none⟩ = some (.int .i64 3) ∧ V.cell? ⟨w.heap.size, 1, none⟩ = some (.slice AI 0 cI) ∧ V.cell? ⟨w.heap.size, 2, none⟩ = some (.slice AS 0 cS) ∧ V.cell? ⟨w.heap.size, 3, none⟩ = some (.int .u64 (b : Int)) from by
            have h := x.o
            rw [hC] at h
            exact ordV_cells h)
          rw [← hC]
          clear hC
          obtain ⟨c0, c1, c2, c3⟩ := HOC.out _ K0.out
          go_enter Tryd.func51, Tryd.ntmps51
          go_wp2
          go_ret
          exact ⟨rfl, K0.out.bl⟩
        · rw [show rgtO ⟨3, [], [], b⟩ = false by unfold rgtO; simp; omega]
          have g0 : decide (0 < (b : Int)) = true := by simp; omega
          have g0n : decide (0 < b) = true := by simp; omega
          have g1 : decide ((b : Int) ≤ 4294967296) = false := by simp; omega
          have g1n : decide (b ≤ 4294967296) = false := by simp; omega
          obtain ⟨C, hC⟩ : ∃ C, C = ordV ⟨3, [], [], b⟩ AI AS cI cS := ⟨_, rfl⟩
          have K0 := hid (OwW.start (w := w) (C := C))
          have HOC := hid (fun (V : World) (x : OwW w C V) => show V.cell? ⟨w.heap.size, 0, none⟩ = some (.int .i64 3) ∧ V.cell? ⟨w.heap.size, 1, none⟩ = some (.slice AI 0 cI) ∧ V.cell? ⟨w.heap.size, 2, none⟩ = some (.slice AS 0 cS) ∧ V.cell? ⟨w.heap.size, 3, none⟩ = some (.int .u64 (b : Int)) from by
            have h := x.o
            rw [hC] at h
            exact ordV_cells h)
          rw [← hC]
          clear hC
          obtain ⟨c0, c1, c2, c3⟩ := HOC.out _ K0.out
          go_enter Tryd.func51, Tryd.ntmps51
          go_wp2
          go_ret
          exact ⟨rfl, K0.out.bl⟩
      · rw [show rgtO ⟨3, [], [], b⟩ = false by unfold rgtO; simp; omega]
        obtain rfl : b = 0 := by omega
        obtain ⟨C, hC⟩ : ∃ C, C = ordV ⟨3, [], [], 0⟩ AI AS cI cS := ⟨_, rfl⟩
        have K0 := hid (OwW.start (w := w) (C := C))
        have HOC := hid (fun (V : World) (x : OwW w C V) => show V.cell? ⟨w.heap.size, 0, none⟩ = some (.int .i64 3) ∧ V.cell? ⟨w.heap.size, 1, none⟩ = some (.slice AI 0 cI) ∧ V.cell? ⟨w.heap.size, 2, none⟩ = some (.slice AS 0 cS) ∧ V.cell? ⟨w.heap.size, 3, none⟩ = some (.int .u64 ((0 : Nat) : Int)) from by
          have h := x.o
          rw [hC] at h
          exact ordV_cells h)
        rw [← hC]
        clear hC
        obtain ⟨c0, c1, c2, c3⟩ := HOC.out _ K0.out
        go_enter Tryd.func51, Tryd.ntmps51
        go_wp2
        go_ret
        exact ⟨rfl, K0.out.bl⟩
    · rw [show rgtO ⟨3, l, s, b⟩ = false by unfold rgtO; simp [q2]]
      subst q1
      obtain ⟨C, hC⟩ : ∃ C, C = ordV ⟨3, [], s, b⟩ AI AS cI cS := ⟨_, rfl⟩
      have K0 := hid (OwW.start (w := w) (C := C))
      obtain ⟨m, hm⟩ : ∃ m, m = s.length := ⟨_, rfl⟩
      have HOC := hid (fun (V : World) (x : OwW w C V) => show V.cell? ⟨w.heap.size, 0, none⟩ = some (.int .i64 3) ∧ V.cell? ⟨w.heap.size, 1, none⟩ = some (.slice AI 0 cI) ∧ V.cell? ⟨w.heap.size, 2, none⟩ = some (.slice AS m cS) ∧ V.cell? ⟨w.heap.size, 3, none⟩ = some (.int .u64 (b : Int)) from by
        have h := x.o
        rw [hC] at h
        rw [hm]
        exact ordV_cells h)
      rw [← hC]
      have hp : 0 < m := by rw [hm]; exact List.length_pos_iff.2 q2
      have f2 : decide ((m : Int) = 0) = false := by simp; omega
      have f2b : ((m : Int) == 0) = false := by simp; omega
      have f2n : decide (m = 0) = false := by simp; omega
      have f2m : (m == 0) = false := by simp; omega
      clear hC hm hp q2
      obtain ⟨c0, c1, c2, c3⟩ := HOC.out _ K0.out
      go_enter Tryd.func51, Tryd.ntmps51
      go_wp2
      go_ret
      exact ⟨rfl, K0.out.bl⟩
  · rw [show rgtO ⟨3, l, s, b⟩ = false by unfold rgtO; simp [q1]]
    obtain ⟨C, hC⟩ : ∃ C, C = ordV ⟨3, l, s, b⟩ AI AS cI cS := ⟨_, rfl⟩
    have K0 := hid (OwW.start (w := w) (C := C))
    obtain ⟨n, hn⟩ : ∃ n, n = l.length := ⟨_, rfl⟩
    obtain ⟨m, hm⟩ : ∃ m, m = s.length := ⟨_, rfl⟩
    have HOC := hid (fun (V : World) (x : OwW w C V) => show V.cell? ⟨w.heap.size, 0, none⟩ = some (.int .i64 3) ∧ V.cell? ⟨w.heap.size, 1, none⟩ = some (.slice AI n cI) ∧ V.cell? ⟨w.heap.size, 2, none⟩ = some (.slice AS m cS) ∧ V.cell? ⟨w.heap.size, 3, none⟩ = some (.int .u64 (b : Int)) from by
      have h := x.o
      rw [hC] at h
      rw [hn, hm]
      exact ordV_cells h)
    rw [← hC]
    have hp : 0 < n := by rw [hn]; exact List.length_pos_iff.2 q1
    have f2 : decide ((n : Int) = 0) = false := by simp; omega
    have f2b : ((n : Int) == 0) = false := by simp; omega
    have f2n : decide (n = 0) = false := by simp; omega
    have f2m : (n == 0) = false := by simp; omega
    clear hC hm hn hp q1
    obtain ⟨c0, c1, c2, c3⟩ := HOC.out _ K0.out
    go_enter Tryd.func51, Tryd.ntmps51
    go_wp2
    go_ret
    exact ⟨rfl, K0.out.bl⟩
set_option maxRecDepth 100000 in
set_option maxHeartbeats 2000000 in
theorem rgtR_blocks1 (l : List Nat) (s : List Sl13) (b : Nat) (AI AS : Option Addr) (cI cS : Nat) (w : World) (hb : 0 < b) :
    Calls Tryd.prog 51 #[.agg (ordV ⟨1, l, s, b⟩ AI AS cI cS).toArray] w fun r w' => r = .returned (.bool (rgtO ⟨1, l, s, b⟩)) ∧ Below w.heap.size w w' := by
  rw [show rgtO ⟨1, l, s, b⟩ = false by unfold rgtO; simp; omega]
  obtain ⟨C, hC⟩ : ∃ C, C = ordV ⟨1, l, s, b⟩ AI AS cI cS := ⟨_, rfl⟩
  have K0 := hid (OwW.start (w := w) (C := C))
  obtain ⟨n, hn⟩ : ∃ n, n = l.length := ⟨_, rfl⟩
  obtain ⟨m, hm⟩ : ∃ m, m = s.length := ⟨_, rfl⟩
  have HOC := hid (fun (V : World) (x : OwW w C V) => show V.cell? ⟨w.heap.size, 0, none⟩ = some (.int .i64 1) ∧ V.cell? ⟨w.heap.size, 1, none⟩ = some (.slice AI n cI) ∧ V.cell? ⟨w.heap.size, 2, none⟩ = some (.slice AS m cS) ∧ V.cell? ⟨w.heap.size, 3, none⟩ = some (.int .u64 (b : Int)) from by
    have h := x.o
    rw [hC] at h
    rw [hn, hm]
    exact ordV_cells h)
  rw [← hC]
  have g0 : decide ((b : Int) = 0) = false := by simp; omega
  have g0b : ((b : Int) == 0) = false := by simp; omega
  have g0n : decide (b = 0) = false := by simp; omega
  have g0m : (b == 0) = false := by simp; omega
  have g0q : ((b : Int) != 0) = true := by simp; omega
  have g0r : (b != 0) = true := by simp; omega
  clear hC hn hm hb
  obtain ⟨c0, c1, c2, c3⟩ := HOC.out _ K0.out
  go_enter Tryd.func51, Tryd.ntmps51
  go_wp2
  go_ret
  exact ⟨rfl, K0.out.bl⟩
set_option maxRecDepth 100000 in
set_option maxHeartbeats 2000000 in
theorem rgtR_idx1 (l : List Nat) (s : List Sl13) (AI AS : Option Addr) (cI cS : Nat) (w : World) (hr : Nu w w.heap.size AI l) (hg : rgtB 32 l = false) :
    Calls Tryd.prog 51 #[.agg (ordV ⟨1, l, s, 0⟩ AI AS cI cS).toArray] w fun r w' => r = .returned (.bool (rgtO ⟨1, l, s, 0⟩)) ∧ Below w.heap.size w w' := by
  rw [show rgtO ⟨1, l, s, 0⟩ = false by unfold rgtO; simp [hg]]
  obtain ⟨C, hC⟩ : ∃ C, C = ordV ⟨1, l, s, 0⟩ AI AS cI cS := ⟨_, rfl⟩
  have K0 := hid (OwW.start (w := w) (C := C))
  obtain ⟨n, hn⟩ : ∃ n, n = l.length := ⟨_, rfl⟩
  obtain ⟨m, hm⟩ : ∃ m, m = s.length := ⟨_, rfl⟩
  have HOC := hid (fun (V : World) (x : OwW w C V) => show V.cell? ⟨w.heap.size, 0, none⟩ = some (.int .i64 1) ∧ V.cell? ⟨w.heap.size, 1, none⟩ = some (.slice AI n cI) ∧ V.cell? ⟨w.heap.size, 2, none⟩ = some (.slice AS m cS) ∧ V.cell? ⟨w.heap.size, 3, none⟩ = some (.int .u64 ((0 : Nat) : Int)) from by
    have h := x.o
    rw [hC] at h
    rw [hn, hm]
    exact ordV_cells h)
  rw [← hC]
  have HRI := hid (fun (V : World) (x : OwW w C V) => show Calls Tryd.prog 43 #[.int .i64 32, .slice AI n cI] V (fun r W' => r = .returned (.bool false) ∧ Below V.heap.size V W') from by
    have := right10R_any 32 l AI cI V (hr.new x.bl)
    rw [← hn, hg] at this
    exact this)
  clear hC hn hm hr hg
  obtain ⟨c0, c1, c2, c3⟩ := HOC.out _ K0.out
  go_enter Tryd.func51, Tryd.ntmps51
  go_wp2_with (first
    | (go_at_call 43; refine (HRI.out _ K0.out).mono ?_; rintro r1 w1 ⟨rfl, hb1⟩; have K1 := hid (K0.out.new hb1); clear hb1 c0 c1 c2 c3; obtain ⟨c0, c1, c2, c3⟩ := HOC.out w1 K1.out))
  go_ret
  exact ⟨rfl, K1.out.bl⟩
set_option maxRecDepth 100000 in
set_option maxHeartbeats 2000000 in
theorem rgtR_blocks2 (l : List Nat) (s : List Sl13) (b : Nat) (AI AS : Option Addr) (cI cS : Nat) (w : World) (hb : 0 < b) :
    Calls Tryd.prog 51 #[.agg (ordV ⟨2, l, s, b⟩ AI AS cI cS).toArray] w fun r w' => r = .returned (.bool (rgtO ⟨2, l, s, b⟩)) ∧ Below w.heap.size w w' := by
  rw [show rgtO ⟨2, l, s, b⟩ = false by unfold rgtO; simp; omega]
  obtain ⟨C, hC⟩ : ∃ C, C = ordV ⟨2, l, s, b⟩ AI AS cI cS := ⟨_, rfl⟩
  have K0 := hid (OwW.start (w := w) (C := C))
  obtain ⟨n, hn⟩ : ∃ n, n = l.length := ⟨_, rfl⟩
  obtain ⟨m, hm⟩ : ∃ m, m = s.length := ⟨_, rfl⟩
  have HOC := hid (fun (V : World) (x : OwW w C V) => show V.cell? ⟨w.heap.size, 0, none⟩ = some (.int .i64 2) ∧ V.cell? ⟨w.heap.size, 1, none⟩ = some (.slice AI n cI) ∧ V.cell? ⟨w.heap.size, 2, none⟩ = some (.slice AS m cS) ∧ V.cell? ⟨w.heap.size, 3, none⟩ = some (.int .u64 (b : Int)) from by
    have h := x.o
    rw [hC] at h
    rw [hn, hm]
    exact ordV_cells h)
  rw [← hC]
  have g0 : decide ((b : Int) = 0) = false := by simp; omega
  have g0b : ((b : Int) == 0) = false := by simp; omega
  have g0n : decide (b = 0) = false := by simp; omega
  have g0m : (b == 0) = false := by simp; omega
  have g0q : ((b : Int) != 0) = true := by simp; omega
  have g0r : (b != 0) = true := by simp; omega
  clear hC hn hm hb
  obtain ⟨c0, c1, c2, c3⟩ := HOC.out _ K0.out
  go_enter Tryd.func51, Tryd.ntmps51
  go_wp2
  go_ret
  exact ⟨rfl, K0.out.bl⟩
set_option maxRecDepth 100000 in
set_option maxHeartbeats 2000000 in
theorem rgtR_idx2 (l : List Nat) (s : List Sl13) (AI AS : Option Addr) (cI cS : Nat) (w : World) (hr : Nu w w.heap.size AI l) (hg : rgtB 32 l = false) :
    Calls Tryd.prog 51 #[.agg (ordV ⟨2, l, s, 0⟩ AI AS cI cS).toArray] w fun r w' => r = .returned (.bool (rgtO ⟨2, l, s, 0⟩)) ∧ Below w.heap.size w w' := by
  rw [show rgtO ⟨2, l, s, 0⟩ = false by unfold rgtO; simp [hg]]
  obtain ⟨C, hC⟩ : ∃ C, C = ordV ⟨2, l, s, 0⟩ AI AS cI cS := ⟨_, rfl⟩
  have K0 := hid (OwW.start (w := w) (C := C))
  obtain ⟨n, hn⟩ : ∃ n, n = l.length := ⟨_, rfl⟩
  obtain ⟨m, hm⟩ : ∃ m, m = s.length := ⟨_, rfl⟩
  have HOC := hid (fun (V : World) (x : OwW w C V) => show V.cell? ⟨w.heap.size, 0, none⟩ = some (.int .i64 2) ∧ V.cell? ⟨w.heap.size, 1, none⟩ = some (.slice AI n cI) ∧ V.cell? ⟨w.heap.size, 2, none⟩ = some (.slice AS m cS) ∧ V.cell? ⟨w.heap.size, 3, none⟩ = some (.int .u64 ((0 : Nat) : Int)) from by
    have h := x.o
    rw [hC] at h
    rw [hn, hm]
    exact ordV_cells h)
  rw [← hC]
  have HRI := hid (fun (V : World) (x : OwW w C V) => show Calls Tryd.prog 43 #[.int .i64 32, .slice AI n cI] V (fun r W' => r = .returned (.bool false) ∧ Below V.heap.size V W') from by
    have := right10R_any 32 l AI cI V (hr.new x.bl)
    rw [← hn, hg] at this
    exact this)
  clear hC hn hm hr hg
  obtain ⟨c0, c1, c2, c3⟩ := HOC.out _ K0.out
  go_enter Tryd.func51, Tryd.ntmps51
  go_wp2_with (first
    | (go_at_call 43; refine (HRI.out _ K0.out).mono ?_; rintro r1 w1 ⟨rfl, hb1⟩; have K1 := hid (K0.out.new hb1); clear hb1 c0 c1 c2 c3; obtain ⟨c0, c1, c2, c3⟩ := HOC.out w1 K1.out))
  go_ret
  exact ⟨rfl, K1.out.bl⟩
set_option maxRecDepth 100000 in
set_option maxHeartbeats 2000000 in
theorem rgtR_two (l : List Nat) (s : List Sl13) (AI AS : Option Addr) (cI cS : Nat) (w : World) (hr : Nu w w.heap.size AI l) (hg : rgtB 32 l = true) :
    Calls Tryd.prog 51 #[.agg (ordV ⟨2, l, s, 0⟩ AI AS cI cS).toArray] w fun r w' => r = .returned (.bool (rgtO ⟨2, l, s, 0⟩)) ∧ Below w.heap.size w w' := by
  rw [show rgtO ⟨2, l, s, 0⟩ = decide (s.length = 0) by unfold rgtO; simp [hg]]
  obtain ⟨C, hC⟩ : ∃ C, C = ordV ⟨2, l, s, 0⟩ AI AS cI cS := ⟨_, rfl⟩
  have K0 := hid (OwW.start (w := w) (C := C))
  obtain ⟨n, hn⟩ : ∃ n, n = l.length := ⟨_, rfl⟩
  obtain ⟨m, hm⟩ : ∃ m, m = s.length := ⟨_, rfl⟩
  have HOC := hid (fun (V : World) (x : OwW w C V) => show V.cell? ⟨w.heap.size, 0, none⟩ = some (.int .i64 2) ∧ V.cell? ⟨w.heap.size, 1, none⟩ = some (.slice AI n cI) ∧ V.cell? ⟨w.heap.size, 2, none⟩ = some (.slice AS m cS) ∧ V.cell? ⟨w.heap.size, 3, none⟩ = some (.int .u64 ((0 : Nat) : Int)) from by
    have h := x.o
    rw [hC] at h
    rw [hn, hm]
    exact ordV_cells h)
  rw [← hC]
  have HRI := hid (fun (V : World) (x : OwW w C V) => show Calls Tryd.prog 43 #[.int .i64 32, .slice AI n cI] V (fun r W' => r = .returned (.bool true) ∧ Below V.heap.size V W') from by
    have := right10R_any 32 l AI cI V (hr.new x.bl)
    rw [← hn, hg] at this
    exact this)
  rw [← hm]
  have HD := hid (show ((m : Int) == 0) = decide (m = 0) by cases h : decide (m = 0) <;> simp at h <;> simp [h])
  by_cases q : m = 0
  · rw [show decide (m = 0) = true by simp [q]]
    have g0 : decide ((m : Int) = 0) = true := by simp; omega
    have g0b : ((m : Int) == 0) = true := by simp; omega
    have g0n : decide (m = 0) = true := by simp; omega
    have g0m : (m == 0) = true := by simp; omega
    clear hC hn hm hr hg HD q
    obtain ⟨c0, c1, c2, c3⟩ := HOC.out _ K0.out
    go_enter Tryd.func51, Tryd.ntmps51
    go_wp2_with (first
      | (go_at_call 43; refine (HRI.out _ K0.out).mono ?_; rintro r1 w1 ⟨rfl, hb1⟩; have K1 := hid (K0.out.new hb1); clear hb1 c0 c1 c2 c3; obtain ⟨c0, c1, c2, c3⟩ := HOC.out w1 K1.out))
    go_ret
    exact ⟨rfl, K1.out.bl⟩
  · rw [show decide (m = 0) = false by simp [q]]
    have g0 : decide ((m : Int) = 0) = false := by simp; omega
    have g0b : ((m : Int) == 0) = false := by simp; omega
    have g0n : decide (m = 0) = false := by simp; omega
    have g0m : (m == 0) = false := by simp; omega
    clear hC hn hm hr hg HD q
    obtain ⟨c0, c1, c2, c3⟩ := HOC.out _ K0.out
    go_enter Tryd.func51, Tryd.ntmps51
    go_wp2_with (first
      | (go_at_call 43; refine (HRI.out _ K0.out).mono ?_; rintro r1 w1 ⟨rfl, hb1⟩; have K1 := hid (K0.out.new hb1); clear hb1 c0 c1 c2 c3; obtain ⟨c0, c1, c2, c3⟩ := HOC.out w1 K1.out))
    go_ret
    exact ⟨rfl, K1.out.bl⟩
set_option maxRecDepth 100000 in
set_option maxHeartbeats 2000000 in
theorem rgtR_one (l : List Nat) (s : List Sl13) (AI AS : Option Addr) (cI cS : Nat) (w : World) (hr : Nu w w.heap.size AI l) (hs : Ss w w.heap.size AS s) (hk : ∀ x ∈ s, okS x) (hlen : s.length ≤ 1000000) (hg : rgtB 32 l = true) :
    Calls Tryd.prog 51 #[.agg (ordV ⟨1, l, s, 0⟩ AI AS cI cS).toArray] w fun r w' => r = .returned (.bool (rgtO ⟨1, l, s, 0⟩)) ∧ Below w.heap.size w w' := by
  rw [show rgtO ⟨1, l, s, 0⟩ = (oneE s && decide (s.length = l.length)) by unfold rgtO; simp [hg]]
  obtain ⟨C, hC⟩ : ∃ C, C = ordV ⟨1, l, s, 0⟩ AI AS cI cS := ⟨_, rfl⟩
  have K0 := hid (OwW.start (w := w) (C := C))
  obtain ⟨n, hn⟩ : ∃ n, n = l.length := ⟨_, rfl⟩
  obtain ⟨m, hm⟩ : ∃ m, m = s.length := ⟨_, rfl⟩
  have HOC := hid (fun (V : World) (x : OwW w C V) => show V.cell? ⟨w.heap.size, 0, none⟩ = some (.int .i64 1) ∧ V.cell? ⟨w.heap.size, 1, none⟩ = some (.slice AI n cI) ∧ V.cell? ⟨w.heap.size, 2, none⟩ = some (.slice AS m cS) ∧ V.cell? ⟨w.heap.size, 3, none⟩ = some (.int .u64 ((0 : Nat) : Int)) from by
    have h := x.o
    rw [hC] at h
    rw [hn, hm]
    exact ordV_cells h)
  rw [← hC]
  have HRI := hid (fun (V : World) (x : OwW w C V) => show Calls Tryd.prog 43 #[.int .i64 32, .slice AI n cI] V (fun r W' => r = .returned (.bool true) ∧ Below V.heap.size V W') from by
    have := right10R_any 32 l AI cI V (hr.new x.bl)
    rw [← hn, hg] at this
    exact this)
  have HS := hid (fun (V : World) (x : OwW w C V) => hs.later x.bl)
  have HK := hid hk
  have HM := hid (show m = s.length ∧ m ≤ 1000000 from ⟨hm, by omega⟩)
  have HN := hid hn
  rw [← hm, ← hn]
  clear hC hn hm hr hg hs hk hlen
  obtain ⟨c0, c1, c2, c3⟩ := HOC.out _ K0.out
  go_enter Tryd.func51, Tryd.ntmps51
  go_upto_region 8 with (first
    | (go_at_call 43; refine (HRI.out _ K0.out).mono ?_; rintro r1 w1 ⟨rfl, hb1⟩; have K1 := hid (K0.out.new hb1); clear hb1 c0 c1 c2 c3; obtain ⟨c0, c1, c2, c3⟩ := HOC.out w1 K1.out))
  clear c0 c1 c2 c3 K0 HRI
  go_loopw [3] (fun v wr => ∃ j : Nat, j ≤ m ∧ v = .int .i64 (j : Int) ∧ Hid (∀ x, x < j → rightB 0 (ep s x) = true ∧ ep s x = ep s 0) ∧ Hid (OwW w C wr)) (fun v _ => m - (intOf v).toNat)
  case atStart => exact ⟨0, by omega, rfl, hid (fun x hx => absurd hx (Nat.not_lt_zero x)), K1⟩
  case round =>
    clear K1
    obtain ⟨j, hj, rfl, HX, HW⟩ := hrel
    obtain ⟨c0, c1, c2, c3⟩ := HOC.out wr HW.out
    by_cases hlt : j < m
    · have hd : decide ((j : Int) < (m : Int)) = true := by simp; omega
      have hdn : decide (j < m) = true := by simp; omega
      have ik : (j : Int) < (m : Int) := by omega
      have i0 : (0 : Int) < (m : Int) := by omega
      have hjl : j < s.length := by rw [← HM.out.1]; exact hlt
      have h0l : 0 < s.length := by omega
      obtain ⟨g, o, rfl, -, hra⟩ := (HS.out wr HW.out).at HK.out hjl
      obtain ⟨g2, o2, ho, -, hra2⟩ := (HS.out wr HW.out).at HK.out h0l
      obtain ⟨rfl, rfl⟩ : g2 = g ∧ o2 = o := by cases ho; exact ⟨rfl, rfl⟩
      have q1 := sl_epoch hra
      have q2 := sl_epoch hra2
      rw [← ep_get hjl] at q1
      rw [← ep_get h0l, Nat.mul_zero, Nat.add_zero] at q2
      obtain ⟨x, hx⟩ : ∃ x, x = o2 + j * 49 := ⟨_, rfl⟩
      rw [show o2 + 49 * j = x by rw [hx]; omega] at q1
      have ex : o2 + j * 49 = x := hx.symm
      obtain ⟨e, he⟩ : ∃ e, e = ep s j := ⟨_, rfl⟩
      obtain ⟨e0, he0⟩ : ∃ e, e = ep s 0 := ⟨_, rfl⟩
      rw [← he] at q1
      rw [← he0] at q2
      have HQR := hid (fun (V : World) => rightR_any 0 e V)
      by_cases hr : rightB 0 e = false
      · rw [hr] at HQR
        have HO := hid (oneE_no hjl (.inl (by rw [← he]; exact hr)))
        clear hra hra2 ho hx he he0 hr hjl h0l hlt hj HX
        go_wp2
        go_quiet (first | (go_at_call 27; refine Calls.quiet_of_same (HQR.out _)))
        have HB := hid (HW.out.drewN nq)
        clear q1 q2 c0 c1 c2 c3
        generalize wr.drewN nq = W1 at HB ⊢
        go_wp2
        go_ret
        exact ⟨by rw [HO.out, Bool.false_and]; rfl, HB.out.bl⟩
      · have hr : rightB 0 e = true := by simpa using hr
        rw [hr] at HQR
        by_cases hq : e = e0
        · have HX2 := hid (show ∀ y, y < j + 1 → rightB 0 (ep s y) = true ∧ ep s y = ep s 0 by
            intro y hy
            by_cases ey : y = j
            · subst ey
              rw [← he, ← he0]
              exact ⟨hr, hq⟩
            · exact HX.out y (by omega))
          obtain ⟨j1, hj1⟩ : ∃ q, q = j + 1 := ⟨_, rfl⟩
          rw [← hj1] at HX2
          have e2 : (j : Int) + 1 = (j1 : Int) := by omega
          have ew : IntKind.i64.wrap (j1 : Int) = (j1 : Int) := by rw [IntKind.wrap_i64] <;> have := HM.out <;> omega
          have HMS := hid (show j1 ≤ m ∧ m - j1 < m - j by omega)
          subst hq
          clear hra hra2 ho hx he he0 hr hjl h0l hlt hj HX hj1
          go_wp2
          go_quiet (first | (go_at_call 27; refine Calls.quiet_of_same (HQR.out _)))
          have HB := hid (HW.out.drewN nq)
          clear q1 q2 c0 c1 c2 c3
          generalize wr.drewN nq = W1 at HB ⊢
          go_wp2
          exact ⟨⟨j1, HMS.out.1, rfl, HX2, HB⟩, by
            show m - ((j1 : Int)).toNat < m - ((j : Int)).toNat
            rw [Int.toNat_natCast, Int.toNat_natCast]
            exact HMS.out.2⟩
        · have f5 : ((e : Int) != (e0 : Int)) = true := by simp; omega
          have f5b : ((e : Int) == (e0 : Int)) = false := by simp; omega
          have f5c : decide ((e : Int) = (e0 : Int)) = false := by simp; omega
          have f5n : (e != e0) = true := by simp; omega
          have f5m : (e == e0) = false := by simp; omega
          have f5d : decide (e = e0) = false := by simp; omega
          have HO := hid (oneE_no hjl (.inr (by rw [← he, ← he0]; exact hq)))
          clear hra hra2 ho hx he he0 hr hjl h0l hlt hj HX hq
          go_wp2
          go_quiet (first | (go_at_call 27; refine Calls.quiet_of_same (HQR.out _)))
          have HB := hid (HW.out.drewN nq)
          clear q1 q2 c0 c1 c2 c3
          generalize wr.drewN nq = W1 at HB ⊢
          go_wp2
          go_ret
          exact ⟨by rw [HO.out, Bool.false_and]; rfl, HB.out.bl⟩
    · obtain rfl : j = m := by omega
      have hd : decide ((j : Int) < (j : Int)) = false := by simp
      have HO := hid (oneE_all (l := s) (fun x h => HX.out x (by rw [HM.out.1]; exact h)))
      by_cases hq : j = n
      · subst hq
        clear hlt hj
        go_wp2
        go_ret
        exact ⟨by rw [HO.out]; simp, HW.out.bl⟩
      · have f6 : ((j : Int) == (n : Int)) = false := by simp; omega
        have f6c : decide ((j : Int) = (n : Int)) = false := by simp; omega
        have f6m : (j == n) = false := by simp; omega
        have f6d : decide (j = n) = false := by simp; omega
        clear hlt hj hq
        go_wp2
        go_ret
        exact ⟨by rw [HO.out, Bool.true_and, f6d]; rfl, HW.out.bl⟩
/-- Right, whatever it is handed. -/
theorem rgtR13_any (o : Ord13) (AI AS : Option Addr) (cI cS : Nat) (w : World) (hk : okO o) (hm : OrI w w.heap.size o AI AS cI cS) (hlen : o.sl.length ≤ 1000000) :
    Calls Tryd.prog 51 #[.agg (ordV o AI AS cI cS).toArray] w fun r w' => r = .returned (.bool (rgtO o)) ∧ Below w.heap.size w w' := by
  obtain ⟨kd, l, s, b⟩ := o
  by_cases h3 : kd = 3
  · subst h3
    exact rgtR_three l s b AI AS cI cS w
  by_cases h1 : kd = 1
  · subst h1
    by_cases hb : b = 0
    · subst hb
      cases hg : rgtB 32 l with
      | true => exact rgtR_one l s AI AS cI cS w hm.i hm.s hk.2.1 hlen hg
      | false => exact rgtR_idx1 l s AI AS cI cS w hm.i hg
    · exact rgtR_blocks1 l s b AI AS cI cS w (by omega)
  by_cases h2 : kd = 2
  · subst h2
    by_cases hb : b = 0
    · subst hb
      cases hg : rgtB 32 l with
      | true => exact rgtR_two l s AI AS cI cS w hm.i hg
      | false => exact rgtR_idx2 l s AI AS cI cS w hm.i hg
    · exact rgtR_blocks2 l s b AI AS cI cS w (by omega)
  exact rgtR_none kd l s b AI AS cI cS w h1 h2 h3
end Go.Proofs.YtfmbpdjcoopaeaaDoor

namespace Go.Proofs.YtfmbpdjcoopaeaaDoor
open Go.RowKit

/-- What a function with a ticket has in memory. -/
structure TwV (w : World) (C : List Value) (V : World) : Prop where
  bl : Below w.heap.size w V
  t : At V w.heap.size C.toArray 107
theorem TwV.new {w V V' : World} {C : List Value} (x : TwV w C V) (hb : Below V.heap.size V V') : TwV w C V' := ⟨x.bl.trans (hb.mono x.bl.size), x.t.new_ hb⟩
theorem TwV.drewN {w V : World} {C : List Value} (x : TwV w C V) (n : Nat) : TwV w C (V.drewN n) := ⟨below_drewN x.bl n, x.t⟩
theorem TwV.start {w : World} {C : List Value} : TwV w C (w.alloc (.cells C.toArray 107)) := ⟨(Below.refl _ _).alloc (Nat.le_refl _) _, At.new _ _ _⟩
theorem fits_no {l : List Nat} {b j : Nat} (hj : j < l.length) (h : b ≤ l[j]) : l.all (fun x => decide (x < b)) = false :=
  Bool.eq_false_iff.2 fun e => by
    have := List.all_eq_true.1 e _ (List.getElem_mem hj)
    rw [decide_eq_true_eq] at this
    omega
theorem fits_all {l : List Nat} {b : Nat} (h : ∀ j (hj : j < l.length), l[j] < b) : l.all (fun x => decide (x < b)) = true :=
  List.all_eq_true.2 fun x hx => by
    obtain ⟨j, hj, rfl⟩ := List.getElem_of_mem hx
    exact decide_eq_true (h j hj)
set_option maxRecDepth 100000 in
set_option maxHeartbeats 2000000 in
/-- Fits, whatever it is handed. -/
theorem fitR13_any (o : Ord13) (AI AS : Option Addr) (cI cS b : Nat) (w : World) (hk : okO o) (hm : OrI w w.heap.size o AI AS cI cS) (hlen : o.sl.length ≤ 1000000) (hli : o.idx.length ≤ 1000000) :
    Calls Tryd.prog 55 #[.agg (ordV o AI AS cI cS).toArray, .int .u64 (b : Int)] w fun r w' => r = .returned (.bool (fitO o b)) ∧ Below w.heap.size w w' := by
  unfold fitO
  have HRI := hid (fun (V : World) (x : Below w.heap.size w V) => rgtR13_any o AI AS cI cS V hk (hm.later x) hlen)
  obtain ⟨l, hl⟩ : ∃ l, l = o.idx := ⟨_, rfl⟩
  have HI := hid (fun (V : World) (x : Below w.heap.size w V) => show Nu V V.heap.size AI l from by rw [hl]; exact (hm.later x).i)
  obtain ⟨n, hn⟩ : ∃ n, n = l.length := ⟨_, rfl⟩
  have HN := hid (show n = l.length ∧ n ≤ 1000000 from ⟨hn, by rw [hn, hl]; exact hli⟩)
  obtain ⟨C, hC⟩ : ∃ C, C = ordV o AI AS cI cS := ⟨_, rfl⟩
  have K0 := hid (OwW.start (w := w) (C := C))
  have HOC := hid (fun (V : World) (x : OwW w C V) => show V.cell? ⟨w.heap.size, 1, none⟩ = some (.slice AI n cI) from by
    have h := x.o
    rw [hC] at h
    rw [hn, hl]
    exact (ordV_cells h).2.1)
  have HCL := hid (show C.length = 4 by rw [hC]; rfl)
  rw [← hC] at HRI ⊢
  rw [← hl]
  generalize rgtO o = R at HRI ⊢
  have c1 := HOC.out _ K0.out
  clear hC hl hn hk hm hlen hli
  go_enter Tryd.func55, Tryd.ntmps55
  go_upto_region 2 with fail
  clear c1
  go_loopw [5] (fun v wr => ∃ j : Nat, j ≤ n ∧ v = .int .i64 (j : Int) ∧ Hid (∀ x (hx : x < l.length), x < j → l[x] < b) ∧ Hid (OwW w C wr)) (fun v _ => n - (intOf v).toNat)
  case atStart => exact ⟨0, by omega, rfl, hid (fun x _ hx => absurd hx (Nat.not_lt_zero x)), K0⟩
  case round =>
    clear K0
    obtain ⟨j, hj, rfl, HX, HW⟩ := hrel
    have c1 := HOC.out wr HW.out
    by_cases hlt : j < n
    · have hd : decide ((j : Int) < (n : Int)) = true := by simp; omega
      have hdn : decide (j < n) = true := by simp; omega
      have ik : (j : Int) < (n : Int) := by omega
      have hjl : j < l.length := by rw [← HN.out.1]; exact hlt
      obtain ⟨g, q, rfl, -, q1⟩ := (HI.out wr HW.out.bl).at hjl
      obtain ⟨x, hx⟩ : ∃ x, x = l[j] := ⟨_, rfl⟩
      rw [← hx] at q1
      by_cases hq : b ≤ x
      · have f0 : decide ((b : Int) ≤ (x : Int)) = true := by simp; omega
        have f0n : decide (b ≤ x) = true := by simpa using hq
        have HO := hid (fits_no hjl (by rw [← hx]; exact hq))
        clear hlt hj hjl hx hq HX
        go_wp2
        go_ret
        exact ⟨by rw [HO.out, Bool.false_and]; rfl, HW.out.bl⟩
      · have f0 : decide ((b : Int) ≤ (x : Int)) = false := by simp; omega
        have f0n : decide (b ≤ x) = false := by simp; omega
        have HX2 := hid (show ∀ y (hy : y < l.length), y < j + 1 → l[y] < b by
          intro y hy hyj
          by_cases ey : y = j
          · subst ey
            rw [← hx]
            omega
          · exact HX.out y hy (by omega))
        obtain ⟨j1, hj1⟩ : ∃ q, q = j + 1 := ⟨_, rfl⟩
        rw [← hj1] at HX2
        have e2 : (j : Int) + 1 = (j1 : Int) := by omega
        have ew : IntKind.i64.wrap (j1 : Int) = (j1 : Int) := by rw [IntKind.wrap_i64] <;> have := HN.out <;> omega
        have HMS := hid (show j1 ≤ n ∧ n - j1 < n - j by omega)
        clear hlt hj hjl hx hq HX hj1
        go_wp2
        exact ⟨⟨j1, HMS.out.1, rfl, HX2, HW⟩, by
          show n - ((j1 : Int)).toNat < n - ((j : Int)).toNat
          rw [Int.toNat_natCast, Int.toNat_natCast]
          exact HMS.out.2⟩
    · obtain rfl : j = n := by omega
      have hd : decide ((j : Int) < (j : Int)) = false := by simp
      have HO := hid (fits_all (l := l) (b := b) (fun x h => HX.out x h (by rw [HN.out.1]; exact h)))
      clear hlt hj HX
      go_wp2_with (first
        | (refine wpList_valW (by rfl) (run_loadO13 (.tmp 2) rfl w.heap.size 0 rfl C (range_all HW.out.o) HCL.out) ?_)
        | (go_at_call 51; refine (HRI.out wr HW.out.bl).mono ?_; rintro r1 w1 ⟨rfl, hb1⟩; have K1 := hid (HW.out.new hb1); clear hb1))
      go_ret
      exact ⟨by rw [HO.out, Bool.true_and]; rfl, K1.out.bl⟩
set_option maxRecDepth 100000 in
set_option maxHeartbeats 2000000 in
theorem mayR_no (p e : Nat) (kd : Int) (l : List Nat) (s : List Sl13) (b : Nat) (tg : List UInt8) (AI AS : Option Addr) (cI cS : Nat) (w : World) (hk : okO ⟨kd, l, s, b⟩) (hm : OrI w w.heap.size ⟨kd, l, s, b⟩ AI AS cI cS) (hlen : s.length ≤ 1000000) (hg : rgtO ⟨kd, l, s, b⟩ = false) :
    Calls Tryd.prog 58 #[.agg (tkV ⟨p, e, ⟨kd, l, s, b⟩, tg⟩ AI AS cI cS).toArray] w fun r w' => r = .returned (.int .i64 2) ∧ Below w.heap.size w w' := by
  have HRI := hid (fun (V : World) (x : Below w.heap.size w V) => show Calls Tryd.prog 51 #[.agg (ordV ⟨kd, l, s, b⟩ AI AS cI cS).toArray] V (fun r W' => r = .returned (.bool false) ∧ Below V.heap.size V W') from by
    have := rgtR13_any ⟨kd, l, s, b⟩ AI AS cI cS V hk (hm.later x) hlen
    rw [hg] at this
    exact this)
  obtain ⟨C, hC⟩ : ∃ C, C = tkV ⟨p, e, ⟨kd, l, s, b⟩, tg⟩ AI AS cI cS := ⟨_, rfl⟩
  obtain ⟨D, hD⟩ : ∃ D, D = ordV ⟨kd, l, s, b⟩ AI AS cI cS := ⟨_, rfl⟩
  obtain ⟨m, hmm⟩ : ∃ m, m = s.length := ⟨_, rfl⟩
  have K0 := hid (TwV.start (w := w) (C := C))
  have HOC := hid (fun (V : World) (x : TwV w C V) => show (V.cell? ⟨w.heap.size, 0, none⟩ = some (.int .u64 (p : Int)) ∧ V.cell? ⟨w.heap.size, 1, none⟩ = some (.int .u64 (e : Int))) ∧ V.cell? ⟨w.heap.size, 2, none⟩ = some (.int .i64 kd) ∧ V.cell? ⟨w.heap.size, 4, none⟩ = some (.slice AS m cS) from by
    have h := x.t
    rw [hC] at h
    obtain ⟨h1, h2, -, h4, -⟩ := tkV_cells h
    rw [hmm]
    exact ⟨h1, h2, h4⟩)
  have HOR := hid (fun (V : World) (x : TwV w C V) => show V.rangeAt w.heap.size 2 D from by
    have h := x.t
    rw [hC] at h
    rw [hD]
    exact tkV_ord h)
  have HDL := hid (show D.length = 4 by rw [hD]; rfl)
  have HQR := hid (fun (V : World) => rightR_any 0 e V)
  rw [← hC]
  rw [← hD] at HRI
  clear hC hD hmm hk hm hlen hg
  go_enter Tryd.func58, Tryd.ntmps58
  go_wp2_with (first
    | (refine wpList_valW (by rfl) (run_loadO13 (.tmp 3) rfl w.heap.size 2 rfl D (HOR.out _ K0.out) HDL.out) ?_)
    | (go_at_call 51; refine (HRI.out _ K0.out.bl).mono ?_; rintro r1 w1 ⟨rfl, hb1⟩; have K1 := hid (K0.out.new hb1); clear hb1; obtain ⟨⟨c0, c1⟩, c2, c4⟩ := HOC.out w1 K1.out))
  go_ret
  exact ⟨rfl, K1.out.bl⟩
set_option maxRecDepth 100000 in
set_option maxHeartbeats 2000000 in
theorem mayR_2 (p e : Nat) (l : List Nat) (s : List Sl13) (b : Nat) (tg : List UInt8) (AI AS : Option Addr) (cI cS : Nat) (w : World) (hk : okO ⟨2, l, s, b⟩) (hm : OrI w w.heap.size ⟨2, l, s, b⟩ AI AS cI cS) (hlen : s.length ≤ 1000000) (hg : rgtO ⟨2, l, s, b⟩ = true) :
    Calls Tryd.prog 58 #[.agg (tkV ⟨p, e, ⟨2, l, s, b⟩, tg⟩ AI AS cI cS).toArray] w fun r w' => r = .returned (.int .i64 (if rightB 0 e && decide (p < e) then (0 : Int) else 1)) ∧ Below w.heap.size w w' := by
  have HRI := hid (fun (V : World) (x : Below w.heap.size w V) => show Calls Tryd.prog 51 #[.agg (ordV ⟨2, l, s, b⟩ AI AS cI cS).toArray] V (fun r W' => r = .returned (.bool true) ∧ Below V.heap.size V W') from by
    have := rgtR13_any ⟨2, l, s, b⟩ AI AS cI cS V hk (hm.later x) hlen
    rw [hg] at this
    exact this)
  obtain ⟨C, hC⟩ : ∃ C, C = tkV ⟨p, e, ⟨2, l, s, b⟩, tg⟩ AI AS cI cS := ⟨_, rfl⟩
  obtain ⟨D, hD⟩ : ∃ D, D = ordV ⟨2, l, s, b⟩ AI AS cI cS := ⟨_, rfl⟩
  obtain ⟨m, hmm⟩ : ∃ m, m = s.length := ⟨_, rfl⟩
  have K0 := hid (TwV.start (w := w) (C := C))
  have HOC := hid (fun (V : World) (x : TwV w C V) => show (V.cell? ⟨w.heap.size, 0, none⟩ = some (.int .u64 (p : Int)) ∧ V.cell? ⟨w.heap.size, 1, none⟩ = some (.int .u64 (e : Int))) ∧ V.cell? ⟨w.heap.size, 2, none⟩ = some (.int .i64 2) ∧ V.cell? ⟨w.heap.size, 4, none⟩ = some (.slice AS m cS) from by
    have h := x.t
    rw [hC] at h
    obtain ⟨h1, h2, -, h4, -⟩ := tkV_cells h
    rw [hmm]
    exact ⟨h1, h2, h4⟩)
  have HOR := hid (fun (V : World) (x : TwV w C V) => show V.rangeAt w.heap.size 2 D from by
    have h := x.t
    rw [hC] at h
    rw [hD]
    exact tkV_ord h)
  have HDL := hid (show D.length = 4 by rw [hD]; rfl)
  have HQR := hid (fun (V : World) => rightR_any 0 e V)
  rw [← hC]
  rw [← hD] at HRI
  clear hC hD hmm hk hm hlen hg
  by_cases hr : rightB 0 e = false
  · rw [hr] at HQR
    rw [show (if rightB 0 e && decide (p < e) then (0 : Int) else 1) = 1 by rw [hr]; rfl]
    clear hr
    go_enter Tryd.func58, Tryd.ntmps58
    go_wp2_with (first
      | (refine wpList_valW (by rfl) (run_loadO13 (.tmp 3) rfl w.heap.size 2 rfl D (HOR.out _ K0.out) HDL.out) ?_)
      | (go_at_call 51; refine (HRI.out _ K0.out.bl).mono ?_; rintro r1 w1 ⟨rfl, hb1⟩; have K1 := hid (K0.out.new hb1); clear hb1; obtain ⟨⟨c0, c1⟩, c2, c4⟩ := HOC.out w1 K1.out))
    go_quiet (fail)
    have HB := hid (K1.out.drewN nq)
    obtain ⟨⟨c0, c1⟩, c2, c4⟩ := HOC.out _ HB.out
    generalize w1.drewN nq = W1 at HB c0 c1 c2 c4 ⊢
    go_wp2_with (first
      | (go_at_call 27; refine (HQR.out _).mono ?_; rintro r2 w2 ⟨rfl, hw2⟩; rw [hw2]; clear hw2))
    go_ret
    exact ⟨rfl, HB.out.bl⟩
  have hr : rightB 0 e = true := by simpa using hr
  rw [hr] at HQR
  by_cases hp : p < e
  · rw [show (if rightB 0 e && decide (p < e) then (0 : Int) else 1) = 0 by rw [hr, decide_eq_true hp]; rfl]
    have f8 : decide ((e : Int) ≤ (p : Int)) = false := by simp; omega
    have f8n : decide (e ≤ p) = false := by simp; omega
    clear hr hp
    go_enter Tryd.func58, Tryd.ntmps58
    go_wp2_with (first
      | (refine wpList_valW (by rfl) (run_loadO13 (.tmp 3) rfl w.heap.size 2 rfl D (HOR.out _ K0.out) HDL.out) ?_)
      | (go_at_call 51; refine (HRI.out _ K0.out.bl).mono ?_; rintro r1 w1 ⟨rfl, hb1⟩; have K1 := hid (K0.out.new hb1); clear hb1; obtain ⟨⟨c0, c1⟩, c2, c4⟩ := HOC.out w1 K1.out))
    go_quiet (fail)
    have HB := hid (K1.out.drewN nq)
    obtain ⟨⟨c0, c1⟩, c2, c4⟩ := HOC.out _ HB.out
    generalize w1.drewN nq = W1 at HB c0 c1 c2 c4 ⊢
    go_wp2_with (first
      | (go_at_call 27; refine (HQR.out _).mono ?_; rintro r2 w2 ⟨rfl, hw2⟩; rw [hw2]; clear hw2))
    go_ret
    exact ⟨rfl, HB.out.bl⟩
  · rw [show (if rightB 0 e && decide (p < e) then (0 : Int) else 1) = 1 by rw [hr, decide_eq_false hp]; rfl]
    have f8 : decide ((e : Int) ≤ (p : Int)) = true := by simp; omega
    have f8n : decide (e ≤ p) = true := by simp; omega
    clear hr hp
    go_enter Tryd.func58, Tryd.ntmps58
    go_wp2_with (first
      | (refine wpList_valW (by rfl) (run_loadO13 (.tmp 3) rfl w.heap.size 2 rfl D (HOR.out _ K0.out) HDL.out) ?_)
      | (go_at_call 51; refine (HRI.out _ K0.out.bl).mono ?_; rintro r1 w1 ⟨rfl, hb1⟩; have K1 := hid (K0.out.new hb1); clear hb1; obtain ⟨⟨c0, c1⟩, c2, c4⟩ := HOC.out w1 K1.out))
    go_quiet (fail)
    have HB := hid (K1.out.drewN nq)
    obtain ⟨⟨c0, c1⟩, c2, c4⟩ := HOC.out _ HB.out
    generalize w1.drewN nq = W1 at HB c0 c1 c2 c4 ⊢
    go_wp2_with (first
      | (go_at_call 27; refine (HQR.out _).mono ?_; rintro r2 w2 ⟨rfl, hw2⟩; rw [hw2]; clear hw2))
    go_ret
    exact ⟨rfl, HB.out.bl⟩
set_option maxRecDepth 100000 in
set_option maxHeartbeats 2000000 in
theorem mayR_3 (p e : Nat) (l : List Nat) (s : List Sl13) (b : Nat) (tg : List UInt8) (AI AS : Option Addr) (cI cS : Nat) (w : World) (hk : okO ⟨3, l, s, b⟩) (hm : OrI w w.heap.size ⟨3, l, s, b⟩ AI AS cI cS) (hlen : s.length ≤ 1000000) (hg : rgtO ⟨3, l, s, b⟩ = true) :
    Calls Tryd.prog 58 #[.agg (tkV ⟨p, e, ⟨3, l, s, b⟩, tg⟩ AI AS cI cS).toArray] w fun r w' => r = .returned (.int .i64 (if rightB 0 e && decide (p < e) then (0 : Int) else 1)) ∧ Below w.heap.size w w' := by
  have HRI := hid (fun (V : World) (x : Below w.heap.size w V) => show Calls Tryd.prog 51 #[.agg (ordV ⟨3, l, s, b⟩ AI AS cI cS).toArray] V (fun r W' => r = .returned (.bool true) ∧ Below V.heap.size V W') from by
    have := rgtR13_any ⟨3, l, s, b⟩ AI AS cI cS V hk (hm.later x) hlen
    rw [hg] at this
    exact this)
  obtain ⟨C, hC⟩ : ∃ C, C = tkV ⟨p, e, ⟨3, l, s, b⟩, tg⟩ AI AS cI cS := ⟨_, rfl⟩
  obtain ⟨D, hD⟩ : ∃ D, D = ordV ⟨3, l, s, b⟩ AI AS cI cS := ⟨_, rfl⟩
  obtain ⟨m, hmm⟩ : ∃ m, m = s.length := ⟨_, rfl⟩
  have K0 := hid (TwV.start (w := w) (C := C))
  have HOC := hid (fun (V : World) (x : TwV w C V) => show (V.cell? ⟨w.heap.size, 0, none⟩ = some (.int .u64 (p : Int)) ∧ V.cell? ⟨w.heap.size, 1, none⟩ = some (.int .u64 (e : Int))) ∧ V.cell? ⟨w.heap.size, 2, none⟩ = some (.int .i64 3) ∧ V.cell? ⟨w.heap.size, 4, none⟩ = some (.slice AS m cS) from by
    have h := x.t
    rw [hC] at h
    obtain ⟨h1, h2, -, h4, -⟩ := tkV_cells h
    rw [hmm]
    exact ⟨h1, h2, h4⟩)
  have HOR := hid (fun (V : World) (x : TwV w C V) => show V.rangeAt w.heap.size 2 D from by
    have h := x.t
    rw [hC] at h
    rw [hD]
    exact tkV_ord h)
  have HDL := hid (show D.length = 4 by rw [hD]; rfl)
  have HQR := hid (fun (V : World) => rightR_any 0 e V)
  rw [← hC]
  rw [← hD] at HRI
  clear hC hD hmm hk hm hlen hg
  by_cases hr : rightB 0 e = false
  · rw [hr] at HQR
    rw [show (if rightB 0 e && decide (p < e) then (0 : Int) else 1) = 1 by rw [hr]; rfl]
    clear hr
    go_enter Tryd.func58, Tryd.ntmps58
    go_wp2_with (first
      | (refine wpList_valW (by rfl) (run_loadO13 (.tmp 3) rfl w.heap.size 2 rfl D (HOR.out _ K0.out) HDL.out) ?_)
      | (go_at_call 51; refine (HRI.out _ K0.out.bl).mono ?_; rintro r1 w1 ⟨rfl, hb1⟩; have K1 := hid (K0.out.new hb1); clear hb1; obtain ⟨⟨c0, c1⟩, c2, c4⟩ := HOC.out w1 K1.out))
    go_quiet (fail)
    have HB := hid (K1.out.drewN nq)
    obtain ⟨⟨c0, c1⟩, c2, c4⟩ := HOC.out _ HB.out
    generalize w1.drewN nq = W1 at HB c0 c1 c2 c4 ⊢
    go_wp2_with (first
      | (go_at_call 27; refine (HQR.out _).mono ?_; rintro r2 w2 ⟨rfl, hw2⟩; rw [hw2]; clear hw2))
    go_ret
    exact ⟨rfl, HB.out.bl⟩
  have hr : rightB 0 e = true := by simpa using hr
  rw [hr] at HQR
  by_cases hp : p < e
  · rw [show (if rightB 0 e && decide (p < e) then (0 : Int) else 1) = 0 by rw [hr, decide_eq_true hp]; rfl]
    have f8 : decide ((e : Int) ≤ (p : Int)) = false := by simp; omega
    have f8n : decide (e ≤ p) = false := by simp; omega
    clear hr hp
    go_enter Tryd.func58, Tryd.ntmps58
    go_wp2_with (first
      | (refine wpList_valW (by rfl) (run_loadO13 (.tmp 3) rfl w.heap.size 2 rfl D (HOR.out _ K0.out) HDL.out) ?_)
      | (go_at_call 51; refine (HRI.out _ K0.out.bl).mono ?_; rintro r1 w1 ⟨rfl, hb1⟩; have K1 := hid (K0.out.new hb1); clear hb1; obtain ⟨⟨c0, c1⟩, c2, c4⟩ := HOC.out w1 K1.out))
    go_quiet (fail)
    have HB := hid (K1.out.drewN nq)
    obtain ⟨⟨c0, c1⟩, c2, c4⟩ := HOC.out _ HB.out
    generalize w1.drewN nq = W1 at HB c0 c1 c2 c4 ⊢
    go_wp2_with (first
      | (go_at_call 27; refine (HQR.out _).mono ?_; rintro r2 w2 ⟨rfl, hw2⟩; rw [hw2]; clear hw2))
    go_ret
    exact ⟨rfl, HB.out.bl⟩
  · rw [show (if rightB 0 e && decide (p < e) then (0 : Int) else 1) = 1 by rw [hr, decide_eq_false hp]; rfl]
    have f8 : decide ((e : Int) ≤ (p : Int)) = true := by simp; omega
    have f8n : decide (e ≤ p) = true := by simp; omega
    clear hr hp
    go_enter Tryd.func58, Tryd.ntmps58
    go_wp2_with (first
      | (refine wpList_valW (by rfl) (run_loadO13 (.tmp 3) rfl w.heap.size 2 rfl D (HOR.out _ K0.out) HDL.out) ?_)
      | (go_at_call 51; refine (HRI.out _ K0.out.bl).mono ?_; rintro r1 w1 ⟨rfl, hb1⟩; have K1 := hid (K0.out.new hb1); clear hb1; obtain ⟨⟨c0, c1⟩, c2, c4⟩ := HOC.out w1 K1.out))
    go_quiet (fail)
    have HB := hid (K1.out.drewN nq)
    obtain ⟨⟨c0, c1⟩, c2, c4⟩ := HOC.out _ HB.out
    generalize w1.drewN nq = W1 at HB c0 c1 c2 c4 ⊢
    go_wp2_with (first
      | (go_at_call 27; refine (HQR.out _).mono ?_; rintro r2 w2 ⟨rfl, hw2⟩; rw [hw2]; clear hw2))
    go_ret
    exact ⟨rfl, HB.out.bl⟩
set_option maxRecDepth 100000 in
set_option maxHeartbeats 2000000 in
theorem mayR_1n (p e : Nat) (l : List Nat) (s : List Sl13) (b : Nat) (tg : List UInt8) (AI AS : Option Addr) (cI cS : Nat) (w : World) (hk : okO ⟨1, l, s, b⟩) (hm : OrI w w.heap.size ⟨1, l, s, b⟩ AI AS cI cS) (hlen : s.length ≤ 1000000) (hg : rgtO ⟨1, l, s, b⟩ = true) (hne : 0 < s.length) (hq : ep s 0 ≠ e) :
    Calls Tryd.prog 58 #[.agg (tkV ⟨p, e, ⟨1, l, s, b⟩, tg⟩ AI AS cI cS).toArray] w fun r w' => r = .returned (.int .i64 2) ∧ Below w.heap.size w w' := by
  have HRI := hid (fun (V : World) (x : Below w.heap.size w V) => show Calls Tryd.prog 51 #[.agg (ordV ⟨1, l, s, b⟩ AI AS cI cS).toArray] V (fun r W' => r = .returned (.bool true) ∧ Below V.heap.size V W') from by
    have := rgtR13_any ⟨1, l, s, b⟩ AI AS cI cS V hk (hm.later x) hlen
    rw [hg] at this
    exact this)
  obtain ⟨C, hC⟩ : ∃ C, C = tkV ⟨p, e, ⟨1, l, s, b⟩, tg⟩ AI AS cI cS := ⟨_, rfl⟩
  obtain ⟨D, hD⟩ : ∃ D, D = ordV ⟨1, l, s, b⟩ AI AS cI cS := ⟨_, rfl⟩
  obtain ⟨m, hmm⟩ : ∃ m, m = s.length := ⟨_, rfl⟩
  have K0 := hid (TwV.start (w := w) (C := C))
  have HOC := hid (fun (V : World) (x : TwV w C V) => show (V.cell? ⟨w.heap.size, 0, none⟩ = some (.int .u64 (p : Int)) ∧ V.cell? ⟨w.heap.size, 1, none⟩ = some (.int .u64 (e : Int))) ∧ V.cell? ⟨w.heap.size, 2, none⟩ = some (.int .i64 1) ∧ V.cell? ⟨w.heap.size, 4, none⟩ = some (.slice AS m cS) from by
    have h := x.t
    rw [hC] at h
    obtain ⟨h1, h2, -, h4, -⟩ := tkV_cells h
    rw [hmm]
    exact ⟨h1, h2, h4⟩)
  have HOR := hid (fun (V : World) (x : TwV w C V) => show V.rangeAt w.heap.size 2 D from by
    have h := x.t
    rw [hC] at h
    rw [hD]
    exact tkV_ord h)
  have HDL := hid (show D.length = 4 by rw [hD]; rfl)
  have HQR := hid (fun (V : World) => rightR_any 0 e V)
  rw [← hC]
  rw [← hD] at HRI
  have hpos : 0 < s.length := hne
  have HS := hid (fun (V : World) (x : Below w.heap.size w V) => show ∃ g q, AS = some ⟨g, q, none⟩ ∧ V.cell? ⟨g, q, none⟩ = some (.int .u64 ((ep s 0 : Nat) : Int)) from by
    obtain ⟨g, q, eA, -, hra⟩ := (hm.later x).s.at hk.2.1 hpos
    have q1 := sl_epoch hra
    rw [← ep_get hpos, Nat.mul_zero, Nat.add_zero] at q1
    exact ⟨g, q, eA, q1⟩)
  have HM := hid (show (0 : Int) < (m : Int) by omega)
  obtain ⟨e0, he0⟩ : ∃ q, q = ep s 0 := ⟨_, rfl⟩
  have HE0 := hid he0
  have im : (0 : Int) < (m : Int) := HM.out
  rw [← he0] at hq
  have f5 : ((e0 : Int) != (e : Int)) = true := by simp; omega
  have f5b : ((e0 : Int) == (e : Int)) = false := by simp; omega
  have f5c : decide ((e0 : Int) = (e : Int)) = false := by simp; omega
  have f5n : (e0 != e) = true := by simp; omega
  have f5m : (e0 == e) = false := by simp; omega
  have f5d : decide (e0 = e) = false := by simp; omega
  clear hC hD hmm hk hm hlen hg hne hpos he0 hq
  go_enter Tryd.func58, Tryd.ntmps58
  go_wp2_with (first
    | (refine wpList_valW (by rfl) (run_loadO13 (.tmp 3) rfl w.heap.size 2 rfl D (HOR.out _ K0.out) HDL.out) ?_)
    | (go_at_call 51; refine (HRI.out _ K0.out.bl).mono ?_; rintro r1 w1 ⟨rfl, hb1⟩; have K1 := hid (K0.out.new hb1); clear hb1; obtain ⟨⟨c0, c1⟩, c2, c4⟩ := HOC.out w1 K1.out))
  obtain ⟨g, q, eA, q1⟩ := HS.out w1 K1.out.bl
  rw [← HE0.out] at q1
  subst eA
  go_quiet (fail)
  have HB := hid (K1.out.drewN nq)
  obtain ⟨⟨c0, c1⟩, c2, c4⟩ := HOC.out _ HB.out
  generalize w1.drewN nq = W1 at HB c0 c1 c2 c4 ⊢
  go_wp2
  go_ret
  exact ⟨rfl, HB.out.bl⟩
set_option maxRecDepth 100000 in
set_option maxHeartbeats 2000000 in
theorem mayR_1y (p e : Nat) (l : List Nat) (s : List Sl13) (b : Nat) (tg : List UInt8) (AI AS : Option Addr) (cI cS : Nat) (w : World) (hk : okO ⟨1, l, s, b⟩) (hm : OrI w w.heap.size ⟨1, l, s, b⟩ AI AS cI cS) (hlen : s.length ≤ 1000000) (hg : rgtO ⟨1, l, s, b⟩ = true) (hne : 0 < s.length) (hq : ep s 0 = e) :
    Calls Tryd.prog 58 #[.agg (tkV ⟨p, e, ⟨1, l, s, b⟩, tg⟩ AI AS cI cS).toArray] w fun r w' => r = .returned (.int .i64 (if rightB 0 e && decide (p < e) then (0 : Int) else 1)) ∧ Below w.heap.size w w' := by
  have HRI := hid (fun (V : World) (x : Below w.heap.size w V) => show Calls Tryd.prog 51 #[.agg (ordV ⟨1, l, s, b⟩ AI AS cI cS).toArray] V (fun r W' => r = .returned (.bool true) ∧ Below V.heap.size V W') from by
    have := rgtR13_any ⟨1, l, s, b⟩ AI AS cI cS V hk (hm.later x) hlen
    rw [hg] at this
    exact this)
  obtain ⟨C, hC⟩ : ∃ C, C = tkV ⟨p, e, ⟨1, l, s, b⟩, tg⟩ AI AS cI cS := ⟨_, rfl⟩
  obtain ⟨D, hD⟩ : ∃ D, D = ordV ⟨1, l, s, b⟩ AI AS cI cS := ⟨_, rfl⟩
  obtain ⟨m, hmm⟩ : ∃ m, m = s.length := ⟨_, rfl⟩
  have K0 := hid (TwV.start (w := w) (C := C))
  have HOC := hid (fun (V : World) (x : TwV w C V) => show (V.cell? ⟨w.heap.size, 0, none⟩ = some (.int .u64 (p : Int)) ∧ V.cell? ⟨w.heap.size, 1, none⟩ = some (.int .u64 (e : Int))) ∧ V.cell? ⟨w.heap.size, 2, none⟩ = some (.int .i64 1) ∧ V.cell? ⟨w.heap.size, 4, none⟩ = some (.slice AS m cS) from by
    have h := x.t
    rw [hC] at h
    obtain ⟨h1, h2, -, h4, -⟩ := tkV_cells h
    rw [hmm]
    exact ⟨h1, h2, h4⟩)
  have HOR := hid (fun (V : World) (x : TwV w C V) => show V.rangeAt w.heap.size 2 D from by
    have h := x.t
    rw [hC] at h
    rw [hD]
    exact tkV_ord h)
  have HDL := hid (show D.length = 4 by rw [hD]; rfl)
  have HQR := hid (fun (V : World) => rightR_any 0 e V)
  rw [← hC]
  rw [← hD] at HRI
  have hpos : 0 < s.length := hne
  have HS := hid (fun (V : World) (x : Below w.heap.size w V) => show ∃ g q, AS = some ⟨g, q, none⟩ ∧ V.cell? ⟨g, q, none⟩ = some (.int .u64 ((ep s 0 : Nat) : Int)) from by
    obtain ⟨g, q, eA, -, hra⟩ := (hm.later x).s.at hk.2.1 hpos
    have q1 := sl_epoch hra
    rw [← ep_get hpos, Nat.mul_zero, Nat.add_zero] at q1
    exact ⟨g, q, eA, q1⟩)
  have HM := hid (show (0 : Int) < (m : Int) by omega)
  obtain ⟨e0, he0⟩ : ∃ q, q = ep s 0 := ⟨_, rfl⟩
  have HE0 := hid he0
  have im : (0 : Int) < (m : Int) := HM.out
  obtain rfl : e0 = e := by rw [he0]; exact hq
  clear hC hD hmm hk hm hlen hg hne hpos he0 hq
  by_cases hr : rightB 0 e0 = false
  · rw [hr] at HQR
    rw [show (if rightB 0 e0 && decide (p < e0) then (0 : Int) else 1) = 1 by rw [hr]; rfl]
    clear hr
    go_enter Tryd.func58, Tryd.ntmps58
    go_wp2_with (first
      | (refine wpList_valW (by rfl) (run_loadO13 (.tmp 3) rfl w.heap.size 2 rfl D (HOR.out _ K0.out) HDL.out) ?_)
      | (go_at_call 51; refine (HRI.out _ K0.out.bl).mono ?_; rintro r1 w1 ⟨rfl, hb1⟩; have K1 := hid (K0.out.new hb1); clear hb1; obtain ⟨⟨c0, c1⟩, c2, c4⟩ := HOC.out w1 K1.out))
    obtain ⟨g, q, eA, q1⟩ := HS.out w1 K1.out.bl
    rw [← HE0.out] at q1
    subst eA
    go_quiet (fail)
    have HB := hid (K1.out.drewN nq)
    obtain ⟨⟨c0, c1⟩, c2, c4⟩ := HOC.out _ HB.out
    generalize w1.drewN nq = W1 at HB c0 c1 c2 c4 ⊢
    go_wp2_with (first
      | (go_at_call 27; refine (HQR.out _).mono ?_; rintro r2 w2 ⟨rfl, hw2⟩; rw [hw2]; clear hw2))
    go_ret
    exact ⟨rfl, HB.out.bl⟩
  have hr : rightB 0 e0 = true := by simpa using hr
  rw [hr] at HQR
  by_cases hp : p < e0
  · rw [show (if rightB 0 e0 && decide (p < e0) then (0 : Int) else 1) = 0 by rw [hr, decide_eq_true hp]; rfl]
    have f8 : decide ((e0 : Int) ≤ (p : Int)) = false := by simp; omega
    have f8n : decide (e0 ≤ p) = false := by simp; omega
    clear hr hp
    go_enter Tryd.func58, Tryd.ntmps58
    go_wp2_with (first
      | (refine wpList_valW (by rfl) (run_loadO13 (.tmp 3) rfl w.heap.size 2 rfl D (HOR.out _ K0.out) HDL.out) ?_)
      | (go_at_call 51; refine (HRI.out _ K0.out.bl).mono ?_; rintro r1 w1 ⟨rfl, hb1⟩; have K1 := hid (K0.out.new hb1); clear hb1; obtain ⟨⟨c0, c1⟩, c2, c4⟩ := HOC.out w1 K1.out))
    obtain ⟨g, q, eA, q1⟩ := HS.out w1 K1.out.bl
    rw [← HE0.out] at q1
    subst eA
    go_quiet (fail)
    have HB := hid (K1.out.drewN nq)
    obtain ⟨⟨c0, c1⟩, c2, c4⟩ := HOC.out _ HB.out
    generalize w1.drewN nq = W1 at HB c0 c1 c2 c4 ⊢
    go_wp2_with (first
      | (go_at_call 27; refine (HQR.out _).mono ?_; rintro r2 w2 ⟨rfl, hw2⟩; rw [hw2]; clear hw2))
    go_ret
    exact ⟨rfl, HB.out.bl⟩
  · rw [show (if rightB 0 e0 && decide (p < e0) then (0 : Int) else 1) = 1 by rw [hr, decide_eq_false hp]; rfl]
    have f8 : decide ((e0 : Int) ≤ (p : Int)) = true := by simp; omega
    have f8n : decide (e0 ≤ p) = true := by simp; omega
    clear hr hp
    go_enter Tryd.func58, Tryd.ntmps58
    go_wp2_with (first
      | (refine wpList_valW (by rfl) (run_loadO13 (.tmp 3) rfl w.heap.size 2 rfl D (HOR.out _ K0.out) HDL.out) ?_)
      | (go_at_call 51; refine (HRI.out _ K0.out.bl).mono ?_; rintro r1 w1 ⟨rfl, hb1⟩; have K1 := hid (K0.out.new hb1); clear hb1; obtain ⟨⟨c0, c1⟩, c2, c4⟩ := HOC.out w1 K1.out))
    obtain ⟨g, q, eA, q1⟩ := HS.out w1 K1.out.bl
    rw [← HE0.out] at q1
    subst eA
    go_quiet (fail)
    have HB := hid (K1.out.drewN nq)
    obtain ⟨⟨c0, c1⟩, c2, c4⟩ := HOC.out _ HB.out
    generalize w1.drewN nq = W1 at HB c0 c1 c2 c4 ⊢
    go_wp2_with (first
      | (go_at_call 27; refine (HQR.out _).mono ?_; rintro r2 w2 ⟨rfl, hw2⟩; rw [hw2]; clear hw2))
    go_ret
    exact ⟨rfl, HB.out.bl⟩
/-- May, whatever it is handed. -/
theorem mayR13_any (t : Tk13) (AI AS : Option Addr) (cI cS : Nat) (w : World) (hk : okT t) (hm : OrI w w.heap.size t.o AI AS cI cS) (hlen : t.o.sl.length ≤ 1000000) :
    Calls Tryd.prog 58 #[.agg (tkV t AI AS cI cS).toArray] w fun r w' => r = .returned (.int .i64 (mayN t : Int)) ∧ Below w.heap.size w w' := by
  obtain ⟨p, e, ⟨kd, l, s, b⟩, tg⟩ := t
  have hko : okO ⟨kd, l, s, b⟩ := hk.2.2.1
  have hif : ∀ n : Nat, (n = if rightB 0 e && decide (p < e) then 0 else 1) → ((n : Nat) : Int) = (if rightB 0 e && decide (p < e) then (0 : Int) else 1) := by
    rintro n rfl
    split <;> rfl
  cases hg : rgtO ⟨kd, l, s, b⟩ with
  | false =>
    have h0 : mayN ⟨p, e, ⟨kd, l, s, b⟩, tg⟩ = 2 := by unfold mayN; simp [hg]
    rw [h0]
    exact mayR_no p e kd l s b tg AI AS cI cS w hko hm hlen hg
  | true =>
    rcases rgtO_cases hg with ⟨h3, -⟩ | ⟨h3, -⟩ | ⟨h3, -, h4, -, h5⟩
    · obtain rfl : kd = 3 := h3
      have h0 : mayN ⟨p, e, ⟨3, l, s, b⟩, tg⟩ = if rightB 0 e && decide (p < e) then 0 else 1 := by unfold mayN; simp [hg]
      rw [hif _ h0]
      exact mayR_3 p e l s b tg AI AS cI cS w hko hm hlen hg
    · obtain rfl : kd = 2 := h3
      have h0 : mayN ⟨p, e, ⟨2, l, s, b⟩, tg⟩ = if rightB 0 e && decide (p < e) then 0 else 1 := by unfold mayN; simp [hg]
      rw [hif _ h0]
      exact mayR_2 p e l s b tg AI AS cI cS w hko hm hlen hg
    · obtain rfl : kd = 1 := h3
      have hne : 0 < s.length := by
        have h6 := (rgtB_small h4).2.1
        simp only at h5 h6
        omega
      by_cases hq : ep s 0 = e
      · have h0 : mayN ⟨p, e, ⟨1, l, s, b⟩, tg⟩ = if rightB 0 e && decide (p < e) then 0 else 1 := by
          unfold mayN
          rw [ep_head, if_pos hg, if_neg (by simp [hq])]
        rw [hif _ h0]
        exact mayR_1y p e l s b tg AI AS cI cS w hko hm hlen hg hne hq
      · have h0 : mayN ⟨p, e, ⟨1, l, s, b⟩, tg⟩ = 2 := by
          unfold mayN
          rw [ep_head, if_pos hg, if_pos ⟨rfl, hq⟩]
        rw [h0]
        exact mayR_1n p e l s b tg AI AS cI cS w hko hm hlen hg hne hq
end Go.Proofs.YtfmbpdjcoopaeaaDoor
