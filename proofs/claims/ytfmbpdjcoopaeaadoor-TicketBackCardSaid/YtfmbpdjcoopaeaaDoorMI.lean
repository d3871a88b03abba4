/-
  Layer 10, the program's side: a place searched in sorted indices.
  Layer 10, the program's side: whether indices are such for a height; whether a tree has them.
-/
import Derived.Test.YtfmbpdjcoopaeaaDoorM4
import Derived.Test.YtfmbpdjcoopaeaaDoorM7
import Derived.Test.YtfmbpdjcoopaeaaDoorM8
import Derived.Test.YtfmbpdjcoopaeaaDoorY1
namespace Go.Proofs.YtfmbpdjcoopaeaaDoor
open Go.RowKit

/-- Whether a place is the first one whose index isn't less. -/
structure CutW (l : List Nat) (x c : Nat) : Prop where
  le : c ≤ l.length
  lt : ∀ i, i < c → l.getD i 0 < x
  ge : ∀ i, c ≤ i → i < l.length → x ≤ l.getD i 0
theorem getD_lt {l : List Nat} (hs : l.Pairwise (· < ·)) {i j : Nat} (hij : i < j) (hj : j < l.length) : l.getD i 0 < l.getD j 0 := by
  rw [List.getD_eq_getElem?_getD, List.getD_eq_getElem?_getD, List.getElem?_eq_getElem (by omega), List.getElem?_eq_getElem hj]
  exact List.pairwise_iff_getElem.1 hs i j (by omega) hj hij
theorem CutW.take {l : List Nat} {x c : Nat} (h : CutW l x c) : l.take c = l.filter (fun y => decide (y < x)) := by
  have e : l = l.take c ++ l.drop c := (List.take_append_drop c l).symm
  rw [e, List.filter_append]
  have h1 : (l.take c).filter (fun y => decide (y < x)) = l.take c := List.filter_eq_self.2 fun y hy => by
    obtain ⟨i, hi, rfl⟩ := List.getElem_of_mem hy
    have hi' : i < c := by rw [List.length_take] at hi; omega
    have := h.lt i hi'
    rw [List.getD_eq_getElem?_getD, List.getElem?_eq_getElem (by have := h.le; omega)] at this
    rw [List.getElem_take]
    simpa using this
  have h2 : (l.drop c).filter (fun y => decide (y < x)) = [] := List.filter_eq_nil_iff.2 fun y hy => by
    obtain ⟨i, hi, rfl⟩ := List.getElem_of_mem hy
    rw [List.length_drop] at hi
    have := h.ge (c + i) (by omega) (by omega)
    rw [List.getD_eq_getElem?_getD, List.getElem?_eq_getElem (by omega)] at this
    rw [List.getElem_drop]
    simpa using this
  rw [h1, h2, List.append_nil, ← e]
theorem CutW.drop {l : List Nat} {x c : Nat} (h : CutW l x c) : l.drop c = l.filter (fun y => !decide (y < x)) := by
  have e : l = l.take c ++ l.drop c := (List.take_append_drop c l).symm
  rw [e, List.filter_append]
  have h1 : (l.take c).filter (fun y => !decide (y < x)) = [] := List.filter_eq_nil_iff.2 fun y hy => by
    obtain ⟨i, hi, rfl⟩ := List.getElem_of_mem hy
    have hi' : i < c := by rw [List.length_take] at hi; omega
    have := h.lt i hi'
    rw [List.getD_eq_getElem?_getD, List.getElem?_eq_getElem (by have := h.le; omega)] at this
    rw [List.getElem_take]
    simpa using this
  have h2 : (l.drop c).filter (fun y => !decide (y < x)) = l.drop c := List.filter_eq_self.2 fun y hy => by
    obtain ⟨i, hi, rfl⟩ := List.getElem_of_mem hy
    rw [List.length_drop] at hi
    have := h.ge (c + i) (by omega) (by omega)
    rw [List.getD_eq_getElem?_getD, List.getElem?_eq_getElem (by omega)] at this
    rw [List.getElem_drop]
    simpa using this
  rw [h1, h2, List.nil_append, ← e]
end Go.Proofs.YtfmbpdjcoopaeaaDoor

namespace Go.Proofs.YtfmbpdjcoopaeaaDoor
open Go.RowKit

theorem riseB_iff {l : List Nat} : riseB l = true ↔ l.Pairwise (· < ·) := by
  constructor
  · intro h
    have hn : ∀ i, i + 1 < l.length → l.getD i 0 < l.getD (i + 1) 0 := fun i hi => by
      unfold riseB at h
      rw [List.all_eq_true] at h
      have := h (i + 1) (List.mem_range.2 hi)
      simpa using this
    have hg : ∀ d i, i + d + 1 < l.length → l.getD i 0 < l.getD (i + d + 1) 0 := by
      intro d
      induction d with
      | zero => exact fun i hi => hn i hi
      | succ d ih => exact fun i hi => Nat.lt_trans (ih i (by omega)) (hn (i + d + 1) hi)
    refine List.pairwise_iff_getElem.2 fun i j hi hj hij => ?_
    have := hg (j - i - 1) i (by omega)
    rw [show i + (j - i - 1) + 1 = j by omega, List.getD_eq_getElem?_getD, List.getD_eq_getElem?_getD, List.getElem?_eq_getElem hi, List.getElem?_eq_getElem hj] at this
    exact this
  · exact fun h => riseB_all fun i hi h0 => getD_lt h (by omega) hi
/-- What the region of Right yields, where indices don't increase, and where they do. -/
def rtN (A : Option Addr) (n c : Nat) : Nat → Value
  | 0 => .slice A n c
  | 1 => .bool false
  | 2 => .bool false
  | 12 => .bool false
  | 13 => .bool false
  | _ => undef
def rtT (A : Option Addr) (n c m h p2 g q x : Nat) (fx : Bool) : Nat → Value
  | 0 => .slice A n c
  | 1 => .bool true
  | 2 => .bool true
  | 3 => .slice A n c
  | 4 => .slice A n c
  | 5 => .int .i64 (n : Int)
  | 6 => .int .i64 (m : Int)
  | 7 => .pointer (some ⟨g, q, none⟩)
  | 8 => .int .u64 (x : Int)
  | 9 => .int .i64 (h : Int)
  | 10 => .int .u64 (p2 : Int)
  | 11 => .bool fx
  | 12 => .bool fx
  | _ => .bool fx
/-- Of indices that increase the last one is the greatest. -/
theorem fitB_last {l : List Nat} (hs : l.Pairwise (· < ·)) (h0 : l ≠ []) (h : Nat) : fitB h l = decide (l.getD (l.length - 1) 0 < 2 ^ h) := by
  have hl : 0 < l.length := List.length_pos_iff.2 h0
  by_cases hc : l.getD (l.length - 1) 0 < 2 ^ h
  · rw [decide_eq_true hc]
    refine fitB_all fun i hi => ?_
    by_cases e : i = l.length - 1
    · rw [e]; exact hc
    · have := getD_lt hs (show i < l.length - 1 by omega) (by omega)
      omega
  · rw [decide_eq_false hc]
    exact fitB_no (i := l.length - 1) (by omega) hc
set_option maxRecDepth 100000 in
set_option maxHeartbeats 1000000 in
theorem pincr_any (l : List Nat) (A : Option Addr) (c : Nat) (W : World) (hr : Nu W W.heap.size A l) (hl : l.length ≤ 1000000) :
    Calls Tryd.prog 112 #[.slice A l.length c] W fun r W' => r = .returned (.bool (riseB l)) ∧ Below W.heap.size W W' := by
  obtain ⟨n, hn⟩ : ∃ n, n = l.length := ⟨_, rfl⟩
  have HR := hid (fun (W' : World) (b : Below W.heap.size W W') => (hr.new b : Nu W' W'.heap.size A l))
  have HN := hid hn
  have HL := hid (show n ≤ 1000000 by omega)
  rw [← hn]
  clear hr hl hn
  go_enter Tryd.func112, Tryd.ntmps112
  go_wp2
  go_loopw [3] (fun v wr => ∃ j : Nat, 1 ≤ j ∧ v = .int .i64 (j : Int) ∧ Hid (∀ x, x < j → x < n → x ≠ 0 → l.getD (x - 1) 0 < l.getD x 0) ∧ Hid (Below W.heap.size W wr)) (fun v _ => n - (intOf v).toNat)
  case atStart => exact ⟨1, by omega, rfl, hid (fun x hx _ h0 => by omega), hid (Below.refl _ _)⟩
  case round =>
    obtain ⟨j, hj, rfl, hx, hb⟩ := hrel
    by_cases hlt : j < n
    · have d1 : decide ((j : Int) < (n : Int)) = true := by simp; omega
      have d1n : decide (j < n) = true := by simp; omega
      have ik : (j : Int) < (n : Int) := by omega
      obtain ⟨jm, hjm⟩ : ∃ m, m = j - 1 := ⟨_, rfl⟩
      have e3 : (j : Int) - 1 = (jm : Int) := by omega
      have ew3 : IntKind.i64.wrap (jm : Int) = (jm : Int) := by rw [IntKind.wrap_i64] <;> have := HL.out <;> omega
      have ikm : (jm : Int) < (n : Int) := by omega
      have hjl : j < l.length := by rw [← HN.out]; exact hlt
      have hjml : jm < l.length := by omega
      obtain ⟨g, o, eA, -, c0⟩ := (HR.out wr hb.out).at hjl
      obtain ⟨g2, o2, eA2, -, c1⟩ := (HR.out wr hb.out).at hjml
      obtain ⟨rfl, rfl⟩ : g2 = g ∧ o2 = o := by rw [eA] at eA2; cases eA2; exact ⟨rfl, rfl⟩
      subst eA
      obtain ⟨x, hxx⟩ : ∃ x, x = l[j] := ⟨_, rfl⟩
      obtain ⟨y, hyy⟩ : ∃ y, y = l[jm] := ⟨_, rfl⟩
      have hg : l.getD j 0 = x := by rw [hxx, List.getD_eq_getElem?_getD, List.getElem?_eq_getElem hjl]; rfl
      have hg2 : l.getD (j - 1) 0 = y := by rw [← hjm, hyy, List.getD_eq_getElem?_getD, List.getElem?_eq_getElem hjml]; rfl
      rw [← hxx] at c0
      rw [← hyy] at c1
      obtain ⟨p1, hp1⟩ : ∃ q, q = o2 + j := ⟨_, rfl⟩
      obtain ⟨p2, hp2⟩ : ∃ q, q = o2 + jm := ⟨_, rfl⟩
      rw [← hp1] at c0
      rw [← hp2] at c1
      have ep1 := hp1.symm
      have ep2 := hp2.symm
      by_cases hc : x ≤ y
      · have f0 : decide ((x : Int) ≤ (y : Int)) = true := by simp; omega
        have f0n : decide (x ≤ y) = true := by simpa using hc
        have HO := hid (riseB_no (l := l) (i := j) hjl (by omega) (by rw [hg, hg2]; omega))
        clear hjm hjl hjml eA2 hxx hyy hg hg2 hp1 hp2 hc hlt hj hx
        go_wp2
        go_quiet (fail)
        have HB := hid (below_drewN hb.out nq)
        clear c0 c1 hb
        generalize wr.drewN nq = W1 at HB ⊢
        go_wp2
        go_ret
        exact ⟨by rw [HO.out]; rfl, HB.out⟩
      · have f0 : decide ((x : Int) ≤ (y : Int)) = false := by simp; omega
        have f0n : decide (x ≤ y) = false := by simpa using hc
        obtain ⟨j1, hj1⟩ : ∃ m, m = j + 1 := ⟨_, rfl⟩
        have e2 : (j : Int) + 1 = (j1 : Int) := by omega
        have ew : IntKind.i64.wrap (j1 : Int) = (j1 : Int) := by rw [IntKind.wrap_i64] <;> have := HL.out <;> omega
        have HM := hid (show 1 ≤ j1 ∧ n - j1 < n - j by omega)
        have HX := hid (show ∀ z, z < j1 → z < n → z ≠ 0 → l.getD (z - 1) 0 < l.getD z 0 from fun z hz hzn h0 => by
          by_cases e : z = j
          · rw [e, hg, hg2]; omega
          · exact hx.out z (by omega) hzn h0)
        clear hjm hjl hjml eA2 hxx hyy hg hg2 hp1 hp2 hc hlt hj hx hj1
        go_wp2
        go_quiet (fail)
        have HB := hid (below_drewN hb.out nq)
        clear c0 c1 hb
        generalize wr.drewN nq = W1 at HB ⊢
        go_wp2
        exact ⟨⟨j1, HM.out.1, rfl, HX.out, HB.out⟩, by
          show n - ((j1 : Int)).toNat < n - ((j : Int)).toNat
          rw [Int.toNat_natCast, Int.toNat_natCast]
          exact HM.out.2⟩
    · have d1 : decide ((j : Int) < (n : Int)) = false := by simp; omega
      have d1n : decide (j < n) = false := by simp; omega
      have HO := hid (show riseB l = true from riseB_all fun i hi h0 => hx.out i (by have := HN.out; omega) (by have := HN.out; omega) h0)
      have HB := hid hb.out
      clear hlt hj hx hb
      go_wp2
      go_ret
      exact ⟨by rw [HO.out]; rfl, HB.out⟩
set_option maxRecDepth 100000 in
set_option maxHeartbeats 400000 in
theorem pright10_no (h : Int) (n : Nat) (A : Option Addr) (c : Nat) (W : World) (hb : h < 0 ∨ 32 < h ∨ n = 0 ∨ 256 < n) :
    Calls Tryd.prog 44 #[.int .i64 h, .slice A n c] W fun r W' => r = .returned (.bool false) ∧ W' = W := by
  by_cases h1 : h < 0
  · have f1 : decide (h < 0) = true := by simpa using h1
    clear hb
    go_enter Tryd.func44, Tryd.ntmps44
    go_wp2
    go_ret
    exact ⟨rfl, rfl⟩
  · have f1 : decide (h < 0) = false := by simpa using h1
    by_cases h2 : 32 < h
    · have f2 : decide (32 < h) = true := by simpa using h2
      clear hb
      go_enter Tryd.func44, Tryd.ntmps44
      go_wp2
      go_ret
      exact ⟨rfl, rfl⟩
    · have f2 : decide (32 < h) = false := by simpa using h2
      by_cases h3 : n = 0
      · have f3 : decide ((n : Int) < 1) = true := by simp; omega
        have f3n : decide (n < 1) = true := by simp; omega
        have f3m : decide (n = 0) = true := by simpa using h3
        clear hb
        go_enter Tryd.func44, Tryd.ntmps44
        go_wp2
        go_ret
        exact ⟨rfl, rfl⟩
      · have f3 : decide ((n : Int) < 1) = false := by simp; omega
        have f3n : decide (n < 1) = false := by simp; omega
        have f3m : decide (n = 0) = false := by simpa using h3
        have f4 : decide (256 < (n : Int)) = true := by simp; omega
        have f4n : decide (256 < n) = true := by simp; omega
        clear hb
        go_enter Tryd.func44, Tryd.ntmps44
        go_wp2
        go_ret
        exact ⟨rfl, rfl⟩
set_option maxRecDepth 100000 in
set_option maxHeartbeats 1000000 in
theorem pright10_yes (h : Nat) (l : List Nat) (A : Option Addr) (c : Nat) (W : World) (hr : Nu W W.heap.size A l) (hh : h ≤ 32) (h0 : l.length ≠ 0) (hl : l.length ≤ 256) :
    Calls Tryd.prog 44 #[.int .i64 (h : Int), .slice A l.length c] W fun r W' => r = .returned (.bool (fitB h l && riseB l)) ∧ Below W.heap.size W W' := by
  obtain ⟨n, hn⟩ : ∃ n, n = l.length := ⟨_, rfl⟩
  have HR := hid (fun (W' : World) (b : Below W.heap.size W W') => (hr.new b : Nu W' W'.heap.size A l))
  have HI := hid (fun (V : World) (b : Below W.heap.size W V) => show Calls Tryd.prog 112 #[.slice A n c] V (fun r W' => r = .returned (.bool (riseB l)) ∧ Below V.heap.size V W') by rw [hn]; exact pincr_any l A c V (hr.new b) (by omega))
  have hll : n - 1 < l.length := by omega
  obtain ⟨m, hm⟩ : ∃ m, m = n - 1 := ⟨_, rfl⟩
  rw [← hm] at hll
  obtain ⟨x, hx⟩ : ∃ x, x = l[m] := ⟨_, rfl⟩
  have HX := hid hx
  have hgd : l.getD (l.length - 1) 0 = x := by rw [← hn, ← hm, hx, List.getD_eq_getElem?_getD, List.getElem?_eq_getElem hll]; rfl
  have HLX := hid (fun (V : World) (b : Below W.heap.size W V) => show ∃ g o, A = some ⟨g, o, none⟩ ∧ V.cell? ⟨g, o + m, none⟩ = some (.int .u64 (x : Int)) by
    obtain ⟨g, o, e, -, c0⟩ := (hr.new b : Nu V V.heap.size A l).at hll
    exact ⟨g, o, e, by rw [hx]; exact c0⟩)
  have f1 : decide ((h : Int) < 0) = false := by simp
  have f2 : decide (32 < (h : Int)) = false := by simp; omega
  have f2n : decide (32 < h) = false := by simp; omega
  have f3 : decide ((n : Int) < 1) = false := by simp; omega
  have f3n : decide (n < 1) = false := by simp; omega
  have f3m : decide (n = 0) = false := by simp; omega
  have f4 : decide (256 < (n : Int)) = false := by simp; omega
  have f4n : decide (256 < n) = false := by simp; omega
  have e1 : (n : Int) - 1 = (m : Int) := by omega
  have ew1 : IntKind.i64.wrap (m : Int) = (m : Int) := by rw [IntKind.wrap_i64] <;> omega
  have ikm : (m : Int) < (n : Int) := by omega
  have hpw : (2 : Nat) ^ h ≤ 4294967296 := pow_le32 hh
  obtain ⟨p2, hp2⟩ : ∃ p, p = 2 ^ h := ⟨_, rfl⟩
  have sh : binOp .shl 32 (.int .u64 1) (.int .i64 (h : Int)) = pure (.int .u64 (p2 : Int)) := by
    have := shl_u64 32 1 h .i64 (by omega) (by omega)
    rw [Nat.one_mul, ← hp2] at this
    exact this
  have d0 : decide ((x : Int) < (p2 : Int)) = decide (x < p2) := by simp
  obtain ⟨fx, hfx⟩ : ∃ b, b = decide (x < p2) := ⟨_, rfl⟩
  rw [← hfx] at d0
  have HF := hid (show riseB l = true → fitB h l = fx from fun e => by rw [fitB_last (riseB_iff.1 e) (fun e => h0 (by rw [e]; rfl)) h, hgd, hfx, hp2])
  have hfx' := hfx.symm
  rw [← hn]
  clear hr hh h0 hl hn hm hx hgd hpw hp2 hfx
  cases hri : riseB l with
  | false =>
    rw [hri] at HI
    rw [Bool.and_false]
    clear hri HF
    go_enter Tryd.func44, Tryd.ntmps44
    go_wp2
    try simp only [Act.put, List.setIfInBounds_toArray, List.set_cons_succ, List.set_cons_zero]
    refine wp_region_facts 14 14 [21, 22, 23, 24, 25, 26, 27, 28, 29, 30, 31, 32, 33, 4] (fun k v _ => v = rtN A n c k) (Below W.heap.size W) (by kernel_rfl) (by kernel_rfl)
      (fun W W' h hb => h.trans (hb.mono h.size)) (fun _ _ _ _ h _ => h) ((Below.refl _ _).drew) ?_ ?_
    · intro i hi vals W K hB hn hK
      simp only [frm_cons, frm_nil, List.set_cons_succ, List.set_cons_zero, Nat.reduceAdd] at hK ⊢
      rcases (by omega : i = 0 ∨ i = 1 ∨ i = 2 ∨ i = 3 ∨ i = 4 ∨ i = 5 ∨ i = 6 ∨ i = 7 ∨ i = 8 ∨ i = 9 ∨ i = 10 ∨ i = 11 ∨ i = 12 ∨ i = 13) with rfl | rfl | rfl | rfl | rfl | rfl | rfl | rfl | rfl | rfl | rfl | rfl | rfl | rfl
      · refine wpOp_plain rfl rfl (wp_val (w' := W) (v := .slice A n c) (by go_simp) ?_)
        exact hK _ _ rfl (Below.refl _ _)
      · have h0 := hn 0 (by decide +kernel)
        simp only [rtN] at h0
        simp only [h0] at hK ⊢
        refine wpOp_plain rfl rfl ?_
        go_simp
        go_at_call 112
        refine (HI.out W hB).mono ?_
        rintro e W' ⟨rfl, hb⟩
        exact hK _ _ rfl hb
      · have h1 := hn 1 (by decide +kernel)
        simp only [rtN] at h1
        simp only [h1] at hK ⊢
        refine wpOp_plain rfl rfl (wp_val (w' := W) (v := .bool false) (by go_simp) ?_)
        exact hK _ _ rfl (Below.refl _ _)
      · have h2 := hn 2 (by decide +kernel)
        simp only [rtN] at h2
        simp only [h2] at hK ⊢
        refine wpOp_off rfl (by rfl) ?_
        exact hK _ _ rfl (Below.refl _ _)
      · have h2 := hn 2 (by decide +kernel)
        simp only [rtN] at h2
        simp only [h2] at hK ⊢
        refine wpOp_off rfl (by rfl) ?_
        exact hK _ _ rfl (Below.refl _ _)
      · have h2 := hn 2 (by decide +kernel)
        simp only [rtN] at h2
        simp only [h2] at hK ⊢
        refine wpOp_off rfl (by rfl) ?_
        exact hK _ _ rfl (Below.refl _ _)
      · have h2 := hn 2 (by decide +kernel)
        simp only [rtN] at h2
        simp only [h2] at hK ⊢
        refine wpOp_off rfl (by rfl) ?_
        exact hK _ _ rfl (Below.refl _ _)
      · have h2 := hn 2 (by decide +kernel)
        simp only [rtN] at h2
        simp only [h2] at hK ⊢
        refine wpOp_off rfl (by rfl) ?_
        exact hK _ _ rfl (Below.refl _ _)
      · have h2 := hn 2 (by decide +kernel)
        simp only [rtN] at h2
        simp only [h2] at hK ⊢
        refine wpOp_off rfl (by rfl) ?_
        exact hK _ _ rfl (Below.refl _ _)
      · have h2 := hn 2 (by decide +kernel)
        simp only [rtN] at h2
        simp only [h2] at hK ⊢
        refine wpOp_off rfl (by rfl) ?_
        exact hK _ _ rfl (Below.refl _ _)
      · have h2 := hn 2 (by decide +kernel)
        simp only [rtN] at h2
        simp only [h2] at hK ⊢
        refine wpOp_off rfl (by rfl) ?_
        exact hK _ _ rfl (Below.refl _ _)
      · have h2 := hn 2 (by decide +kernel)
        simp only [rtN] at h2
        simp only [h2] at hK ⊢
        refine wpOp_off rfl (by rfl) ?_
        exact hK _ _ rfl (Below.refl _ _)
      · have h2 := hn 2 (by decide +kernel)
        simp only [rtN] at h2
        simp only [h2] at hK ⊢
        refine wpOp_plain rfl rfl (wp_val (w' := W) (v := .bool false) (by go_simp) ?_)
        exact hK _ _ rfl (Below.refl _ _)
      · have h12 := hn 12 (by decide +kernel)
        simp only [rtN] at h12
        simp only [h12] at hK ⊢
        refine wpOp_plain rfl rfl (wp_val (w' := W) (v := .bool false) (by go_simp) ?_)
        exact hK _ _ rfl (Below.refl _ _)
    · intro vals W hB hF
      have h13 := hF 13 (by omega)
      simp only [rtN] at h13
      simp only [frm_cons, frm_nil, List.set_cons_succ, List.set_cons_zero, Nat.reduceAdd, h13]
      refine wpUpto_done (by decide +kernel) ?_ _
      have HB := hid hB
      clear hB hF h13
      go_simp
      go_wp2
      go_ret
      exact ⟨rfl, HB.out⟩
  | true =>
    rw [hri] at HI
    rw [Bool.and_true, HF.out hri]
    clear hri HF
    go_enter Tryd.func44, Tryd.ntmps44
    obtain ⟨g, o, rfl, -⟩ := HLX.out W (Below.refl _ _)
    have HC := hid (fun (V : World) (b : Below W.heap.size W V) => show V.cell? ⟨g, o + m, none⟩ = some (.int .u64 (x : Int)) by
      obtain ⟨g', o', e, c0⟩ := HLX.out V b
      cases e
      exact c0)
    obtain ⟨q, hq⟩ : ∃ q, q = o + m := ⟨_, rfl⟩
    have eq := hq.symm
    rw [← hq] at HC
    clear hq HLX
    go_wp2
    try simp only [Act.put, List.setIfInBounds_toArray, List.set_cons_succ, List.set_cons_zero]
    refine wp_region_facts 14 14 [21, 22, 23, 24, 25, 26, 27, 28, 29, 30, 31, 32, 33, 4] (fun k v _ => v = rtT (some ⟨g, o, none⟩) n c m h p2 g q x fx k) (Below W.heap.size W) (by kernel_rfl) (by kernel_rfl)
      (fun W W' h hb => h.trans (hb.mono h.size)) (fun _ _ _ _ h _ => h) ((Below.refl _ _).drew) ?_ ?_
    · intro i hi vals W K hB hn hK
      simp only [frm_cons, frm_nil, List.set_cons_succ, List.set_cons_zero, Nat.reduceAdd] at hK ⊢
      rcases (by omega : i = 0 ∨ i = 1 ∨ i = 2 ∨ i = 3 ∨ i = 4 ∨ i = 5 ∨ i = 6 ∨ i = 7 ∨ i = 8 ∨ i = 9 ∨ i = 10 ∨ i = 11 ∨ i = 12 ∨ i = 13) with rfl | rfl | rfl | rfl | rfl | rfl | rfl | rfl | rfl | rfl | rfl | rfl | rfl | rfl
      · refine wpOp_plain rfl rfl (wp_val (w' := W) (v := .slice (some ⟨g, o, none⟩) n c) (by go_simp) ?_)
        exact hK _ _ rfl (Below.refl _ _)
      · have h0 := hn 0 (by decide +kernel)
        simp only [rtT] at h0
        simp only [h0] at hK ⊢
        refine wpOp_plain rfl rfl ?_
        go_simp
        go_at_call 112
        refine (HI.out W hB).mono ?_
        rintro e W' ⟨rfl, hb⟩
        exact hK _ _ rfl hb
      · have h1 := hn 1 (by decide +kernel)
        simp only [rtT] at h1
        simp only [h1] at hK ⊢
        refine wpOp_plain rfl rfl (wp_val (w' := W) (v := .bool true) (by go_simp) ?_)
        exact hK _ _ rfl (Below.refl _ _)
      · have h2 := hn 2 (by decide +kernel)
        simp only [rtT] at h2
        simp only [h2] at hK ⊢
        refine wpOp_on rfl (by rfl) (wp_val (w' := W) (v := .slice (some ⟨g, o, none⟩) n c) (by go_simp) ?_)
        exact hK _ _ rfl (Below.refl _ _)
      · have h2 := hn 2 (by decide +kernel)
        simp only [rtT] at h2
        simp only [h2] at hK ⊢
        refine wpOp_on rfl (by rfl) (wp_val (w' := W) (v := .slice (some ⟨g, o, none⟩) n c) (by go_simp) ?_)
        exact hK _ _ rfl (Below.refl _ _)
      · have h2 := hn 2 (by decide +kernel)
        have h4 := hn 4 (by decide +kernel)
        simp only [rtT] at h2 h4
        simp only [h2, h4] at hK ⊢
        refine wpOp_on rfl (by rfl) (wp_val (w' := W) (v := .int .i64 (n : Int)) (by go_simp) ?_)
        exact hK _ _ rfl (Below.refl _ _)
      · have h2 := hn 2 (by decide +kernel)
        have h5 := hn 5 (by decide +kernel)
        simp only [rtT] at h2 h5
        simp only [h2, h5] at hK ⊢
        refine wpOp_on rfl (by rfl) (wp_val (w' := W) (v := .int .i64 (m : Int)) (by go_simp) ?_)
        exact hK _ _ rfl (Below.refl _ _)
      · have h2 := hn 2 (by decide +kernel)
        have h3 := hn 3 (by decide +kernel)
        have h6 := hn 6 (by decide +kernel)
        simp only [rtT] at h2 h3 h6
        simp only [h2, h3, h6] at hK ⊢
        refine wpOp_on rfl (by rfl) (wp_val (w' := W) (v := .pointer (some ⟨g, q, none⟩)) (by go_simp) ?_)
        exact hK _ _ rfl (Below.refl _ _)
      · have h2 := hn 2 (by decide +kernel)
        have h7 := hn 7 (by decide +kernel)
        simp only [rtT] at h2 h7
        simp only [h2, h7] at hK ⊢
        have q0 := HC.out W hB
        refine wpOp_on rfl (by rfl) (wp_val (w' := W) (v := .int .u64 (x : Int)) (by go_simp) ?_)
        exact hK _ _ rfl (Below.refl _ _)
      · have h2 := hn 2 (by decide +kernel)
        simp only [rtT] at h2
        simp only [h2] at hK ⊢
        refine wpOp_on rfl (by rfl) (wp_val (w' := W) (v := .int .i64 (h : Int)) (by go_simp) ?_)
        exact hK _ _ rfl (Below.refl _ _)
      · have h2 := hn 2 (by decide +kernel)
        have h9 := hn 9 (by decide +kernel)
        simp only [rtT] at h2 h9
        simp only [h2, h9] at hK ⊢
        refine wpOp_on rfl (by rfl) (wp_val (w' := W) (v := .int .u64 (p2 : Int)) (by go_simp) ?_)
        exact hK _ _ rfl (Below.refl _ _)
      · have h2 := hn 2 (by decide +kernel)
        have h8 := hn 8 (by decide +kernel)
        have h10 := hn 10 (by decide +kernel)
        simp only [rtT] at h2 h8 h10
        simp only [h2, h8, h10] at hK ⊢
        refine wpOp_on rfl (by rfl) (wp_val (w' := W) (v := .bool fx) (by go_simp) ?_)
        exact hK _ _ rfl (Below.refl _ _)
      · have h2 := hn 2 (by decide +kernel)
        have h11 := hn 11 (by decide +kernel)
        simp only [rtT] at h2 h11
        simp only [h2, h11] at hK ⊢
        refine wpOp_plain rfl rfl (wp_val (w' := W) (v := .bool fx) (by go_simp) ?_)
        exact hK _ _ rfl (Below.refl _ _)
      · have h12 := hn 12 (by decide +kernel)
        simp only [rtT] at h12
        simp only [h12] at hK ⊢
        refine wpOp_plain rfl rfl (wp_val (w' := W) (v := .bool fx) (by go_simp) ?_)
        exact hK _ _ rfl (Below.refl _ _)
    · intro vals W hB hF
      have h13 := hF 13 (by omega)
      simp only [rtT] at h13
      simp only [frm_cons, frm_nil, List.set_cons_succ, List.set_cons_zero, Nat.reduceAdd, h13]
      refine wpUpto_done (by decide +kernel) ?_ _
      have HB := hid hB
      clear hB hF h13
      go_simp
      go_wp2
      go_ret
      exact ⟨rfl, HB.out⟩
/-- Right of the program, for all arguments. -/
theorem pright10_any (h : Int) (l : List Nat) (A : Option Addr) (c : Nat) (W : World) (hr : Nu W W.heap.size A l) :
    Calls Tryd.prog 44 #[.int .i64 h, .slice A l.length c] W fun r W' => r = .returned (.bool (rgtB h l)) ∧ Below W.heap.size W W' := by
  by_cases hb : h < 0 ∨ 32 < h ∨ l.length = 0 ∨ 256 < l.length
  · refine (pright10_no h l.length A c W hb).mono ?_
    rintro r W' ⟨rfl, rfl⟩
    exact ⟨by rw [rgtB_no hb], Below.refl _ _⟩
  · obtain ⟨k, rfl⟩ : ∃ k : Nat, h = (k : Int) := ⟨h.toNat, by omega⟩
    rw [rgtB_yes (by omega) (by omega) (by omega)]
    exact pright10_yes k l A c W hr (by omega) (by omega) (by omega)
end Go.Proofs.YtfmbpdjcoopaeaaDoor
