/-
  Layer 10 by definition: which indices are such for a height, which nodes a proof has, indices in order. Nothing here walks.
  Layer 10, the document's side: slices of indices; whether one is below a node.
  Layer 10, the program's side: a place searched in sorted indices.
  The document's Number: a number's bytes.
  The program's compression of a state with a block.
-/
import Derived.Test.YtdegmcfcbndelaaDoorY3
import Derived.Test.YtdegmcfcbndelaaDoorX0
import Derived.Test.YtdegmcfcbndelaaDoorY1
import Derived.Test.YtdegmcfcbndelaaDoorY2
namespace Go.Proofs.YtdegmcfcbndelaaDoor

/-- Is one of the indices below a node? -/
def belowB (l : List Nat) (k p : Nat) : Bool := l.any fun x => x >>> k == p
theorem belowB_zero (l : List Nat) (k p : Nat) : belowB (l.take 0) k p = false := rfl
theorem belowB_next (l : List Nat) (k p j : Nat) (hj : j < l.length) (h : belowB (l.take j) k p = false) : belowB (l.take (j + 1)) k p = (l[j] >>> k == p) := by
  unfold belowB at h ⊢
  rw [List.take_succ_eq_append_getElem hj, List.any_append, h]
  simp
theorem belowB_of {l : List Nat} {k p j : Nat} (hj : j < l.length) (h : l[j] >>> k = p) : belowB l k p = true :=
  List.any_eq_true.2 ⟨l[j], List.getElem_mem hj, by simpa using h⟩
/-- Are indices such for a height? -/
def riseB (l : List Nat) : Bool := (List.range l.length).all fun i => decide (i = 0) || decide (l.getD (i - 1) 0 < l.getD i 0)
def fitB (h : Nat) (l : List Nat) : Bool := l.all fun x => decide (x < 2 ^ h)
def rgtB (h : Int) (l : List Nat) : Bool := decide (0 ≤ h) && decide (h ≤ 32) && decide (l ≠ []) && decide (l.length ≤ 256) && fitB h.toNat l && riseB l
/-- The nodes of a proof, in order. -/
def spotsS (l : List Nat) : Nat → Nat → List (Nat × Nat)
  | 0, p => if belowB l 0 p then [] else [(0, p)]
  | k + 1, p => if belowB l (k + 1) p then spotsS l k (2 * p % 18446744073709551616) ++ spotsS l k ((2 * p + 1) % 18446744073709551616) else [(k + 1, p)]
theorem spotsS_out {l : List Nat} {k p : Nat} (h : belowB l k p = false) : spotsS l k p = [(k, p)] := by cases k <;> simp [spotsS, h]
theorem spotsS_leaf {l : List Nat} {p : Nat} (h : belowB l 0 p = true) : spotsS l 0 p = [] := by simp [spotsS, h]
theorem spotsS_step {l : List Nat} {k p : Nat} (h : belowB l (k + 1) p = true) : spotsS l (k + 1) p = spotsS l k (2 * p % 18446744073709551616) ++ spotsS l k ((2 * p + 1) % 18446744073709551616) := by simp [spotsS, h]
end Go.Proofs.YtdegmcfcbndelaaDoor

namespace Go.Proofs.YtdegmcfcbndelaaDoor
open Go.RowKit

def nus (l : List Nat) : List Value := l.map fun (x : Nat) => Value.int .u64 (x : Int)
theorem nus_length (l : List Nat) : (nus l).length = l.length := by simp [nus]
theorem nus_append (l m : List Nat) : nus (l ++ m) = nus l ++ nus m := by simp [nus]
theorem nus_one (l : List Nat) : ∀ u ∈ nus l, u.oneCell' = true := by
  intro u hu
  obtain ⟨x, -, rfl⟩ := List.mem_map.1 hu
  rfl
/-- Indices where they lie. -/
def Nu (W : World) (B : Nat) (A : Option Addr) (l : List Nat) : Prop := Rd W B A (nus l)
def okN (l : List Nat) : Prop := ∀ x ∈ l, x < 18446744073709551616
section
variable {W W' : World} {B : Nat} {A : Option Addr} {l : List Nat}
theorem Nu.below (h : Nu W B A l) (hb : Below B W W') : Nu W' B A l := Rd.below h hb
theorem Nu.new (h : Nu W W.heap.size A l) (hb : Below W.heap.size W W') : Nu W' W'.heap.size A l := (Rd.below h hb).mono hb.size
theorem Nu.at (h : Nu W B A l) {j : Nat} (hj : j < l.length) : ∃ g o, A = some ⟨g, o, none⟩ ∧ g < B ∧ W.cell? ⟨g, o + j, none⟩ = some (.int .u64 ((l[j] : Nat) : Int)) := by
  have := Rd.at_ h (k := j) (u := .int .u64 ((l[j] : Nat) : Int)) (by unfold nus; rw [List.getElem?_map, List.getElem?_eq_getElem hj]; rfl)
  exact this
end
set_option maxRecDepth 100000 in
set_option maxHeartbeats 1000000 in
theorem belowR_any (l : List Nat) (k p : Nat) (A : Option Addr) (c : Nat) (W : World) (hr : Nu W W.heap.size A l) (hk : k ≤ 64) (hl : l.length ≤ 1000000) :
    Calls Tryd.prog 98 #[.slice A l.length c, .int .i64 (k : Int), .int .u64 (p : Int)] W fun r W' => r = .returned (.bool (belowB l k p)) ∧ W' = W := by
  obtain ⟨n, hn⟩ : ∃ n, n = l.length := ⟨_, rfl⟩
  have HR := hid hr
  have HN := hid hn
  have HL := hid (show n ≤ 1000000 by omega)
  have HK := hid hk
  have uk : IntKind.u64.wrap (k : Int) = (k : Int) := by simp [IntKind.wrap, IntKind.signed, IntKind.bits]; omega
  have hall := hid (show l.take n = l by rw [hn, List.take_length])
  rw [← hn]
  clear hr hk hl hn
  go_enter Tryd.func98, Tryd.ntmps98
  go_wp2
  go_loopw [7] (fun v wr => ∃ j : Nat, j ≤ n ∧ v = .int .i64 (j : Int) ∧ Hid (belowB (l.take j) k p = false) ∧ wr = W) (fun v _ => n - (intOf v).toNat)
  case atStart => exact ⟨0, by omega, rfl, hid (belowB_zero l k p), rfl⟩
  case round =>
    obtain ⟨j, hj, rfl, hb, rfl⟩ := hrel
    by_cases hlt : j < n
    · have d1 : decide ((j : Int) < (n : Int)) = true := by simp; omega
      have ik : (j : Int) < (n : Int) := by omega
      have hjl : j < l.length := by rw [← HN.out]; exact hlt
      obtain ⟨g, o, rfl, -, c0⟩ := HR.out.at hjl
      obtain ⟨x, hx⟩ : ∃ x, x = l[j] := ⟨_, rfl⟩
      have hs := shr_u64 23 x k .u64 HK.out
      have hnx := belowB_next l k p j hjl hb.out
      have hof := belowB_of (k := k) (p := p) hjl
      rw [← hx] at c0 hnx hof
      obtain ⟨s, hs'⟩ : ∃ s, s = x >>> k := ⟨_, rfl⟩
      rw [← hs'] at hs hnx hof
      obtain ⟨q, hq⟩ : ∃ q, q = o + j := ⟨_, rfl⟩
      rw [← hq] at c0
      have eq := hq.symm
      obtain ⟨j1, hj1⟩ : ∃ m, m = j + 1 := ⟨_, rfl⟩
      have e2 : (j : Int) + 1 = (j1 : Int) := by omega
      have ew : IntKind.i64.wrap (j1 : Int) = (j1 : Int) := by rw [IntKind.wrap_i64] <;> have := HL.out <;> omega
      have HJL := hid (show j1 ≤ n by omega)
      have HMS := hid (show n - j1 < n - j by omega)
      by_cases hc : s = p
      · have f0 : decide ((s : Int) = (p : Int)) = true := by simp; omega
        have f0b : ((s : Int) == (p : Int)) = true := by simp; omega
        have f0n : decide (s = p) = true := by simpa using hc
        have HO := hid (hof hc)
        clear hnx hof hc hx hs' hq hj1 hb hlt hj hjl
        go_wp2
        go_ret
        exact ⟨by rw [HO.out]; rfl, rfl⟩
      · have f0 : decide ((s : Int) = (p : Int)) = false := by simp; omega
        have f0b : ((s : Int) == (p : Int)) = false := by simp; omega
        have f0n : decide (s = p) = false := by simpa using hc
        have HB := hid (show belowB (l.take j1) k p = false by rw [hj1, hnx]; simpa using hc)
        clear hnx hof hc hx hs' hq hj1 hb hlt hj hjl
        go_wp2
        exact ⟨⟨j1, HJL.out, rfl, HB, trivial⟩, by
          show n - ((j1 : Int)).toNat < n - ((j : Int)).toNat
          rw [Int.toNat_natCast, Int.toNat_natCast]
          exact HMS.out⟩
    · obtain rfl : j = n := by omega
      have d1 : decide ((j : Int) < (j : Int)) = false := by simp
      have hb2 := hb.out
      rw [hall.out] at hb2
      have HO := hid hb2
      clear hb hb2 hlt hj
      go_wp2
      go_ret
      exact ⟨by rw [HO.out]; rfl, rfl⟩
end Go.Proofs.YtdegmcfcbndelaaDoor

namespace Go.Proofs.YtdegmcfcbndelaaDoor
open Go.RowKit

set_option maxRecDepth 100000 in
theorem pcmpnan_any (x : Int) (W : World) : Calls Tryd.prog 126 #[.int .u64 x] W fun r W' => r = .returned (.bool false) ∧ W' = W := by
  have h : ((x : Int) != x) = false := by simp
  go_enter Tryd.func126, Tryd.ntmps126
  go_wp2
  go_ret
  exact ⟨rfl, rfl⟩
set_option maxRecDepth 100000 in
theorem pslnan_any (x : Int) (W : World) : Calls Tryd.prog 115 #[.int .u64 x] W fun r W' => r = .returned (.bool false) ∧ W' = W := by
  have h : ((x : Int) != x) = false := by simp
  go_enter Tryd.func115, Tryd.ntmps115
  go_wp2
  go_ret
  exact ⟨rfl, rfl⟩
set_option maxRecDepth 100000 in
theorem pless_any (x y : Nat) (W : World) : Calls Tryd.prog 114 #[.int .u64 (x : Int), .int .u64 (y : Int)] W fun r W' => r = .returned (.bool (decide (x < y))) ∧ W' = W := by
  have HN := hid (fun (V : World) => pcmpnan_any (x : Int) V)
  have h0 : decide ((x : Int) < (y : Int)) = decide (x < y) := by simp
  go_enter Tryd.func114, Tryd.ntmps114
  go_wp2_with (first
    | (go_at_call 126; refine (HN.out _).mono ?_; rintro r1 w1 ⟨rfl, hw⟩; rw [hw]; clear hw))
  go_ret
  exact ⟨rfl, rfl⟩
/-- Whether a place is the first one whose index isn't less. -/
structure CutW (l : List Nat) (x c : Nat) : Prop where
  le : c ≤ l.length
  lt : ∀ i, i < c → l.getD i 0 < x
  ge : ∀ i, c ≤ i → i < l.length → x ≤ l.getD i 0
theorem getD_lt {l : List Nat} (hs : l.Pairwise (· < ·)) {i j : Nat} (hij : i < j) (hj : j < l.length) : l.getD i 0 < l.getD j 0 := by
  rw [List.getD_eq_getElem?_getD, List.getD_eq_getElem?_getD, List.getElem?_eq_getElem (by omega), List.getElem?_eq_getElem hj]
  exact List.pairwise_iff_getElem.1 hs i j (by omega) hj hij
theorem CutW.take {l : List Nat} {x c : Nat} (h : CutW l x c) : l.take c = l.filter (fun y => decide (y < x)) := by
  have e : l = l.take c ++ l.drop c := (List.take_append_drop c l).symm
  rw [e, List.filter_append]
  have h1 : (l.take c).filter (fun y => decide (y < x)) = l.take c := List.filter_eq_self.2 fun y hy => by
    obtain ⟨i, hi, rfl⟩ := List.getElem_of_mem hy
    have hi' : i < c := by rw [List.length_take] at hi; omega
    have := h.lt i hi'
    rw [List.getD_eq_getElem?_getD, List.getElem?_eq_getElem (by have := h.le; omega)] at this
    rw [List.getElem_take]
    simpa using this
  have h2 : (l.drop c).filter (fun y => decide (y < x)) = [] := List.filter_eq_nil_iff.2 fun y hy => by
    obtain ⟨i, hi, rfl⟩ := List.getElem_of_mem hy
    rw [List.length_drop] at hi
    have := h.ge (c + i) (by omega) (by omega)
    rw [List.getD_eq_getElem?_getD, List.getElem?_eq_getElem (by omega)] at this
    rw [List.getElem_drop]
    simpa using this
  rw [h1, h2, List.append_nil, ← e]
theorem CutW.drop {l : List Nat} {x c : Nat} (h : CutW l x c) : l.drop c = l.filter (fun y => !decide (y < x)) := by
  have e : l = l.take c ++ l.drop c := (List.take_append_drop c l).symm
  rw [e, List.filter_append]
  have h1 : (l.take c).filter (fun y => !decide (y < x)) = [] := List.filter_eq_nil_iff.2 fun y hy => by
    obtain ⟨i, hi, rfl⟩ := List.getElem_of_mem hy
    have hi' : i < c := by rw [List.length_take] at hi; omega
    have := h.lt i hi'
    rw [List.getD_eq_getElem?_getD, List.getElem?_eq_getElem (by have := h.le; omega)] at this
    rw [List.getElem_take]
    simpa using this
  have h2 : (l.drop c).filter (fun y => !decide (y < x)) = l.drop c := List.filter_eq_self.2 fun y hy => by
    obtain ⟨i, hi, rfl⟩ := List.getElem_of_mem hy
    rw [List.length_drop] at hi
    have := h.ge (c + i) (by omega) (by omega)
    rw [List.getD_eq_getElem?_getD, List.getElem?_eq_getElem (by omega)] at this
    rw [List.getElem_drop]
    simpa using this
  rw [h1, h2, List.nil_append, ← e]
set_option maxRecDepth 100000 in
set_option maxHeartbeats 2000000 in
theorem pbsearch_any (l : List Nat) (hs : l.Pairwise (· < ·)) (x : Nat) (A : Option Addr) (c : Nat) (W : World) (hr : Nu W W.heap.size A l) (hl : l.length ≤ 1000000) :
    Calls Tryd.prog 97 #[.slice A l.length c, .int .u64 (x : Int)] W fun r W' => ∃ (q : Nat) (fb : Bool), r = .returned (.tuple #[.int .i64 (q : Int), .bool fb]) ∧ CutW l x q ∧ W' = W := by
  obtain ⟨n, hn⟩ : ∃ n, n = l.length := ⟨_, rfl⟩
  have HR := hid hr
  have HN := hid hn
  have HS := hid hs
  have HL := hid (show n ≤ 1000000 by omega)
  have HNN := hid (fun (y : Int) (V : World) => pslnan_any y V)
  have HLS := hid (fun (y : Nat) (V : World) => pless_any y x V)
  rw [← hn]
  clear hr hl hn hs
  go_enter Tryd.func97, Tryd.ntmps97
  go_wp2
  go_loopw [7, 8] (fun v u wr => ∃ i j : Nat, i ≤ j ∧ j ≤ n ∧ v = .int .i64 (i : Int) ∧ u = .int .i64 (j : Int) ∧ Hid ((∀ q, q < i → l.getD q 0 < x) ∧ ∀ q, j ≤ q → q < l.length → x ≤ l.getD q 0) ∧ wr = W) (fun v u _ => (intOf u).toNat - (intOf v).toNat)
  case atStart => exact ⟨0, n, by omega, by omega, rfl, rfl, hid ⟨fun q hq => by omega, fun q h1 h2 => by have := HN.out; omega⟩, rfl⟩
  case round =>
    obtain ⟨i, j, hij, hjn, rfl, rfl, hb, rfl⟩ := hrel
    have HB := hid hb.out
    clear hb
    by_cases hlt : i < j
    · have d1 : decide ((i : Int) < (j : Int)) = true := by simp; omega
      have d1n : decide (i < j) = true := by simpa using hlt
      obtain ⟨s, hs⟩ : ∃ m, m = i + j := ⟨_, rfl⟩
      have e1 : (i : Int) + (j : Int) = (s : Int) := by omega
      have ew1 : IntKind.i64.wrap (s : Int) = (s : Int) := by rw [IntKind.wrap_i64] <;> have := HL.out <;> omega
      have uw1 : IntKind.u64.wrap (s : Int) = (s : Int) := by rw [IntKind.wrap_u64]; have := HL.out; omega
      obtain ⟨m, hm⟩ : ∃ m, m = s >>> 1 := ⟨_, rfl⟩
      have hm2 : m = s / 2 := by rw [hm, Nat.shiftRight_eq_div_pow]
      have hsh := shr_u64 108 s 1 .u64 (by omega)
      rw [← hm] at hsh
      have hsh' : binOp .shr 108 (.int .u64 (s : Int)) (.int .u64 1) = pure (.int .u64 (m : Int)) := hsh
      have ewm : IntKind.i64.wrap (m : Int) = (m : Int) := by rw [IntKind.wrap_i64] <;> have := HL.out <;> omega
      have hmj : m < j := by omega
      have him : i ≤ m := by omega
      have hml : m < l.length := by rw [← HN.out]; omega
      obtain ⟨g, o, rfl, -, c0⟩ := HR.out.at hml
      obtain ⟨y, hy⟩ : ∃ y, y = l[m] := ⟨_, rfl⟩
      have hgd : l.getD m 0 = y := by rw [hy, List.getD_eq_getElem?_getD, List.getElem?_eq_getElem hml]; rfl
      rw [← hy] at c0
      obtain ⟨qo, hqo⟩ : ∃ q, q = o + m := ⟨_, rfl⟩
      rw [← hqo] at c0
      have eqo := hqo.symm
      have ik : (m : Int) < (n : Int) := by omega
      obtain ⟨m1, hm1⟩ : ∃ q, q = m + 1 := ⟨_, rfl⟩
      have e2 : (m : Int) + 1 = (m1 : Int) := by omega
      have ew2 : IntKind.i64.wrap (m1 : Int) = (m1 : Int) := by rw [IntKind.wrap_i64] <;> have := HL.out <;> omega
      by_cases hc : y < x
      · have f0 : decide (y < x) = true := by simpa using hc
        have HQ := hid (show (∀ q, q < m1 → l.getD q 0 < x) ∧ ∀ q, j ≤ q → q < l.length → x ≤ l.getD q 0 from ⟨fun q hq => by
          by_cases e : q = m
          · rw [e, hgd]; exact hc
          · have := getD_lt HS.out (show q < m by omega) hml
            omega, HB.out.2⟩)
        have HJ1 := hid (show m1 ≤ j by omega)
        have HMS := hid (show j - m1 < j - i by omega)
        have HJN := hid hjn
        clear hs hm hm2 hsh hmj him hml hy hgd hqo hm1 hc hlt hij hjn HB
        go_wp2_with (first
          | (go_at_call 114; refine (HLS.out y _).mono ?_; rintro r1 w1 ⟨rfl, hw⟩; rw [hw]; clear hw))
        exact ⟨⟨m1, j, HJ1.out, HJN.out, rfl, rfl, HQ, trivial⟩, by
          show ((j : Int)).toNat - ((m1 : Int)).toNat < ((j : Int)).toNat - ((i : Int)).toNat
          rw [Int.toNat_natCast, Int.toNat_natCast, Int.toNat_natCast]
          exact HMS.out⟩
      · have f0 : decide (y < x) = false := by simpa using hc
        have HQ := hid (show (∀ q, q < i → l.getD q 0 < x) ∧ ∀ q, m ≤ q → q < l.length → x ≤ l.getD q 0 from ⟨HB.out.1, fun q h1 h2 => by
          by_cases e : q = m
          · rw [e, hgd]; omega
          · have := getD_lt HS.out (show m < q by omega) h2
            omega⟩)
        have HJ1 := hid him
        have HJ2 := hid (show m ≤ n by omega)
        have HMS := hid (show m - i < j - i by omega)
        clear hs hm hm2 hsh hmj him hml hy hgd hqo hm1 hc hlt hij hjn HB
        go_wp2_with (first
          | (go_at_call 114; refine (HLS.out y _).mono ?_; rintro r1 w1 ⟨rfl, hw⟩; rw [hw]; clear hw))
        exact ⟨⟨i, m, HJ1.out, HJ2.out, rfl, rfl, HQ, trivial⟩, by
          show ((m : Int)).toNat - ((i : Int)).toNat < ((j : Int)).toNat - ((i : Int)).toNat
          rw [Int.toNat_natCast, Int.toNat_natCast, Int.toNat_natCast]
          exact HMS.out⟩
    · obtain rfl : i = j := by omega
      have d1 : decide ((i : Int) < (i : Int)) = false := by simp
      have d1n : decide (i < i) = false := by simp
      have HC := hid (show CutW l x i from ⟨by have := HN.out; omega, HB.out.1, HB.out.2⟩)
      by_cases hin : i < n
      · have d2 : decide ((i : Int) < (n : Int)) = true := by simp; omega
        have d2n : decide (i < n) = true := by simpa using hin
        have hil : i < l.length := by rw [← HN.out]; exact hin
        obtain ⟨g, o, rfl, -, c0⟩ := HR.out.at hil
        obtain ⟨y, hy⟩ : ∃ y, y = l[i] := ⟨_, rfl⟩
        rw [← hy] at c0
        obtain ⟨qo, hqo⟩ : ∃ q, q = o + i := ⟨_, rfl⟩
        rw [← hqo] at c0
        have eqo := hqo.symm
        have ik : (i : Int) < (n : Int) := by omega
        cases hc : ((y : Int) == (x : Int)) with
        | true =>
          clear hlt hij hjn HB hil hy hqo hin
          go_wp2_with (first
            | (go_at_call 115; refine (HNN.out _ _).mono ?_; rintro r1 w1 ⟨rfl, hw⟩; rw [hw]; clear hw))
          go_ret2
          exact ⟨i, _, rfl, HC.out, rfl⟩
        | false =>
          clear hlt hij hjn HB hil hy hqo hin
          go_wp2_with (first
            | (go_at_call 115; refine (HNN.out _ _).mono ?_; rintro r1 w1 ⟨rfl, hw⟩; rw [hw]; clear hw))
          go_ret2
          exact ⟨i, _, rfl, HC.out, rfl⟩
      · have d2 : decide ((i : Int) < (n : Int)) = false := by simp; omega
        have d2n : decide (i < n) = false := by simpa using hin
        clear hlt hij hjn HB hin
        go_wp2
        go_ret2
        exact ⟨i, _, rfl, HC.out, rfl⟩
end Go.Proofs.YtdegmcfcbndelaaDoor

namespace Go.Proofs.YtdegmcfcbndelaaDoor
open Go.RowKit

theorem wrapN64 (n : Nat) (h : n < 18446744073709551616) : IntKind.u64.wrap (n : Int) = (n : Int) := by
  simp [IntKind.wrap, IntKind.signed, IntKind.bits]
  omega
end Go.Proofs.YtdegmcfcbndelaaDoor

namespace Go.Proofs.YtdegmcfcbndelaaDoor
open Go.RowKit

theorem sizeS8 : (Tryd.prog.info? 166).map (·.size) = some 8 := by kernel_rfl
/-- What holds of the memory while a state is compressed. -/
structure CpW (w : World) (B C : Nat) (s : S8) (ws : List (BitVec 32)) (w' : World) : Prop where
  st : At w' B (us s.l).toArray 166
  res : At w' (B + 1 + 1) (us z8).toArray 166
  words : At w' C (us ws).toArray 186
  lt : B + 1 + 1 < C
  tabs : Tabs w'
  below : Below w.heap.size w w'
theorem CpW.drewN {w w' : World} {B C : Nat} {s : S8} {ws : List (BitVec 32)} (h : CpW w B C s ws w') (n : Nat) : CpW w B C s ws (w'.drewN n) :=
  ⟨h.st, h.res, h.words, h.lt, h.tabs.drewN n, below_drewN h.below n⟩
set_option maxRecDepth 100000 in
set_option maxHeartbeats 8000000 in
theorem compress_any (s : S8) (bs : List UInt8) (w : World) (hl : bs.length = 64) (hT : Tabs w) :
    Calls Tryd.prog 109 #[.agg (us s.l).toArray, .agg (ubs bs).toArray] w fun e w' => e = .returned (.agg (us (comp s bs).l).toArray) ∧ Below w.heap.size w w' := by
  obtain ⟨W0, hW0⟩ : ∃ W0, W0 = ((w.alloc (.cells (us s.l).toArray 166)).alloc (.cells (ubs bs).toArray 170)).alloc (.cells (us z8).toArray 166) := ⟨_, rfl⟩
  have hsz : W0.heap.size = w.heap.size + 3 := by rw [hW0]; simp
  have hb0 : Below w.heap.size w W0 := by rw [hW0]; exact (((Below.refl _ _).alloc (Nat.le_refl _) _).alloc (by simp) _).alloc (by simp; omega) _
  have h1 : At W0 w.heap.size (us s.l).toArray 166 := by rw [hW0]; exact ((At.new _ _ _).alloc _).alloc _
  have h2 : At W0 (w.heap.size + 1) (ubs bs).toArray 170 := by rw [hW0]; exact (At.new_at (by simp)).alloc _
  have h3 : At W0 (w.heap.size + 1 + 1) (us z8).toArray 166 := by rw [hW0]; exact At.new_at (by simp)
  have NX := hid (fun (w1 : World) (hb : Below W0.heap.size W0 w1) => (⟨by have := h1.below hb h1.lt; exact (this.alloc _).setRow_far (by have := hb.size; omega), by have := h3.below hb h3.lt; exact (this.alloc _).setRow_far (by have := hb.size; omega), setRow_heap _ _ _ _ _ _ (heap_alloc_new _ _), by have := hb.size; omega, ((hT.below hb0).below hb).below (below_setRow (Below.refl _ _ |>.alloc (Nat.le_refl _) _) (Nat.le_refl _) _), below_setRow ((hb0.trans (hb.mono (by omega))).alloc (by have := hb.size; omega) _) (by have := hb.size; omega) _⟩ : CpW w w.heap.size w1.heap.size s (wx bs 48) ((w1.alloc (.cells (us z64).toArray 186)).setRow w1.heap.size (us (wx bs 48)).toArray)))
  have HL := hid hl
  have H2 := hid h2
  have HZ := hid (show (Tryd.prog.info? 170).map (·.size) = some (ubs bs).toArray.size by rw [sizeB64]; simp [ubs_length, hl])
  have HS := hid (show (Tryd.prog.info? 186).map (·.size) = some (us (wx bs 48)).toArray.size by rw [sizeW64]; simp [us_length, wx_length])
  clear hl hT h1 h2 h3 hb0 hsz
  have hz := zero8
  have hz2 := zero64
  subst hW0
  go_enter Tryd.func109, Tryd.ntmps109
  go_wp2_with (first
    | (refine wpList_load_row rfl _ (.tmp 3) rfl (w.heap.size + 1) rfl 170 (ubs bs).toArray (0, 0) _ H2.out Tryd.underlying170 rfl HZ.out ?_)
    | (refine wpList_store_row rfl _ (.tmp 5) (.tmp 21) rfl w1.heap.size (us (wx bs 48)).toArray rfl rfl 186 (us z64).toArray (heap_alloc_new _ _) HS.out ?e3 (us_all _) ?e4; rotate_right)
    | (go_at_call 123; refine (words_any bs _ HL.out).mono ?_; rintro e w1 ⟨rfl, hb1⟩; have HB1 := hid hb1; clear hb1))
  case e3 => simp [us_length, wx_length, z64_length]
  have HC := NX.out w1 HB1.out
  clear NX HB1 hz hz2 HZ H2
  obtain ⟨C, hC⟩ : ∃ C, C = w1.heap.size := ⟨_, rfl⟩
  rw [← hC] at HC ⊢
  generalize ((w1.alloc (.cells (us z64).toArray 186)).setRow C (us (wx bs 48)).toArray) = W3 at HC ⊢
  clear hC
  have HB : Hid (CpW w w.heap.size C s (wx bs 48) W3) := HC
  have c0 := HC.st.cell 0
  have c1 := HC.st.cell 1
  have c2 := HC.st.cell 2
  have c3 := HC.st.cell 3
  have c4 := HC.st.cell 4
  have c5 := HC.st.cell 5
  have c6 := HC.st.cell 6
  have c7 := HC.st.cell 7
  clear HC
  simp [S8.l, us] at c0 c1 c2 c3 c4 c5 c6 c7
  go_wp2
  go_quiet (fail)
  clear c0 c1 c2 c3 c4 c5 c6 c7
  have HC := HB.out.drewN nq
  clear HB
  generalize W3.drewN nq = W4 at HC ⊢
  have HB : Hid (CpW w w.heap.size C s (wx bs 48) W4) := HC
  clear HC
  go_wp2_with (refine wpList_load_tab rfl _ (.global 2) rfl 2 rfl KT _ HB.out.tabs.k Tryd.underlying186 rfl sizeW64 ?_)
  go_loopw [39, 6, 7, 8, 9, 10, 11, 12, 13] (fun i a b c d e f g h wr => ∃ (k : Nat) (st : S8), k ≤ 64 ∧ i = .int .i64 k ∧ Hid (st = rnds s (wx bs 48) k) ∧ a = uw st.a ∧ b = uw st.b ∧ c = uw st.c ∧ d = uw st.d ∧ e = uw st.e ∧ f = uw st.f ∧ g = uw st.g ∧ h = uw st.h ∧ CpW w w.heap.size C s (wx bs 48) wr) (fun i _ _ _ _ _ _ _ _ _ => 64 - (intOf i).toNat)
  case atStart => exact ⟨0, s, by omega, rfl, (rnds_zero _ _).symm, rfl, rfl, rfl, rfl, rfl, rfl, rfl, rfl, HB.out⟩
  case round =>
    clear HB
    obtain ⟨k, st, hk, rfl, HST, rfl, rfl, rfl, rfl, rfl, rfl, rfl, rfl, hC⟩ := hrel
    by_cases hlt : k < 64
    · have hix : ∀ w : World, (Instr.index 186 (.agg (us KT).toArray) (.int .i64 (k : Int))).run Tryd.prog w = .ok (uw (KT.getD k 0#32)) w :=
        fun w => run_index_row w _ _ 64 _ Tryd.underlying186 Tryd.underlying165 sizeU32 _ k hlt _ (by rw [us_get, List.getD_eq_getElem?_getD, List.getElem?_eq_getElem (by rw [KT_length]; exact hlt)]; rfl) _
      have cw := at_us_cell hC.words (i := k) (by rw [wx_length]; exact hlt)
      have HC := hid hC
      have HN := hid (rnds_succ s (wx bs 48) k)
      clear hC
      obtain ⟨kk, hkk⟩ : ∃ x, x = KT.getD k 0#32 := ⟨_, rfl⟩
      obtain ⟨ww, hww⟩ : ∃ x, x = (wx bs 48).getD k 0#32 := ⟨_, rfl⟩
      rw [← hkk] at hix HN
      rw [← hww] at cw HN
      clear hkk hww
      go_wp2
      go_quiet ((go_at_call 124; exact Calls.quiet_of_same (right_i _ _ _ (by omega) (by omega))))
      clear cw hix
      have hC := HC.out.drewN nq
      clear HC
      generalize wr.drewN nq = W5 at hC ⊢
      have HC := hid hC
      clear hC
      go_wp2_with (go_at_call 124; refine (right_j _ _ _ (by omega) (by omega)).mono ?_; rintro e w' ⟨rfl, rfl⟩)
      go_roundw
      case rel =>
        refine ⟨k + 1, rnd st kk ww, by omega, by go_num, ?_, rfl, rfl, rfl, rfl, rfl, rfl, rfl, rfl, HC.out⟩
        rw [HN.out, ← HST.out]
        rfl
      case measure => simp [intOf]; omega
    · obtain rfl : k = 64 := by omega
      have HC := hid hC
      clear hC
      go_wp2
      rw [show ((64 : Nat) : Int) = 64 from rfl]
      have hz : addk s.l st.l 0 = s.l := addk_zero _ _
      go_loopw [110] (fun i wr => ∃ k : Nat, k ≤ 8 ∧ i = .int .i64 k ∧ At wr w.heap.size (us (addk s.l st.l k)).toArray 166 ∧ At wr (w.heap.size + 1 + 1) (us z8).toArray 166 ∧ Below w.heap.size w wr) (fun i _ => 8 - (intOf i).toNat)
      case atStart => exact ⟨0, by omega, rfl, by rw [hz]; exact HC.out.st, HC.out.res, HC.out.below⟩
      case round =>
        clear hz HC
        obtain ⟨k, hk, rfl, hA, hR, hB⟩ := hrel
        have HA := hid hA
        have HR := hid hR
        have HB := hid hB
        clear hA hR hB
        by_cases hlt : k < 8
        · have hix : ∀ w : World, (Instr.index 166 (.agg #[uw st.a, uw st.b, uw st.c, uw st.d, uw st.e, uw st.f, uw st.g, uw st.h]) (.int .i64 (k : Int))).run Tryd.prog w = .ok (uw (st.l.getD k 0#32)) w :=
            fun w => run_index_row w _ _ 8 _ Tryd.underlying166 Tryd.underlying165 sizeU32 (us st.l) k hlt _ (by rw [us_get, List.getD_eq_getElem?_getD, List.getElem?_eq_getElem (by rw [l_length]; exact hlt)]; rfl) _
          have cw := at_us_cell HA.out (i := k) (by rw [addk_length, l_length]; exact hlt)
          have fz := HA.out.frozen k
          rw [addk_get _ _ _ _ (Nat.le_refl _)] at cw
          have HN := hid (addk_succ s.l st.l k)
          obtain ⟨xx, hxx⟩ : ∃ x, x = s.l.getD k 0#32 := ⟨_, rfl⟩
          obtain ⟨yy, hyy⟩ : ∃ x, x = st.l.getD k 0#32 := ⟨_, rfl⟩
          rw [← hxx] at cw HN
          rw [← hyy] at hix HN
          clear hxx hyy
          go_wp2_with (refine wpList_store_uw rfl _ (.tmp 119) (.tmp 118) rfl sizeU32 ⟨w.heap.size, k, none⟩ rfl _ rfl _ cw fz ?_)
          go_roundw
          case rel =>
            refine ⟨k + 1, by omega, by go_num, ?_, HR.out.far (p := ⟨w.heap.size, k, none⟩) (by simp; omega) _, HB.out.setCell (by simp) _⟩
            rw [HN.out]
            exact at_us_put HA.out k _
          case measure => simp [intOf]; omega
        · obtain rfl : k = 8 := by omega
          have HE := hid (show addk s.l st.l 8 = (comp s bs).l by rw [addk_all, comp_eq, HST.out])
          have HS8 := hid (show (Tryd.prog.info? 166).map (·.size) = some (us (addk s.l st.l 8)).toArray.size by rw [sizeS8]; simp [us_length, addk_length, l_length])
          go_wp2_with (first
            | (refine wpList_load_row rfl _ (.tmp 2) rfl w.heap.size rfl 166 (us (addk s.l st.l 8)).toArray (0, 0) _ HA.out Tryd.underlying166 rfl HS8.out ?_)
            | (refine wpList_store_row rfl _ (.tmp 4) (.tmp 121) rfl (w.heap.size + 1 + 1) (us (addk s.l st.l 8)).toArray rfl rfl 166 (us z8).toArray HR.out HS8.out ?e5 (us_all _) ?e6; rotate_right))
          case e5 => simp [us_length, addk_length, l_length, z8_length]
          refine bodyPost_ret (results_cell_row rfl _ _ (w.heap.size + 1 + 1) 166 (us (addk s.l st.l 8)).toArray (0, 0) _ rfl (setRow_heap _ _ _ _ _ _ HR.out) Tryd.underlying166 rfl HS8.out) rfl ?_
          exact ⟨by rw [HE.out], below_setRow HB.out (by omega) _⟩
end Go.Proofs.YtdegmcfcbndelaaDoor
