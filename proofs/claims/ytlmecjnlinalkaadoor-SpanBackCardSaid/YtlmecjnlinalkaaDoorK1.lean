/-
  Layer 10 by definition: which indices are such for a height, which nodes a proof has, indices in order. Nothing here walks.
  Layer 10, the document's side: slices of indices; whether one is below a node.
  Layer 10, the program's side: a place searched in sorted indices.
-/
import Derived.Test.YtlmecjnlinalkaaDoorY3
import Derived.Test.YtlmecjnlinalkaaDoorX0
import Derived.Test.YtlmecjnlinalkaaDoorY1
namespace Go.Proofs.YtlmecjnlinalkaaDoor

/-- Is one of the indices below a node? -/
def belowB (l : List Nat) (k p : Nat) : Bool := l.any fun x => x >>> k == p
/-- Are indices such for a height? -/
def riseB (l : List Nat) : Bool := (List.range l.length).all fun i => decide (i = 0) || decide (l.getD (i - 1) 0 < l.getD i 0)
def fitB (h : Nat) (l : List Nat) : Bool := l.all fun x => decide (x < 2 ^ h)
def rgtB (h : Int) (l : List Nat) : Bool := decide (0 ≤ h) && decide (h ≤ 32) && decide (l ≠ []) && decide (l.length ≤ 256) && fitB h.toNat l && riseB l
/-- The nodes of a proof, in order. -/
def spotsS (l : List Nat) : Nat → Nat → List (Nat × Nat)
  | 0, p => if belowB l 0 p then [] else [(0, p)]
  | k + 1, p => if belowB l (k + 1) p then spotsS l k (2 * p % 18446744073709551616) ++ spotsS l k ((2 * p + 1) % 18446744073709551616) else [(k + 1, p)]
theorem spotsS_out {l : List Nat} {k p : Nat} (h : belowB l k p = false) : spotsS l k p = [(k, p)] := by cases k <;> simp [spotsS, h]
theorem spotsS_leaf {l : List Nat} {p : Nat} (h : belowB l 0 p = true) : spotsS l 0 p = [] := by simp [spotsS, h]
theorem spotsS_step {l : List Nat} {k p : Nat} (h : belowB l (k + 1) p = true) : spotsS l (k + 1) p = spotsS l k (2 * p % 18446744073709551616) ++ spotsS l k ((2 * p + 1) % 18446744073709551616) := by simp [spotsS, h]
end Go.Proofs.YtlmecjnlinalkaaDoor

namespace Go.Proofs.YtlmecjnlinalkaaDoor
open Go.RowKit

def nus (l : List Nat) : List Value := l.map fun (x : Nat) => Value.int .u64 (x : Int)
theorem nus_length (l : List Nat) : (nus l).length = l.length := by simp [nus]
/-- Indices where they lie. -/
def Nu (W : World) (B : Nat) (A : Option Addr) (l : List Nat) : Prop := Rd W B A (nus l)
section
variable {W W' : World} {B : Nat} {A : Option Addr} {l : List Nat}
theorem Nu.below (h : Nu W B A l) (hb : Below B W W') : Nu W' B A l := Rd.below h hb
theorem Nu.new (h : Nu W W.heap.size A l) (hb : Below W.heap.size W W') : Nu W' W'.heap.size A l := (Rd.below h hb).mono hb.size
theorem Nu.at (h : Nu W B A l) {j : Nat} (hj : j < l.length) : ∃ g o, A = some ⟨g, o, none⟩ ∧ g < B ∧ W.cell? ⟨g, o + j, none⟩ = some (.int .u64 ((l[j] : Nat) : Int)) := by
  have := Rd.at_ h (k := j) (u := .int .u64 ((l[j] : Nat) : Int)) (by unfold nus; rw [List.getElem?_map, List.getElem?_eq_getElem hj]; rfl)
  exact this
end
end Go.Proofs.YtlmecjnlinalkaaDoor

namespace Go.Proofs.YtlmecjnlinalkaaDoor
open Go.RowKit

set_option maxRecDepth 100000 in
theorem pcmpnan_any (x : Int) (W : World) : Calls Tryd.prog 128 #[.int .u64 x] W fun r W' => r = .returned (.bool false) ∧ W' = W := by
  have h : ((x : Int) != x) = false := by simp
  go_enter Tryd.func128, Tryd.ntmps128
  go_wp2
  go_ret
  exact ⟨rfl, rfl⟩
set_option maxRecDepth 100000 in
theorem pslnan_any (x : Int) (W : World) : Calls Tryd.prog 115 #[.int .u64 x] W fun r W' => r = .returned (.bool false) ∧ W' = W := by
  have h : ((x : Int) != x) = false := by simp
  go_enter Tryd.func115, Tryd.ntmps115
  go_wp2
  go_ret
  exact ⟨rfl, rfl⟩
set_option maxRecDepth 100000 in
theorem pless_any (x y : Nat) (W : World) : Calls Tryd.prog 114 #[.int .u64 (x : Int), .int .u64 (y : Int)] W fun r W' => r = .returned (.bool (decide (x < y))) ∧ W' = W := by
  have HN := hid (fun (V : World) => pcmpnan_any (x : Int) V)
  have h0 : decide ((x : Int) < (y : Int)) = decide (x < y) := by simp
  go_enter Tryd.func114, Tryd.ntmps114
  go_wp2_with (first
    | (go_at_call 128; refine (HN.out _).mono ?_; rintro r1 w1 ⟨rfl, hw⟩; rw [hw]; clear hw))
  go_ret
  exact ⟨rfl, rfl⟩
/-- Whether a place is the first one whose index isn't less. -/
structure CutW (l : List Nat) (x c : Nat) : Prop where
  le : c ≤ l.length
  lt : ∀ i, i < c → l.getD i 0 < x
  ge : ∀ i, c ≤ i → i < l.length → x ≤ l.getD i 0
theorem getD_lt {l : List Nat} (hs : l.Pairwise (· < ·)) {i j : Nat} (hij : i < j) (hj : j < l.length) : l.getD i 0 < l.getD j 0 := by
  rw [List.getD_eq_getElem?_getD, List.getD_eq_getElem?_getD, List.getElem?_eq_getElem (by omega), List.getElem?_eq_getElem hj]
  exact List.pairwise_iff_getElem.1 hs i j (by omega) hj hij
theorem CutW.take {l : List Nat} {x c : Nat} (h : CutW l x c) : l.take c = l.filter (fun y => decide (y < x)) := by
  have e : l = l.take c ++ l.drop c := (List.take_append_drop c l).symm
  rw [e, List.filter_append]
  have h1 : (l.take c).filter (fun y => decide (y < x)) = l.take c := List.filter_eq_self.2 fun y hy => by
    obtain ⟨i, hi, rfl⟩ := List.getElem_of_mem hy
    have hi' : i < c := by rw [List.length_take] at hi; omega
    have := h.lt i hi'
    rw [List.getD_eq_getElem?_getD, List.getElem?_eq_getElem (by have := h.le; omega)] at this
    rw [List.getElem_take]
    simpa using this
  have h2 : (l.drop c).filter (fun y => decide (y < x)) = [] := List.filter_eq_nil_iff.2 fun y hy => by
    obtain ⟨i, hi, rfl⟩ := List.getElem_of_mem hy
    rw [List.length_drop] at hi
    have := h.ge (c + i) (by omega) (by omega)
    rw [List.getD_eq_getElem?_getD, List.getElem?_eq_getElem (by omega)] at this
    rw [List.getElem_drop]
    simpa using this
  rw [h1, h2, List.append_nil, ← e]
theorem CutW.drop {l : List Nat} {x c : Nat} (h : CutW l x c) : l.drop c = l.filter (fun y => !decide (y < x)) := by
  have e : l = l.take c ++ l.drop c := (List.take_append_drop c l).symm
  rw [e, List.filter_append]
  have h1 : (l.take c).filter (fun y => !decide (y < x)) = [] := List.filter_eq_nil_iff.2 fun y hy => by
    obtain ⟨i, hi, rfl⟩ := List.getElem_of_mem hy
    have hi' : i < c := by rw [List.length_take] at hi; omega
    have := h.lt i hi'
    rw [List.getD_eq_getElem?_getD, List.getElem?_eq_getElem (by have := h.le; omega)] at this
    rw [List.getElem_take]
    simpa using this
  have h2 : (l.drop c).filter (fun y => !decide (y < x)) = l.drop c := List.filter_eq_self.2 fun y hy => by
    obtain ⟨i, hi, rfl⟩ := List.getElem_of_mem hy
    rw [List.length_drop] at hi
    have := h.ge (c + i) (by omega) (by omega)
    rw [List.getD_eq_getElem?_getD, List.getElem?_eq_getElem (by omega)] at this
    rw [List.getElem_drop]
    simpa using this
  rw [h1, h2, List.nil_append, ← e]
set_option maxRecDepth 100000 in
set_option maxHeartbeats 2000000 in
theorem pbsearch_any (l : List Nat) (hs : l.Pairwise (· < ·)) (x : Nat) (A : Option Addr) (c : Nat) (W : World) (hr : Nu W W.heap.size A l) (hl : l.length ≤ 1000000) :
    Calls Tryd.prog 96 #[.slice A l.length c, .int .u64 (x : Int)] W fun r W' => ∃ (q : Nat) (fb : Bool), r = .returned (.tuple #[.int .i64 (q : Int), .bool fb]) ∧ CutW l x q ∧ W' = W := by
  obtain ⟨n, hn⟩ : ∃ n, n = l.length := ⟨_, rfl⟩
  have HR := hid hr
  have HN := hid hn
  have HS := hid hs
  have HL := hid (show n ≤ 1000000 by omega)
  have HNN := hid (fun (y : Int) (V : World) => pslnan_any y V)
  have HLS := hid (fun (y : Nat) (V : World) => pless_any y x V)
  rw [← hn]
  clear hr hl hn hs
  go_enter Tryd.func96, Tryd.ntmps96
  go_wp2
  go_loopw [7, 8] (fun v u wr => ∃ i j : Nat, i ≤ j ∧ j ≤ n ∧ v = .int .i64 (i : Int) ∧ u = .int .i64 (j : Int) ∧ Hid ((∀ q, q < i → l.getD q 0 < x) ∧ ∀ q, j ≤ q → q < l.length → x ≤ l.getD q 0) ∧ wr = W) (fun v u _ => (intOf u).toNat - (intOf v).toNat)
  case atStart => exact ⟨0, n, by omega, by omega, rfl, rfl, hid ⟨fun q hq => by omega, fun q h1 h2 => by have := HN.out; omega⟩, rfl⟩
  case round =>
    obtain ⟨i, j, hij, hjn, rfl, rfl, hb, rfl⟩ := hrel
    have HB := hid hb.out
    clear hb
    by_cases hlt : i < j
    · have d1 : decide ((i : Int) < (j : Int)) = true := by simp; omega
      have d1n : decide (i < j) = true := by simpa using hlt
      obtain ⟨s, hs⟩ : ∃ m, m = i + j := ⟨_, rfl⟩
      have e1 : (i : Int) + (j : Int) = (s : Int) := by omega
      have ew1 : IntKind.i64.wrap (s : Int) = (s : Int) := by rw [IntKind.wrap_i64] <;> have := HL.out <;> omega
      have uw1 : IntKind.u64.wrap (s : Int) = (s : Int) := by rw [IntKind.wrap_u64]; have := HL.out; omega
      obtain ⟨m, hm⟩ : ∃ m, m = s >>> 1 := ⟨_, rfl⟩
      have hm2 : m = s / 2 := by rw [hm, Nat.shiftRight_eq_div_pow]
      have hsh := shr_u64 101 s 1 .u64 (by omega)
      rw [← hm] at hsh
      have hsh' : binOp .shr 101 (.int .u64 (s : Int)) (.int .u64 1) = pure (.int .u64 (m : Int)) := hsh
      have ewm : IntKind.i64.wrap (m : Int) = (m : Int) := by rw [IntKind.wrap_i64] <;> have := HL.out <;> omega
      have hmj : m < j := by omega
      have him : i ≤ m := by omega
      have hml : m < l.length := by rw [← HN.out]; omega
      obtain ⟨g, o, rfl, -, c0⟩ := HR.out.at hml
      obtain ⟨y, hy⟩ : ∃ y, y = l[m] := ⟨_, rfl⟩
      have hgd : l.getD m 0 = y := by rw [hy, List.getD_eq_getElem?_getD, List.getElem?_eq_getElem hml]; rfl
      rw [← hy] at c0
      obtain ⟨qo, hqo⟩ : ∃ q, q = o + m := ⟨_, rfl⟩
      rw [← hqo] at c0
      have eqo := hqo.symm
      have ik : (m : Int) < (n : Int) := by omega
      obtain ⟨m1, hm1⟩ : ∃ q, q = m + 1 := ⟨_, rfl⟩
      have e2 : (m : Int) + 1 = (m1 : Int) := by omega
      have ew2 : IntKind.i64.wrap (m1 : Int) = (m1 : Int) := by rw [IntKind.wrap_i64] <;> have := HL.out <;> omega
      by_cases hc : y < x
      · have f0 : decide (y < x) = true := by simpa using hc
        have HQ := hid (show (∀ q, q < m1 → l.getD q 0 < x) ∧ ∀ q, j ≤ q → q < l.length → x ≤ l.getD q 0 from ⟨fun q hq => by
          by_cases e : q = m
          · rw [e, hgd]; exact hc
          · have := getD_lt HS.out (show q < m by omega) hml
            omega, HB.out.2⟩)
        have HJ1 := hid (show m1 ≤ j by omega)
        have HMS := hid (show j - m1 < j - i by omega)
        have HJN := hid hjn
        clear hs hm hm2 hsh hmj him hml hy hgd hqo hm1 hc hlt hij hjn HB
        go_wp2_with (first
          | (go_at_call 114; refine (HLS.out y _).mono ?_; rintro r1 w1 ⟨rfl, hw⟩; rw [hw]; clear hw))
        exact ⟨⟨m1, j, HJ1.out, HJN.out, rfl, rfl, HQ, trivial⟩, by
          show ((j : Int)).toNat - ((m1 : Int)).toNat < ((j : Int)).toNat - ((i : Int)).toNat
          rw [Int.toNat_natCast, Int.toNat_natCast, Int.toNat_natCast]
          exact HMS.out⟩
      · have f0 : decide (y < x) = false := by simpa using hc
        have HQ := hid (show (∀ q, q < i → l.getD q 0 < x) ∧ ∀ q, m ≤ q → q < l.length → x ≤ l.getD q 0 from ⟨HB.out.1, fun q h1 h2 => by
          by_cases e : q = m
          · rw [e, hgd]; omega
          · have := getD_lt HS.out (show m < q by omega) h2
            omega⟩)
        have HJ1 := hid him
        have HJ2 := hid (show m ≤ n by omega)
        have HMS := hid (show m - i < j - i by omega)
        clear hs hm hm2 hsh hmj him hml hy hgd hqo hm1 hc hlt hij hjn HB
        go_wp2_with (first
          | (go_at_call 114; refine (HLS.out y _).mono ?_; rintro r1 w1 ⟨rfl, hw⟩; rw [hw]; clear hw))
        exact ⟨⟨i, m, HJ1.out, HJ2.out, rfl, rfl, HQ, trivial⟩, by
          show ((m : Int)).toNat - ((i : Int)).toNat < ((j : Int)).toNat - ((i : Int)).toNat
          rw [Int.toNat_natCast, Int.toNat_natCast, Int.toNat_natCast]
          exact HMS.out⟩
    · obtain rfl : i = j := by omega
      have d1 : decide ((i : Int) < (i : Int)) = false := by simp
      have d1n : decide (i < i) = false := by simp
      have HC := hid (show CutW l x i from ⟨by have := HN.out; omega, HB.out.1, HB.out.2⟩)
      by_cases hin : i < n
      · have d2 : decide ((i : Int) < (n : Int)) = true := by simp; omega
        have d2n : decide (i < n) = true := by simpa using hin
        have hil : i < l.length := by rw [← HN.out]; exact hin
        obtain ⟨g, o, rfl, -, c0⟩ := HR.out.at hil
        obtain ⟨y, hy⟩ : ∃ y, y = l[i] := ⟨_, rfl⟩
        rw [← hy] at c0
        obtain ⟨qo, hqo⟩ : ∃ q, q = o + i := ⟨_, rfl⟩
        rw [← hqo] at c0
        have eqo := hqo.symm
        have ik : (i : Int) < (n : Int) := by omega
        cases hc : ((y : Int) == (x : Int)) with
        | true =>
          clear hlt hij hjn HB hil hy hqo hin
          go_wp2_with (first
            | (go_at_call 115; refine (HNN.out _ _).mono ?_; rintro r1 w1 ⟨rfl, hw⟩; rw [hw]; clear hw))
          go_ret2
          exact ⟨i, _, rfl, HC.out, rfl⟩
        | false =>
          clear hlt hij hjn HB hil hy hqo hin
          go_wp2_with (first
            | (go_at_call 115; refine (HNN.out _ _).mono ?_; rintro r1 w1 ⟨rfl, hw⟩; rw [hw]; clear hw))
          go_ret2
          exact ⟨i, _, rfl, HC.out, rfl⟩
      · have d2 : decide ((i : Int) < (n : Int)) = false := by simp; omega
        have d2n : decide (i < n) = false := by simpa using hin
        clear hlt hij hjn HB hin
        go_wp2
        go_ret2
        exact ⟨i, _, rfl, HC.out, rfl⟩
end Go.Proofs.YtlmecjnlinalkaaDoor
