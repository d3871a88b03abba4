/-
  The program's Next of layer 5, walked.
-/
import Derived.Test.YtenlidbgllahhaaGb
namespace Go.Proofs.Ytenlidbgllahhaa
open Go.RowKit

/-- What is carried into byte 15 - j; the counter behind so many bytes. -/
def crk (c : List UInt8) (n : Nat) : Nat → Nat
  | 0 => n
  | j + 1 => ((c.getD (15 - j) 0).toNat + crk c n j) / 256
def cur (c : List UInt8) (n : Nat) : Nat → List UInt8
  | 0 => c
  | j + 1 => (cur c n j).set (15 - j) (UInt8.ofNat ((c.getD (15 - j) 0).toNat + crk c n j))
theorem crk_zero (c : List UInt8) (n : Nat) : crk c n 0 = n := rfl
theorem crk_succ (c : List UInt8) (n j : Nat) : crk c n (j + 1) = ((c.getD (15 - j) 0).toNat + crk c n j) / 256 := rfl
theorem cur_zero (c : List UInt8) (n : Nat) : cur c n 0 = c := rfl
theorem cur_succ (c : List UInt8) (n j : Nat) : cur c n (j + 1) = (cur c n j).set (15 - j) (UInt8.ofNat ((c.getD (15 - j) 0).toNat + crk c n j)) := rfl
theorem cur_length (c : List UInt8) (n j : Nat) : (cur c n j).length = c.length := by
  induction j with
  | zero => rfl
  | succ j ih => rw [cur_succ, List.length_set, ih]
theorem crk_lt (c : List UInt8) (n j : Nat) (h : n < 18446744073709551616) : crk c n j < 18446744073709551616 := by
  induction j with
  | zero => exact h
  | succ j ih => rw [crk_succ]; have := (c.getD (15 - j) 0).toNat_lt; omega
theorem drop_beN (c : List UInt8) (hc : c.length = 16) (j : Nat) (hj : j < 16) : beN (c.drop (15 - j)) = (c.getD (15 - j) 0).toNat * 256 ^ j + beN (c.drop (16 - j)) := by
  have h : 15 - j < c.length := by omega
  have e : c.drop (15 - j) = c.getD (15 - j) 0 :: c.drop (16 - j) := by
    rw [List.drop_eq_getElem_cons h, show 15 - j + 1 = 16 - j by omega]
    congr 1
    simp [h]
  rw [e, beN_cons, List.length_drop, hc, show 16 - (16 - j) = j by omega]
theorem crk_eq (c : List UInt8) (hc : c.length = 16) (n j : Nat) (hj : j ≤ 16) : crk c n j = (beN (c.drop (16 - j)) + n) / 256 ^ j := by
  induction j with
  | zero => rw [crk_zero, show (16 - 0) = c.length by omega, List.drop_length, beN_nil]; simp
  | succ j ih =>
    rw [crk_succ, ih (by omega), show 16 - (j + 1) = 15 - j by omega, drop_beN c hc j (by omega), Nat.pow_succ, ← Nat.div_div_eq_div_mul, Nat.add_assoc, Nat.mul_comm, Nat.mul_add_div (Nat.pow_pos (by omega))]
theorem cur_get (c : List UInt8) (hc : c.length = 16) (n j : Nat) (hj : j ≤ 16) (i : Nat) (hi : i < 16) : (cur c n j).getD i 0 = if 15 - i < j then UInt8.ofNat ((c.getD i 0).toNat + crk c n (15 - i)) else c.getD i 0 := by
  induction j with
  | zero => rw [cur_zero, if_neg (by omega)]
  | succ j ih =>
    rw [cur_succ, set_getD _ _ _ _ (by rw [cur_length, hc]; omega), ih (by omega)]
    by_cases h : 15 - j = i
    · rw [if_pos h, if_pos (by omega), h, show 15 - i = j by omega]
    · rw [if_neg h]
      by_cases h2 : 15 - i < j
      · rw [if_pos h2, if_pos (by omega)]
      · rw [if_neg h2, if_neg (by omega)]
theorem cur_all (c : List UInt8) (hc : c.length = 16) (n : Nat) : cur c n 16 = nextL c n := by
  have hl : (cur c n 16).length = (nextL c n).length := by rw [cur_length, hc, nextL_length]
  refine List.ext_getElem hl fun i h1 h2 => ?_
  have hi : i < 16 := by rw [nextL_length] at h2; exact h2
  have hg : (cur c n 16).getD i 0 = (nextL c n).getD i 0 := by
    rw [cur_get c hc n 16 (by omega) i hi, if_pos (by omega), nextL, toBE_get 16 _ i hi, crk_eq c hc n (15 - i) (by omega)]
    apply ofNat_congr
    have h3 := drop_beN c hc (15 - i) (by omega)
    rw [show 15 - (15 - i) = i by omega] at h3
    have h4 : beN c = beN (c.take i) * 256 ^ (16 - i) + beN (c.drop i) := by
      have := beN_append (c.take i) (c.drop i)
      rwa [List.take_append_drop, List.length_drop, hc] at this
    rw [h4, h3, show 16 - 1 - i = 15 - i by omega, show 16 - i = 15 - i + 1 by omega, Nat.pow_succ]
    generalize beN (c.take i) = T
    generalize (c.getD i 0).toNat = x
    generalize beN (c.drop (16 - (15 - i))) = B
    obtain ⟨p, hp⟩ : ∃ p, p = 256 ^ (15 - i) := ⟨_, rfl⟩
    have hp0 : 0 < p := by rw [hp]; exact Nat.pow_pos (by omega)
    rw [← hp, show T * (p * 256) + (x * p + B) + n = p * (T * 256 + x) + (B + n) by rw [Nat.mul_add]; rw [show T * (p * 256) = p * (T * 256) by rw [Nat.mul_left_comm]]; rw [Nat.mul_comm x p]; omega, Nat.mul_add_div hp0]
    omega
  simpa [List.getD_eq_getElem?_getD, h1, h2] using hg
attribute [irreducible] crk cur
theorem q_and (t : TypeId) (q : Nat) (h : q < 18446744073709551616) : binOp .and t (.int .u64 (q : Int)) (.int .u64 255) = pure (.int .u64 ((q % 256 : Nat) : Int)) := by
  simp only [binOp_and, Op.intBits]
  show (pure (.int .u64 (IntKind.u64.wrap ((BitVec.ofInt 64 (q : Int) &&& BitVec.ofInt 64 255).toNat : Int))) : Sem Value) = _
  congr 2
  rw [BitVec.ofInt_natCast, show (BitVec.ofInt 64 255) = BitVec.ofNat 64 255 by rfl, BitVec.toNat_and, BitVec.toNat_ofNat, BitVec.toNat_ofNat, Nat.mod_eq_of_lt (by omega), show 255 % 2 ^ 64 = 2 ^ 8 - 1 by rfl, Nat.and_two_pow_sub_one_eq_mod]
  exact wrap64 _ (by omega)
set_option maxRecDepth 100000 in
set_option maxHeartbeats 1000000 in
theorem pnext_any (c : List UInt8) (n : Nat) (w : World) (hc : c.length = 16) (hn : n < 18446744073709551616) :
    Calls Try.prog 26 #[.agg (ubs c).toArray, .int .u64 (n : Int)] w fun e w' => e = .returned (.agg (ubs (nextL c n)).toArray) ∧ Below w.heap.size w w' := by
  have H0 := hid (Duo.start w c n16)
  have HL := hid hc
  have HLN := hid (nextL_length c n)
  have HAL := hid (cur_all c hc n)
  have HLT := hid (fun j => crk_lt c n j hn)
  have hz := noughts16
  clear hc hn
  go_enter Try.func26, Try.ntmps26
  go_wp2
  clear hz
  go_loopw [1, 5, 6] (fun vn vi _ wr => ∃ j m : Nat, j ≤ 16 ∧ vi = .int .i64 (15 - (j : Int)) ∧ vn = .int .u64 m ∧ Hid (m = crk c n j) ∧ Duo w (cur c n j) n16 wr) (fun _ vi _ _ => (intOf vi + 1).toNat)
  case atStart => exact ⟨0, n, by omega, rfl, rfl, (crk_zero c n).symm, by rw [cur_zero]; exact H0.out⟩
  case round =>
    clear H0
    obtain ⟨j, m, hj, rfl, rfl, HM, hA⟩ := hrel
    have HA := hid hA
    clear hA
    by_cases hlt : j < 16
    · obtain ⟨a, ha⟩ : ∃ a, a = 15 - j := ⟨_, rfl⟩
      have HN := hid (cur_succ c n j)
      have HC := hid (crk_succ c n j)
      have hul : (cur c n j).length = 16 := by rw [cur_length, HL.out]
      have c0 := at_ub_cell HA.out.a0 (i := a) (by rw [hul]; omega)
      have f0 := HA.out.a0.frozen a
      have hx0 : (cur c n j).getD a 0 = c.getD a 0 := by rw [cur_get c HL.out n j (by omega) a (by omega), if_neg (by omega)]
      rw [hx0] at c0
      rw [← ha, ← HM.out] at HN HC
      obtain ⟨x, hx⟩ : ∃ x, x = c.getD a 0 := ⟨_, rfl⟩
      rw [← hx] at c0 HN HC
      obtain ⟨s, hs⟩ : ∃ s, s = x.toNat + m % 256 := ⟨_, rfl⟩
      have hmm := HLT.out j
      rw [← HM.out] at hmm
      have hxl := x.toNat_lt
      have w5 := wrap64 x.toNat (by omega)
      have hand := q_and 46 m hmm
      have ws := wrap64 s (by omega)
      have e1 : (x.toNat : Int) + ((m % 256 : Nat) : Int) = (s : Int) := by omega
      have wb := wrapB s
      obtain ⟨y, hy⟩ : ∃ y, y = UInt8.ofNat (x.toNat + m) := ⟨_, rfl⟩
      have hys : UInt8.ofNat s = y := by rw [hy]; apply ofNat_congr; omega
      rw [hys] at wb
      rw [← hy] at HN
      obtain ⟨m', hm'⟩ : ∃ m', m' = (x.toNat + m) / 256 := ⟨_, rfl⟩
      rw [← hm'] at HC
      have e2 : (m : Int) / 256 + (s : Int) / 256 = (m' : Int) := by omega
      have wm := wrap64 m' (by omega)
      have e0 : 15 - (j : Int) = (a : Int) := by omega
      have ai : (a : Int) < 16 := by omega
      have HAJ := hid (show (a : Int) - 1 = 15 - ((j + 1 : Nat) : Int) by omega)
      have HAB := hid (show a = 15 - j from ha)
      obtain ⟨r, hr⟩ : ∃ r, r = m % 256 := ⟨_, rfl⟩
      rw [← hr] at hand e1
      clear hx0 hul ha hx hs hxl hy hys hm' hr hmm
      rw [e0]
      go_wp2
      go_roundw
      case rel => exact ⟨j + 1, m', by omega, by rw [← HAJ.out], rfl, HC.out.symm, by rw [HN.out]; exact HA.out.put a y⟩
      case measure => first | (simp [intOf]; done) | (have := HAB.out; simp [intOf]; omega)
    · obtain rfl : j = 16 := by omega
      have ha := HA.out
      rw [HAL.out] at ha
      have HA2 := hid ha
      clear ha HA
      go_wp2_with (first
        | (refine wpList_load_row rfl _ (.tmp 2) rfl w.heap.size rfl 26 (ubs (nextL c n)).toArray (0, 0) _ HA2.out.a0 Try.underlying26 rfl (size16_of HLN.out) ?_)
        | (refine wpList_store_row rfl _ (.tmp 4) (.tmp 27) rfl (w.heap.size + 1) (ubs (nextL c n)).toArray rfl rfl 26 (ubs n16).toArray HA2.out.a1 (size16_of HLN.out) ?e5 (ubs_all _) ?e6; rotate_right))
      case e5 => simp [ubs_length, n16_length, HLN.out]
      refine bodyPost_ret (results_cell_row rfl _ _ (w.heap.size + 1) 26 (ubs (nextL c n)).toArray (0, 0) _ rfl (setRow_heap _ _ _ _ _ _ HA2.out.a1) Try.underlying26 rfl (size16_of HLN.out)) rfl ?_
      exact ⟨rfl, below_setRow HA2.out.below (by omega) _⟩
end Go.Proofs.Ytenlidbgllahhaa
