/-
  The document's Root: the prime of a number, the root's whole part, the bits behind it.
-/
import Derived.Test.YtobehmjmmnmflaaDoorRo
namespace Go.Proofs.YtobehmjmmnmflaaDoor
open Go.RowKit

/-- No number from 2 on, below k, divides n. -/
def noDiv (n k : Nat) : Bool := (List.range k).all fun d => decide (d < 2) || decide (n % d ≠ 0)
theorem noDiv_two (n : Nat) : noDiv n 2 = true := by
  rw [noDiv, List.all_eq_true]
  intro d hd
  simp [List.mem_range.1 hd]
theorem noDiv_succ (n k : Nat) (h : 2 ≤ k) : noDiv n (k + 1) = (noDiv n k && decide (n % k ≠ 0)) := by
  unfold noDiv
  rw [List.range_succ, List.all_append]
  simp [Nat.not_lt.2 h]
theorem noDiv_all : ((List.range 312).all fun n => decide (n < 2) || (noDiv n n == isP n)) = true := by decide +kernel
theorem noDiv_isP {n : Nat} (h2 : 2 ≤ n) (h : n ≤ 311) : noDiv n n = isP n := by
  have := List.all_eq_true.1 noDiv_all n (List.mem_range.2 (by omega))
  simpa [Nat.not_lt.2 h2] using this
theorem isP_two : isP 2 = true := by decide +kernel
/-- The prime ahead of the one with number k; 1 ahead of the first. -/
def pv (k : Nat) : Nat := if k = 0 then 1 else prN (k - 1)
theorem pv_zero : pv 0 = 1 := rfl
theorem pv_succ (k : Nat) : pv (k + 1) = prN k := by simp [pv]
theorem pv_pos {k : Nat} (h : k < 64) : 1 ≤ pv k := by
  rcases k with _ | k
  · rw [pv_zero]; exact Nat.le_refl _
  · rw [pv_succ]; have := (pr_le (k := k) (by omega)).1; omega
theorem pv_lt {k : Nat} (h : k < 64) : pv k < prN k := by
  rcases k with _ | k
  · rw [pv_zero, pr_zero]; omega
  · rw [pv_succ]; exact pr_up (by omega)
theorem prime_is {k : Nat} (h : k < 64) : isP (prN k) = true := by
  rcases k with _ | k
  · rw [pr_zero]; exact isP_two
  · exact pr_is (by omega)
theorem prime_gap {k q : Nat} (h : k < 64) (h1 : pv k < q) (h2 : q < prN k) : isP q = false := by
  rcases k with _ | k
  · rw [pv_zero] at h1; rw [pr_zero] at h2; omega
  · rw [pv_succ] at h1; exact pr_not (by omega) h1 h2
/-- Where the search for the i-th prime stands. -/
def At1 (i k p : Nat) : Prop := (k ≤ i ∧ pv k ≤ p ∧ p < prN k) ∨ (k = i + 1 ∧ p = prN i)
theorem At1.yes {i k p : Nat} (hi : i < 64) (hk : k ≤ i) (h : At1 i k p) (hp : isP (p + 1) = true) : At1 i (k + 1) (p + 1) := by
  rcases h with ⟨-, h1, h2⟩ | ⟨h1, -⟩
  · have he : p + 1 = prN k := by
      rcases Nat.lt_or_ge (p + 1) (prN k) with hl | hl
      · rw [prime_gap (by omega) (by omega) hl] at hp; cases hp
      · omega
    rcases Nat.lt_or_ge k i with hl | hl
    · refine .inl ⟨hl, by rw [pv_succ, he]; exact Nat.le_refl _, by rw [he]; exact pr_up (by omega)⟩
    · obtain rfl : k = i := by omega
      exact .inr ⟨rfl, he⟩
  · omega
theorem At1.no {i k p : Nat} (hi : i < 64) (hk : k ≤ i) (h : At1 i k p) (hp : isP (p + 1) = false) : At1 i k (p + 1) := by
  rcases h with ⟨h0, h1, h2⟩ | ⟨h1, -⟩
  · refine .inl ⟨h0, by omega, ?_⟩
    rcases Nat.lt_or_ge (p + 1) (prN k) with hl | hl
    · exact hl
    · have he : p + 1 = prN k := by omega
      rw [he, prime_is (by omega)] at hp
      cases hp
  · omega
theorem At1.le {i k p : Nat} (hi : i < 64) (h : At1 i k p) : 1 ≤ p ∧ p ≤ 311 ∧ (k ≤ i → p ≤ 310) := by
  rcases h with ⟨h0, h1, h2⟩ | ⟨h1, rfl⟩
  · have := pv_pos (k := k) (by omega)
    have := (pr_le (k := k) (by omega)).2
    omega
  · have := pr_le hi
    omega
theorem At1.done {i k p : Nat} (h : At1 i k p) (hk : ¬ k ≤ i) : p = prN i := by
  rcases h with ⟨h0, -⟩ | ⟨-, h1⟩
  · omega
  · exact h1
theorem At1.start (i : Nat) : At1 i 0 1 := .inl ⟨Nat.zero_le _, Nat.le_refl _, by have := pv_lt (k := 0) (by omega); rwa [pv_zero] at this⟩
theorem shl32 (t : TypeId) (a : Nat) (h : a < 4294967296) : binOp .shl t (.int .u64 (a : Int)) (.int .u64 32) = pure (.int .u64 ((a * 4294967296 : Nat) : Int)) := by
  simp only [binOp]
  unfold Op.shift
  rw [if_neg (by omega)]
  simp only
  congr 2
  show IntKind.u64.wrap ((a : Int) * 2 ^ 32) = _
  have e : IntKind.u64.wrap ((a : Int) * 2 ^ 32) = ((a : Int) * 2 ^ 32) % 18446744073709551616 := by simp [IntKind.wrap, IntKind.signed, IntKind.bits]
  rw [e]
  omega
theorem or32 (t : TypeId) (a n : Nat) (ha : a < 4294967296) (hn : n < 4294967296) : binOp .or t (.int .u64 ((a * 4294967296 : Nat) : Int)) (.int .u64 (n : Int)) = pure (.int .u64 ((a * 4294967296 + n : Nat) : Int)) := by
  simp only [binOp_or, Op.intBits]
  show (pure (.int .u64 (IntKind.u64.wrap ((BitVec.ofInt 64 ((a * 4294967296 : Nat) : Int) ||| BitVec.ofInt 64 (n : Int)).toNat : Int))) : Sem Value) = _
  congr 2
  have h1 : a * 4294967296 ||| n = a * 4294967296 + n := by
    have := Nat.shiftLeft_add_eq_or_of_lt (b := n) (i := 32) hn a
    rw [Nat.shiftLeft_eq] at this
    exact this.symm
  rw [BitVec.ofInt_natCast, BitVec.ofInt_natCast, BitVec.toNat_or, BitVec.toNat_ofNat, BitVec.toNat_ofNat, Nat.mod_eq_of_lt (by omega), Nat.mod_eq_of_lt (by omega), h1]
  have e : IntKind.u64.wrap ((a * 4294967296 + n : Nat) : Int) = ((a * 4294967296 + n : Nat) : Int) % 18446744073709551616 := by simp [IntKind.wrap, IntKind.signed, IntKind.bits]
  rw [e]
  omega
set_option maxRecDepth 100000 in
set_option maxHeartbeats 2000000 in
theorem rootR_any (i q t n : Nat) (hi : i < 64) (hq : q ≤ 3) (hR : ∀ x : Nat, x ≤ 1099511627776 → decide (x ^ q ≤ prN i * 4294967296 ^ q) = decide (x < t)) (h1 : 1 ≤ t) (ht : t ≤ 34359738368) (hn : n = (t - 1) % 4294967296) (w : World) :
    Calls Tryd.prog 12 #[.int .u32 (n : Int), .int .i64 (i : Int), .int .i64 (q : Int)] w fun e w' => e = .returned (.bool true) ∧ Below w.heap.size w w' := by
  have HR := hid (fun (x : Nat) (hx : x ≤ 1099511627776) (b : Bool) (hb : decide (x < t) = b) (W : World) => show Calls Tryd.prog 28 #[.int .u64 (x : Int), .int .u64 (prN i : Int), .int .i64 (q : Int)] W (fun e w' => e = .returned (.bool b) ∧ Below W.heap.size W w') by
    have := root_any x (prN i) q hx (by have := (pr_le hi).2; omega) hq W
    rw [hR x hx, hb] at this
    exact this)
  have hnb : n < 4294967296 := by omega
  have HN := hid hn
  clear hR hn
  go_enter Tryd.func12, Tryd.ntmps12
  go_wp2
  go_loop [7, 8] (fun vp vf => ∃ k p : Nat, k ≤ i + 1 ∧ vp = .int .u64 p ∧ vf = .int .i64 ((k : Int) - 1) ∧ Hid (At1 i k p)) (fun vp _ => 400 - (intOf vp).toNat)
  case atStart => exact ⟨0, 1, by omega, rfl, rfl, hid (At1.start i)⟩
  case round =>
    obtain ⟨k, p, hk, rfl, rfl, HA⟩ := hrel
    have hle := HA.out.le hi
    by_cases hki : k ≤ i
    · have HY := hid (HA.out.yes hi hki)
      have HF := hid (HA.out.no hi hki)
      have hp310 := hle.2.2 hki
      have hp1 := hle.1
      clear hle HA
      go_wp2
      go_loop [9, 10] (fun vs vd => ∃ d : Nat, 2 ≤ d ∧ d ≤ p + 1 ∧ vd = .int .u64 d ∧ vs = .bool (noDiv (p + 1) d)) (fun _ vd => 400 - (intOf vd).toNat)
      case atStart => exact ⟨2, by omega, by omega, rfl, by rw [noDiv_two]⟩
      case round =>
        obtain ⟨d, hd2, hdp, rfl, rfl⟩ := hrel
        by_cases hlt : d < p + 1
        · have HS := hid (noDiv_succ (p + 1) d hd2)
          have hdi : ((d : Int) == 0) = false := by simp; omega
          have hmI : ((p : Int) + 1) % (d : Int) = (((p + 1) % d : Nat) : Int) := by push_cast; rfl
          rcases Bool.eq_false_or_eq_true (noDiv (p + 1) d) with hb | hb
          · by_cases hm : (p + 1) % d = 0
            · have hm' : ((p : Int) + 1) % (d : Int) = 0 := by rw [hmI, hm]; rfl
              have HE := hid (show noDiv (p + 1) (d + 1) = false by rw [HS.out, hb]; simp [hm])
              rw [hb]
              clear hb HS hmI
              go_wp2
              go_round
              case rel => exact ⟨d + 1, by omega, by omega, by go_num, by rw [HE.out]⟩
              case measure => simp [intOf]; omega
            · have hm' : (((p : Int) + 1) % (d : Int) != 0) = true := by rw [hmI]; simp; omega
              have HE := hid (show noDiv (p + 1) (d + 1) = true by rw [HS.out, hb]; simp [hm])
              rw [hb]
              clear hb HS hmI
              go_wp2
              go_round
              case rel => exact ⟨d + 1, by omega, by omega, by go_num, by rw [HE.out]⟩
              case measure => simp [intOf]; omega
          · have HE := hid (show noDiv (p + 1) (d + 1) = false by rw [HS.out, hb]; simp)
            rw [hb]
            clear hb HS hmI
            go_wp2
            go_round
            case rel => exact ⟨d + 1, by omega, by omega, by go_num, by rw [HE.out]⟩
            case measure => simp [intOf]; omega
        · obtain rfl : d = p + 1 := by omega
          rw [noDiv_isP (by omega) (by omega)]
          rcases Bool.eq_false_or_eq_true (isP (p + 1)) with hb | hb
          · have HY2 := hid (HY.out hb)
            rw [hb]
            clear HY HF hb
            go_wp2
            go_round
            case rel => exact ⟨k + 1, p + 1, by omega, by go_num, by go_num, HY2⟩
            case measure => simp [intOf]; omega
          · have HF2 := hid (HF.out hb)
            rw [hb]
            clear HY HF hb
            go_wp2
            go_round
            case rel => exact ⟨k, p + 1, by omega, by go_num, rfl, HF2⟩
            case measure => simp [intOf]; omega
    · have HP := hid (HA.out.done hki)
      have hki2 : k = i + 1 := by omega
      clear hle HA
      have hb311 : p ≤ 311 := by rw [HP.out]; exact (pr_le hi).2
      rw [← HP.out] at HR
      clear HP
      have HT := hid (show ∀ m : Nat, decide ((m + 1) * 4294967296 < t) = decide (m + 1 ≤ (t - 1) / 4294967296) from fun m => by rw [Bool.eq_iff_iff]; simp; omega)
      go_wp2
      go_loopw [11] (fun vm wr => ∃ m : Nat, m ≤ (t - 1) / 4294967296 ∧ vm = .int .u64 m ∧ Below w.heap.size w wr) (fun vm _ => 100 - (intOf vm).toNat)
      case atStart => exact ⟨0, by omega, rfl, Below.refl _ _⟩
      case round =>
        obtain ⟨m, hm, rfl, hB⟩ := hrel
        have HB := hid hB
        clear hB
        have hs := shl32 52 (m + 1) (by omega)
        have hs' : binOp .shl 52 (.int .u64 ((m : Int) + 1)) (.int .u64 32) = pure (.int .u64 (((m + 1) * 4294967296 : Nat) : Int)) := by
          rw [← hs]
          congr 2
        obtain ⟨X, hX⟩ : ∃ X, X = (m + 1) * 4294967296 := ⟨_, rfl⟩
        rw [← hX] at hs'
        clear hs
        by_cases hlt : m + 1 ≤ (t - 1) / 4294967296
        · have HC := hid (HR.out X (by omega) true (by rw [decide_eq_true_eq]; omega))
          clear hX
          go_wp2_with (go_at_call 28; refine (HC.out wr).mono ?_; rintro e w2 ⟨rfl, hb2⟩; have B2 := hid (HB.out.trans (hb2.mono HB.out.size)); clear hb2)
          go_roundw
          case rel => exact ⟨m + 1, hlt, by go_num, B2.out⟩
          case measure => simp [intOf]; omega
        · have hm2 : m = (t - 1) / 4294967296 := by omega
          have HC := hid (HR.out X (by omega) false (by rw [decide_eq_false_iff_not]; omega))
          have hs2 := shl32 52 m (by omega)
          have ho := or32 52 m n (by omega) hnb
          obtain ⟨Z, hZ⟩ : ∃ Z, Z = m * 4294967296 := ⟨_, rfl⟩
          obtain ⟨Y, hY⟩ : ∃ Y, Y = m * 4294967296 + n := ⟨_, rfl⟩
          rw [← hZ] at hs2 ho
          rw [← hZ] at hY
          rw [← hY] at ho
          have hYt : Y = t - 1 := by have := HN.out; omega
          have C1 := hid (HR.out Y (by omega) true (by rw [decide_eq_true_eq]; omega))
          have C2 := hid (fun (W : World) => show Calls Tryd.prog 28 #[.int .u64 ((Y : Int) + 1), .int .u64 (p : Int), .int .i64 (q : Int)] W (fun e w' => e = .returned (.bool false) ∧ Below W.heap.size W w') from HR.out (Y + 1) (by omega) false (by rw [decide_eq_false_iff_not]; omega) W)
          have hYb : Y ≤ 34359738368 := by omega
          clear hX hY hZ hYt hm2 HN HT
          have tok1 : Hid True := trivial
          have tok2 : Hid True := trivial
          go_wp2_with (first
            | (go_at_call 28; have _t := tok1; clear tok1 _t; refine (HC.out wr).mono ?_; rintro e w2 ⟨rfl, hb2⟩; have B2 := hid (HB.out.trans (hb2.mono HB.out.size)); clear hb2)
            | (go_at_call 28; have _t := tok2; clear tok2 _t; refine (C1.out w2).mono ?_; rintro e w3 ⟨rfl, hb3⟩; have B3 := hid (B2.out.trans (hb3.mono B2.out.size)); clear hb3)
            | (go_at_call 28; refine (C2.out w3).mono ?_; rintro e w4 ⟨rfl, hb4⟩; have B4 := hid (B3.out.trans (hb4.mono B3.out.size)); clear hb4))
          go_ret
          exact ⟨rfl, B4.out⟩
end Go.Proofs.YtobehmjmmnmflaaDoor
