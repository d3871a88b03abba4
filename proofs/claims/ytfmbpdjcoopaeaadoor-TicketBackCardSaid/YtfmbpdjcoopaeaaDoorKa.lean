/-
  The document's Number: a number's bytes.
-/
import Derived.Test.YtfmbpdjcoopaeaaDoorY1
import Derived.Test.YtfmbpdjcoopaeaaDoorY3
namespace Go.Proofs.YtfmbpdjcoopaeaaDoor
open Go.RowKit

/-- The last j bytes of a number, behind noughts. -/
def nbk (s n j : Nat) : List UInt8 := List.replicate (s - j) 0 ++ toBE j n
theorem nbk_zero (s n : Nat) : nbk s n 0 = List.replicate s 0 := by rw [nbk, toBE_zero]; simp
theorem nbk_all (s n : Nat) : nbk s n s = toBE s n := by simp [nbk]
theorem nbk_length (s n j : Nat) (h : j ≤ s) : (nbk s n j).length = s := by simp [nbk, toBE_length]; omega
theorem nbk_succ (s n j : Nat) (h : j < s) : nbk s n (j + 1) = (nbk s n j).set (s - 1 - j) (UInt8.ofNat (n / 256 ^ j)) := by
  unfold nbk
  rw [toBE_cons, show s - j = (s - 1 - j) + 1 by omega, List.replicate_succ', List.append_assoc, List.set_append_right _ _ (by simp), List.length_replicate, Nat.sub_self, show s - (j + 1) = s - 1 - j by omega]
  rfl
theorem at_ub_putG {w : World} {g : Nat} {t : TypeId} {bs : List UInt8} (h : At w g (ubs bs).toArray t) (i : Nat) (b : UInt8) : At (w.setCell ⟨g, i, none⟩ (.int .u8 (b.toNat : Int))) g (ubs (bs.set i b)).toArray t := by
  have := h.put i (ub b)
  have e : ubs (bs.set i b) = (ubs bs).set i (ub b) := by simp [ubs, List.map_set]
  rw [e, ← List.setIfInBounds_toArray]
  exact this
theorem wrapNB (n : Nat) : IntKind.u8.wrap ((n % 256 : Nat) : Int) = ((UInt8.ofNat n).toNat : Int) := by
  rw [UInt8.toNat_ofNat']
  simp [IntKind.wrap, IntKind.signed, IntKind.bits]
theorem wrapN64 (n : Nat) (h : n < 18446744073709551616) : IntKind.u64.wrap (n : Int) = (n : Int) := by
  simp [IntKind.wrap, IntKind.signed, IntKind.bits]
  omega
set_option maxRecDepth 100000 in
set_option maxHeartbeats 1000000 in
theorem numberR_any (n s : Nat) (w : World) (hn : n < 18446744073709551616) (hs : s ≤ 1000) :
    Calls Tryd.prog 94 #[.int .u64 (n : Int), .int .i64 (s : Int)] w fun e w' => ∃ g, e = .returned (.slice (some ⟨g, 0, none⟩) s s) ∧ At w' g (ubs (toBE s n)).toArray 5 ∧ w.heap.size ≤ g ∧ Below w.heap.size w w' := by
  have hmk := run_makeB s (by omega)
  have HA := hid (At.new w (ubs (List.replicate s 0)).toArray 5)
  have HB := hid ((Below.refl w.heap.size w).alloc (Nat.le_refl _) (.cells (ubs (List.replicate s 0)).toArray 5))
  have HE := hid (nbk_all s n)
  go_enter Tryd.func94, Tryd.ntmps94
  go_wp2
  clear hmk
  go_loopw [0, 6] (fun vn vi wr => ∃ j m : Nat, j ≤ s ∧ vi = .int .i64 ((s : Int) - 1 - (j : Int)) ∧ vn = .int .u64 (m : Int) ∧ Hid (m = n / 256 ^ j) ∧ At wr w.heap.size (ubs (nbk s n j)).toArray 5 ∧ Below w.heap.size w wr) (fun _ vi _ => (intOf vi + 1).toNat)
  case atStart => exact ⟨0, n, by omega, by congr 1; omega, rfl, hid (by simp), by rw [nbk_zero]; exact HA.out, HB.out⟩
  case round =>
    clear HA HB
    obtain ⟨j, m, hj, rfl, rfl, HM, hA, hB⟩ := hrel
    have HA := hid hA
    have HB := hid hB
    clear hA hB
    by_cases hlt : j < s
    · obtain ⟨a, ha⟩ : ∃ a, a = s - 1 - j := ⟨_, rfl⟩
      have HN := hid (nbk_succ s n j hlt)
      rw [← ha, ← HM.out] at HN
      have c0 := at_ub_cell HA.out (i := a) (by rw [nbk_length s n j (by omega)]; omega)
      have f0 := HA.out.frozen a
      have e0 : (s : Int) - 1 - (j : Int) = (a : Int) := by omega
      have ai : (a : Int) < (s : Int) := by omega
      have ca : decide (0 ≤ (a : Int)) = true := by simp
      obtain ⟨q, hq⟩ : ∃ q, q = m % 256 := ⟨_, rfl⟩
      obtain ⟨m', hm'⟩ : ∃ q, q = m / 256 := ⟨_, rfl⟩
      have w1 := wrapNB m
      rw [← hq] at w1
      have e1 : (m : Int) % 256 = (q : Int) := by omega
      have e2 : (m : Int) / 256 = (m' : Int) := by omega
      have hm64 : m < 18446744073709551616 := by have h1 := Nat.div_le_self n (256 ^ j); have h2 := HM.out; omega
      have w2 := wrapN64 m' (by omega)
      have w3 := wrapN64 q (by omega)
      obtain ⟨x, hx⟩ : ∃ x, x = UInt8.ofNat m := ⟨_, rfl⟩
      rw [← hx] at w1 HN
      have HM' := hid (show m' = n / 256 ^ (j + 1) by rw [hm', HM.out, Nat.div_div_eq_div_mul, Nat.pow_succ])
      have HAA := hid (show a = s - 1 - j from ha)
      obtain ⟨x0, hx0⟩ : ∃ x0, x0 = (nbk s n j).getD a 0 := ⟨_, rfl⟩
      rw [← hx0] at c0
      clear ha hq hm' hx hx0
      rw [e0]
      go_wp2
      go_roundw
      case rel => exact ⟨j + 1, m', by omega, by have := HAA.out; congr 1; omega, rfl, HM', by rw [HN.out]; exact at_ub_putG HA.out a x, HB.out.setCell (by simp) _⟩
      case measure => first | (simp [intOf]; done) | (have := HAA.out; simp [intOf]; omega)
    · obtain rfl : j = s := by omega
      have ha := HA.out
      rw [HE.out] at ha
      have HA2 := hid ha
      have ca : decide (0 ≤ (j : Int) - 1 - (j : Int)) = false := by simp; omega
      have e9 : (j : Int) - 1 - (j : Int) = -1 := by omega
      clear ha HA
      rw [e9]
      go_wp2
      go_ret
      exact ⟨_, rfl, HA2.out, Nat.le_refl _, HB.out⟩
end Go.Proofs.YtfmbpdjcoopaeaaDoor
