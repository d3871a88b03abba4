/-
  Comparing bytes without haste.
-/
import Derived.Test.YtobehmjmmnmflaaDoorHa
namespace Go.Proofs.YtobehmjmmnmflaaDoor
open Go.RowKit

theorem nxor_zero (a b : Nat) : a ^^^ b = 0 ↔ a = b :=
  ⟨fun h => by
    have := congrArg (· ^^^ b) h
    simpa [Nat.xor_assoc, Nat.xor_self] using this, fun h => by rw [h, Nat.xor_self]⟩
/-- What differs ahead of place k, the lengths first. -/
def difk (a b : List UInt8) : Nat → Nat
  | 0 => a.length ^^^ b.length
  | k + 1 => difk a b k ||| (a.getD k 0 ^^^ b.getD k 0).toNat
theorem difk_zero (a b : List UInt8) : difk a b 0 = a.length ^^^ b.length := rfl
theorem difk_succ (a b : List UInt8) (k : Nat) : difk a b (k + 1) = difk a b k ||| (a.getD k 0 ^^^ b.getD k 0).toNat := rfl
theorem difk_iff (a b : List UInt8) (k : Nat) : difk a b k = 0 ↔ a.length = b.length ∧ ∀ j, j < k → a.getD j 0 = b.getD j 0 := by
  induction k with
  | zero => rw [difk_zero, nxor_zero]; simp
  | succ k ih =>
    rw [difk_succ, Nat.or_eq_zero_iff, ih]
    have hx : (a.getD k 0 ^^^ b.getD k 0).toNat = 0 ↔ a.getD k 0 = b.getD k 0 := by
      rw [UInt8.toNat_xor, nxor_zero]
      exact UInt8.toNat_inj
    rw [hx]
    constructor
    · rintro ⟨⟨h1, h2⟩, h3⟩
      refine ⟨h1, fun j hj => ?_⟩
      rcases Nat.lt_or_ge j k with h | h
      · exact h2 j h
      · obtain rfl : j = k := by omega
        exact h3
    · rintro ⟨h1, h2⟩
      exact ⟨⟨h1, fun j hj => h2 j (by omega)⟩, h2 k (by omega)⟩
theorem difk_end (a b : List UInt8) (k : Nat) (h : k = max a.length b.length) : ((difk a b k : Int) == 0) = (a == b) := by
  rw [Bool.eq_iff_iff, beq_iff_eq, beq_iff_eq]
  have h1 : ((difk a b k : Int) = 0) ↔ difk a b k = 0 := by omega
  rw [h1, difk_iff]
  constructor
  · rintro ⟨h2, h3⟩
    refine List.ext_getElem h2 fun i hi hi2 => ?_
    have := h3 i (by omega)
    simpa [hi, hi2] using this
  · rintro rfl
    exact ⟨rfl, fun _ _ => rfl⟩
attribute [irreducible] difk
set_option maxHeartbeats 1000000 in
theorem same_any (a b : List UInt8) (A B : Option Addr) (ca cb : Nat) (w : World) (ha : Rb w w.heap.size A a) (hb : Rb w w.heap.size B b) (la : a.length ≤ 140737488355328) (lb : b.length ≤ 140737488355328) :
    Calls Tryd.prog 21 #[.slice A a.length ca, .slice B b.length cb] w fun e w' => e = .returned (.bool (a == b)) ∧ w = w' := by
  have KA := fun i => at_any a A ca i w ha
  have KB := fun i => at_any b B cb i w hb
  have D0 := difk_zero a b
  have DE := difk_end a b
  obtain ⟨n, hn⟩ : ∃ n, n = a.length := ⟨_, rfl⟩
  obtain ⟨m, hm⟩ : ∃ m, m = b.length := ⟨_, rfl⟩
  have h0 := n_xor 3 n m (by omega) (by omega)
  have hlt0 : n ^^^ m < 2 ^ 63 := Nat.xor_lt_two_pow (by omega) (by omega)
  rw [← hn, ← hm] at D0 DE ⊢
  rw [← hn] at KA la
  rw [← hm] at KB lb
  obtain ⟨d0, hd0⟩ : ∃ d, d = n ^^^ m := ⟨_, rfl⟩
  rw [← hd0] at h0 D0 hlt0
  have HKA := hid KA
  have HKB := hid KB
  have HD0 := hid D0
  obtain ⟨x, hx⟩ : ∃ x, x = max n m := ⟨_, rfl⟩
  rw [← hx] at DE
  have hxi : max (n : Int) (m : Int) = (x : Int) := by omega
  have hx2 : x ≤ 140737488355328 := by omega
  have HDE := hid DE
  have HS := hid (difk_succ a b)
  clear hd0 hn hm KA KB D0 DE ha hb hx
  have tok : Hid True := trivial
  by_cases hnm : n < m
  · obtain rfl : x = m := by omega
    clear hxi
    go_enter Tryd.func21, Tryd.ntmps21
    go_wp2
    go_loop [5, 17] (fun d i => ∃ k q : Nat, k ≤ x ∧ i = .int .i64 k ∧ d = .int .i64 q ∧ q < 2 ^ 63 ∧ Hid (difk a b k = q)) (fun _ i => x - (intOf i).toNat)
    case atStart => exact ⟨0, d0, by omega, rfl, rfl, hlt0, HD0⟩
    case round =>
      clear HD0 h0 hlt0
      obtain ⟨k, q, hk, rfl, rfl, hq, HQ⟩ := hrel
      by_cases hlt : k < x
      · have HX := hid (HS.out k)
        have hxy := b_xor 5 (a.getD k 0) (b.getD k 0)
        obtain ⟨y, hy⟩ : ∃ y, y = a.getD k 0 ^^^ b.getD k 0 := ⟨_, rfl⟩
        have hyl := y.toNat_lt
        have ho := n_or 3 q y.toNat hq (by omega)
        have hol : q ||| y.toNat < 2 ^ 63 := Nat.or_lt_two_pow hq (by omega)
        rw [← hy, HQ.out] at HX
        rw [← hy] at hxy
        obtain ⟨u, hu⟩ : ∃ u, u = a.getD k 0 := ⟨_, rfl⟩
        obtain ⟨v, hv⟩ : ∃ v, v = b.getD k 0 := ⟨_, rfl⟩
        have HU := HKA.out k
        have HV := HKB.out k
        rw [← hu] at hxy HU
        rw [← hv] at hxy HV
        obtain ⟨yn, hyn⟩ : ∃ yn, yn = y.toNat := ⟨_, rfl⟩
        rw [← hyn] at hxy ho hol hyl HX
        obtain ⟨r, hr⟩ : ∃ r, r = q ||| yn := ⟨_, rfl⟩
        rw [← hr] at ho hol HX
        replace HU := hid HU
        replace HV := hid HV
        clear hy hu hv hyn hr hq HQ
        go_wp2_with (first
          | (go_at_call 32; have _t := tok; clear tok _t; refine HU.out.mono ?_; rintro e w' ⟨rfl, hw⟩; rw [hw])
          | (go_at_call 32; refine HV.out.mono ?_; rintro e w' ⟨rfl, hw⟩; rw [hw]))
        go_round
        case rel => exact ⟨k + 1, r, by omega, by go_num, rfl, hol, HX⟩
        case measure => simp [intOf]; omega
      · have HE := hid (HDE.out k (by omega))
        rw [HQ.out] at HE
        go_wp2
        go_ret
        exact ⟨by rw [← HE.out]; rfl, rfl⟩
  · obtain rfl : x = n := by omega
    clear hxi
    go_enter Tryd.func21, Tryd.ntmps21
    go_wp2
    go_loop [5, 17] (fun d i => ∃ k q : Nat, k ≤ x ∧ i = .int .i64 k ∧ d = .int .i64 q ∧ q < 2 ^ 63 ∧ Hid (difk a b k = q)) (fun _ i => x - (intOf i).toNat)
    case atStart => exact ⟨0, d0, by omega, rfl, rfl, hlt0, HD0⟩
    case round =>
      clear HD0 h0 hlt0
      obtain ⟨k, q, hk, rfl, rfl, hq, HQ⟩ := hrel
      by_cases hlt : k < x
      · have HX := hid (HS.out k)
        have hxy := b_xor 5 (a.getD k 0) (b.getD k 0)
        obtain ⟨y, hy⟩ : ∃ y, y = a.getD k 0 ^^^ b.getD k 0 := ⟨_, rfl⟩
        have hyl := y.toNat_lt
        have ho := n_or 3 q y.toNat hq (by omega)
        have hol : q ||| y.toNat < 2 ^ 63 := Nat.or_lt_two_pow hq (by omega)
        rw [← hy, HQ.out] at HX
        rw [← hy] at hxy
        obtain ⟨u, hu⟩ : ∃ u, u = a.getD k 0 := ⟨_, rfl⟩
        obtain ⟨v, hv⟩ : ∃ v, v = b.getD k 0 := ⟨_, rfl⟩
        have HU := HKA.out k
        have HV := HKB.out k
        rw [← hu] at hxy HU
        rw [← hv] at hxy HV
        obtain ⟨yn, hyn⟩ : ∃ yn, yn = y.toNat := ⟨_, rfl⟩
        rw [← hyn] at hxy ho hol hyl HX
        obtain ⟨r, hr⟩ : ∃ r, r = q ||| yn := ⟨_, rfl⟩
        rw [← hr] at ho hol HX
        replace HU := hid HU
        replace HV := hid HV
        clear hy hu hv hyn hr hq HQ
        go_wp2_with (first
          | (go_at_call 32; have _t := tok; clear tok _t; refine HU.out.mono ?_; rintro e w' ⟨rfl, hw⟩; rw [hw])
          | (go_at_call 32; refine HV.out.mono ?_; rintro e w' ⟨rfl, hw⟩; rw [hw]))
        go_round
        case rel => exact ⟨k + 1, r, by omega, by go_num, rfl, hol, HX⟩
        case measure => simp [intOf]; omega
      · have HE := hid (HDE.out k (by omega))
        rw [HQ.out] at HE
        go_wp2
        go_ret
        exact ⟨by rw [← HE.out]; rfl, rfl⟩
end Go.Proofs.YtobehmjmmnmflaaDoor
