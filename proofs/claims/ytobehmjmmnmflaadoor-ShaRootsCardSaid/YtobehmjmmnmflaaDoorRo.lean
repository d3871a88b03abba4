/-
  The document's comparison of long numbers, and whether a power is below a root.
-/
import Derived.Test.YtobehmjmmnmflaaDoorTi
namespace Go.Proofs.YtobehmjmmnmflaaDoor
open Go.RowKit

theorem valL_hd (l : List Nat) : valL l = l.getD 0 0 + 65536 * valL l.tail := by
  cases l with
  | nil => simp [valL_nil]
  | cons x xs => rw [valL_cons]; rfl
theorem getD_tail (l : List Nat) (j : Nat) : l.tail.getD j 0 = l.getD (j + 1) 0 := by
  cases l <;> simp
theorem valL_same : ∀ (n : Nat) (a b : List Nat), a.length ≤ n → b.length ≤ n → (∀ j, a.getD j 0 = b.getD j 0) → valL a = valL b
  | 0, a, b, ha, hb, _ => by
    rw [List.eq_nil_of_length_eq_zero (Nat.le_zero.1 ha), List.eq_nil_of_length_eq_zero (Nat.le_zero.1 hb)]
  | n + 1, a, b, ha, hb, h => by
    rw [valL_hd a, valL_hd b, h 0, valL_same n a.tail b.tail (by rw [List.length_tail]; omega) (by rw [List.length_tail]; omega) (fun j => by rw [getD_tail, getD_tail]; exact h (j + 1))]
theorem dig_tail {l : List Nat} (h : ∀ d ∈ l, d < 65536) : ∀ d ∈ l.tail, d < 65536 := fun d hd => h d (List.mem_of_mem_tail hd)
theorem dig_at {l : List Nat} (h : ∀ d ∈ l, d < 65536) (j : Nat) : l.getD j 0 < 65536 := by
  rcases Nat.lt_or_ge j l.length with hj | hj
  · exact h _ (by simp [hj])
  · simp [List.getElem?_eq_none hj]
theorem valL_lt : ∀ (i : Nat) (a b : List Nat), (∀ d ∈ a, d < 65536) → (∀ d ∈ b, d < 65536) → (∀ j, i + 1 ≤ j → a.getD j 0 = b.getD j 0) → a.getD i 0 < b.getD i 0 → valL a < valL b
  | 0, a, b, _, _, h, hl => by
    have ht : valL a.tail = valL b.tail := valL_same (a.length + b.length) _ _ (by rw [List.length_tail]; omega) (by rw [List.length_tail]; omega) (fun j => by rw [getD_tail, getD_tail]; exact h (j + 1) (by omega))
    rw [valL_hd a, valL_hd b, ht]
    omega
  | i + 1, a, b, ha, hb, h, hl => by
    have ht := valL_lt i a.tail b.tail (dig_tail ha) (dig_tail hb) (fun j hj => by rw [getD_tail, getD_tail]; exact h (j + 1) (by omega)) (by rw [getD_tail, getD_tail]; exact hl)
    have h0 := dig_at ha 0
    rw [valL_hd a, valL_hd b]
    omega
theorem less_eq (i : Nat) (a b : List Nat) (ha : ∀ d ∈ a, d < 65536) (hb : ∀ d ∈ b, d < 65536) (h : ∀ j, i + 1 ≤ j → a.getD j 0 = b.getD j 0) (hne : a.getD i 0 ≠ b.getD i 0) : decide (a.getD i 0 < b.getD i 0) = decide (valL a < valL b) := by
  rcases Nat.lt_or_ge (a.getD i 0) (b.getD i 0) with hl | hl
  · rw [decide_eq_true hl, decide_eq_true (valL_lt i a b ha hb h hl)]
  · have := valL_lt i b a hb ha (fun j hj => (h j hj).symm) (by omega)
    rw [decide_eq_false (by omega), decide_eq_false (by omega)]
theorem less_none (a b : List Nat) (h : ∀ j, 0 ≤ j → a.getD j 0 = b.getD j 0) : decide (valL a < valL b) = false := by
  rw [valL_same (a.length + b.length) a b (by omega) (by omega) (fun j => h j (Nat.zero_le _))]
  simp
set_option maxRecDepth 100000 in
set_option maxHeartbeats 1000000 in
theorem less_any (a b : List Nat) (A B : Option Addr) (c d : Nat) (w : World) (ha : Rd w w.heap.size A (u6s a)) (hb : Rd w w.heap.size B (u6s b)) (da : ∀ d ∈ a, d < 65536) (db : ∀ d ∈ b, d < 65536) (la : a.length ≤ 1099511627776000) (lb : b.length ≤ 1099511627776000) :
    Calls Tryd.prog 42 #[.slice A a.length c, .slice B b.length d] w fun e w' => e = .returned (.bool (decide (valL a < valL b))) ∧ w' = w := by
  obtain ⟨n, hn⟩ : ∃ n, n = a.length := ⟨_, rfl⟩
  obtain ⟨m, hm⟩ : ∃ m, m = b.length := ⟨_, rfl⟩
  have HA := hid ha
  have HB := hid hb
  have HN := hid hn
  have HM := hid hm
  have HE := hid (fun i h hne => less_eq i a b da db h hne)
  have HZ := hid (less_none a b)
  have H0 := hid (show ∀ j, n + m + 1 ≤ j → a.getD j 0 = b.getD j 0 from fun j hj => by simp [List.getElem?_eq_none (show a.length ≤ j by omega), List.getElem?_eq_none (show b.length ≤ j by omega)])
  rw [← hn] at la ⊢
  rw [← hm] at lb ⊢
  obtain ⟨r, hr⟩ : ∃ r, r = decide (valL a < valL b) := ⟨_, rfl⟩
  rw [← hr] at HE HZ ⊢
  clear ha hb da db hn hm hr
  go_enter Tryd.func42, Tryd.ntmps42
  go_wp2
  go_loop [5] (fun vi => ∃ k : Nat, k ≤ n + m + 1 ∧ vi = .int .i64 ((k : Int) - 1) ∧ Hid (∀ j, k ≤ j → a.getD j 0 = b.getD j 0)) (fun vi => (intOf vi + 1).toNat)
  case atStart => exact ⟨n + m + 1, by omega, by congr 1; omega, H0⟩
  case round =>
    clear H0
    obtain ⟨k, hk, rfl, HK⟩ := hrel
    by_cases h0 : k = 0
    · subst h0
      have HF := hid (HZ.out HK.out)
      go_wp2
      go_ret
      exact ⟨by rw [HF.out]; rfl, rfl⟩
    · obtain ⟨i, rfl⟩ : ∃ i, k = i + 1 := ⟨k - 1, by omega⟩
      have e1 : (((i + 1 : Nat) : Int) - 1) = (i : Int) := by omega
      rw [e1]
      have HS := hid (fun (h : a.getD i 0 = b.getD i 0) j (hj : i ≤ j) => (by
        rcases Nat.lt_or_ge i j with hl | hl
        · exact HK.out j hl
        · obtain rfl : j = i := by omega
          exact h : a.getD j 0 = b.getD j 0))
      have HL := hid (HE.out i HK.out)
      have hA : i < n → ∃ g o, A = some ⟨g, o, none⟩ ∧ w.cell? ⟨g, o + i, none⟩ = some (.int .u64 ((a.getD i 0 : Nat) : Int)) := fun h => by
        obtain ⟨g, o, e, -, hc⟩ := HA.out.at_ (u6s_at (l := a) (i := i) (by rw [← HN.out]; exact h))
        exact ⟨g, o, e, hc⟩
      have hA0 : ¬ i < n → a.getD i 0 = 0 := fun h => by simp [List.getElem?_eq_none (show a.length ≤ i by rw [← HN.out]; omega)]
      have hB : i < m → ∃ g o, B = some ⟨g, o, none⟩ ∧ w.cell? ⟨g, o + i, none⟩ = some (.int .u64 ((b.getD i 0 : Nat) : Int)) := fun h => by
        obtain ⟨g, o, e, -, hc⟩ := HB.out.at_ (u6s_at (l := b) (i := i) (by rw [← HM.out]; exact h))
        exact ⟨g, o, e, hc⟩
      have hB0 : ¬ i < m → b.getD i 0 = 0 := fun h => by simp [List.getElem?_eq_none (show b.length ≤ i by rw [← HM.out]; omega)]
      obtain ⟨x, hx⟩ : ∃ x, x = a.getD i 0 := ⟨_, rfl⟩
      obtain ⟨y, hy⟩ : ∃ y, y = b.getD i 0 := ⟨_, rfl⟩
      rw [← hx] at hA hA0 HS HL
      rw [← hy] at hB hB0 HS HL
      clear hx hy HA HB HE HZ HN HM HK
      by_cases h1 : i < n
      · obtain ⟨g1, o1, rfl, c1⟩ := hA h1
        clear hA hA0
        by_cases h2 : i < m
        · obtain ⟨g2, o2, rfl, c2⟩ := hB h2
          clear hB hB0
          by_cases hxy : x = y
          · subst hxy
            have HQ := hid (HS.out rfl)
            clear HL HS
            go_wp2
            go_round
            case rel => exact ⟨i, by omega, rfl, HQ⟩
            case measure => simp [intOf] <;> omega
          · have HR := hid (HL.out hxy)
            have hne : ((x : Int) != (y : Int)) = true := by simp; omega
            clear HL HS
            go_wp2
            go_ret
            exact ⟨by rw [← HR.out, show decide ((x : Nat) < (y : Nat)) = decide ((x : Int) < (y : Int)) by simp]; rfl, rfl⟩
        · obtain rfl := hB0 h2
          clear hB hB0
          by_cases hxy : x = 0
          · subst hxy
            have HQ := hid (HS.out rfl)
            clear HL HS
            go_wp2
            go_round
            case rel => exact ⟨i, by omega, rfl, HQ⟩
            case measure => simp [intOf] <;> omega
          · have HR := hid (HL.out hxy)
            have hne : ((x : Int) != (0 : Int)) = true := by simp; omega
            clear HL HS
            go_wp2
            go_ret
            exact ⟨by rw [← HR.out, show decide ((x : Nat) < (0 : Nat)) = decide ((x : Int) < (0 : Int)) by simp]; rfl, rfl⟩
      · obtain rfl := hA0 h1
        clear hA hA0
        by_cases h2 : i < m
        · obtain ⟨g2, o2, rfl, c2⟩ := hB h2
          clear hB hB0
          by_cases hxy : 0 = y
          · subst hxy
            have HQ := hid (HS.out rfl)
            clear HL HS
            go_wp2
            go_round
            case rel => exact ⟨i, by omega, rfl, HQ⟩
            case measure => simp [intOf] <;> omega
          · have HR := hid (HL.out hxy)
            have hne : ((0 : Int) != (y : Int)) = true := by simp; omega
            clear HL HS
            go_wp2
            go_ret
            exact ⟨by rw [← HR.out, show decide ((0 : Nat) < (y : Nat)) = decide ((0 : Int) < (y : Int)) by simp]; rfl, rfl⟩
        · obtain rfl := hB0 h2
          clear hB hB0
          have HQ := hid (HS.out rfl)
          clear HL HS
          go_wp2
          go_round
          case rel => exact ⟨i, by omega, rfl, HQ⟩
          case measure => simp [intOf] <;> omega
/-- A power in the making. -/
structure PwW (w : World) (n : Nat) (l : List Nat) (v k : Nat) (A : Option Addr) (W : World) : Prop where
  len : n = l.length
  rd : Rd W W.heap.size A (u6s l)
  dig : ∀ d ∈ l, d < 65536
  val : valL l = v
  bnd : n ≤ 1 + k * 2199023255552
  below : Below w.heap.size w W
theorem valL_one (d : Nat) : valL [d] = d := by rw [valL_cons, valL_nil]; omega
theorem PwW.start {w W : World} (h : Below w.heap.size w W) (d : Nat) (hd : d < 65536) : PwW w 1 [d] d 0 (some ⟨W.heap.size, 0, none⟩) (W.alloc (.cells #[.int .u64 (d : Int)] 52)) :=
  ⟨rfl, (rd_u6 W d).mono (by simp), fun x hx => by rw [List.mem_singleton.1 hx]; exact hd, valL_one d, by omega, h.alloc h.size _⟩
theorem PwW.keep {w W W' : World} {n : Nat} {l : List Nat} {v k : Nat} {A : Option Addr} (h : PwW w n l v k A W) (hb : Below W.heap.size W W') : PwW w n l v k A W' :=
  ⟨h.len, (h.rd.below hb).mono hb.size, h.dig, h.val, h.bnd, h.below.trans (hb.mono h.below.size)⟩
set_option maxRecDepth 100000 in
set_option maxHeartbeats 2000000 in
theorem root_any (x p q : Nat) (hx : x ≤ 1099511627776) (hp : p < 65536) (hq : q ≤ 3) (w : World) :
    Calls Tryd.prog 28 #[.int .u64 (x : Int), .int .u64 (p : Int), .int .i64 (q : Int)] w fun e w' => e = .returned (.bool (decide (x ^ q ≤ p * 4294967296 ^ q))) ∧ Below w.heap.size w w' := by
  have H1 := hid (PwW.start (Below.refl w.heap.size w) 1 (by omega))
  have HP := hid (fun (W : World) (h : Below w.heap.size w W) => PwW.start h p hp)
  have HT := hid (fun (W : World) (n : Nat) (l : List Nat) (v k : Nat) (A : Option Addr) (c y : Nat) (hy : y ≤ 1099511627776) (hk : k ≤ 3) (h : PwW w n l v k A W) => show Calls Tryd.prog 41 #[.slice A n c, .int .u64 (y : Int)] W (fun e w' => ∃ A' c' n' l', e = .returned (.slice A' n' c') ∧ PwW w n' l' (v * y) (k + 1) A' w' ∧ Below W.heap.size W w') by
    have := times_any l y A c W h.rd h.dig hy (by have := h.bnd; rw [← h.len]; omega)
    rw [← h.len] at this
    refine this.mono ?_
    rintro e w' ⟨v', out, m, rfl, hm, hown, hb, hdg, hv, hmb⟩
    obtain ⟨A', c', rfl, -⟩ := own_form hown
    exact ⟨A', c', m, out, rfl, ⟨hm, Rd.of_own hown, hdg, by rw [hv, h.val], by have := h.bnd; omega, h.below.trans (hb.mono h.below.size)⟩, hb⟩)
  have HL := hid (fun (W : World) (n m : Nat) (l r : List Nat) (v u k j : Nat) (A B : Option Addr) (c d : Nat) (hk : k ≤ 4) (hj : j ≤ 4) (h : PwW w n l v k A W) (g : PwW w m r u j B W) => show Calls Tryd.prog 42 #[.slice A n c, .slice B m d] W (fun e w' => e = .returned (.bool (decide (v < u))) ∧ w' = W) by
    have := less_any l r A B c d W h.rd g.rd h.dig g.dig (by have := h.bnd; rw [← h.len]; omega) (by have := g.bnd; rw [← g.len]; omega)
    rw [← h.len, ← g.len, h.val, g.val] at this
    exact this)
  obtain ⟨res, hres⟩ : ∃ b, b = decide (x ^ q ≤ p * 4294967296 ^ q) := ⟨_, rfl⟩
  have HRes := hid (fun (u s : Nat) (hu : u = x ^ q) (hs : s = p * 4294967296 ^ q) => (by rw [hres, ← hu, ← hs, Bool.eq_iff_iff]; simp : (!decide (s < u)) = res))
  rw [← hres]
  clear hres
  go_enter Tryd.func28, Tryd.ntmps28
  go_wp2
  go_loopw [7, 8] (fun va vi wr => ∃ (k n c : Nat) (l : List Nat) (A : Option Addr), k ≤ q ∧ vi = .int .i64 k ∧ va = .slice A n c ∧ PwW w n l (x ^ k) k A wr) (fun _ vi _ => q - (intOf vi).toNat)
  case atStart => exact ⟨0, 1, 1, _, _, by omega, rfl, rfl, H1.out⟩
  case round =>
    clear H1
    obtain ⟨k, n, c, l, A, hk, rfl, rfl, hW⟩ := hrel
    have HW := hid hW
    clear hW
    by_cases hlt : k < q
    · have hkk := hid (Nat.pow_succ (n := x) (m := k))
      go_wp2_with (go_at_call 41; refine (HT.out wr n l _ k A c x hx (by omega) HW.out).mono ?_; rintro e w2 ⟨A2, c2, n2, l2, rfl, h2, -⟩; have W2 := hid h2; clear h2)
      go_roundw
      case rel => exact ⟨k + 1, n2, c2, l2, A2, by omega, by go_num, rfl, by rw [hkk.out]; exact W2.out⟩
      case measure => simp [intOf]; omega
    · obtain rfl : k = q := by omega
      have HB := hid (HP.out wr HW.out.below)
      have HA := hid (HW.out.keep ((Below.refl wr.heap.size wr).alloc (Nat.le_refl _) (.cells #[.int .u64 (p : Int)] 52)))
      clear HW HP
      go_wp2
      obtain ⟨u, hu⟩ : ∃ u, u = x ^ k := ⟨_, rfl⟩
      rw [← hu] at HA
      have HU := hid hu
      clear hu
      go_loopw [9, 10] (fun va vi w3 => ∃ (j m d : Nat) (r : List Nat) (B : Option Addr), j ≤ k ∧ vi = .int .i64 j ∧ va = .slice B m d ∧ PwW w m r (p * 4294967296 ^ j) j B w3 ∧ PwW w n l u k A w3) (fun _ vi _ => k - (intOf vi).toNat)
      case atStart => exact ⟨0, 1, 1, _, _, by omega, rfl, rfl, by rw [Nat.pow_zero, Nat.mul_one]; exact HB.out, HA.out⟩
      case round =>
        clear HA HB
        obtain ⟨j, m, d, r, B, hj, rfl, rfl, hW, hA⟩ := hrel
        have HW := hid hW
        have HA := hid hA
        clear hW hA
        by_cases hlt2 : j < k
        · have hkk := hid (show p * 4294967296 ^ (j + 1) = p * 4294967296 ^ j * 4294967296 by rw [Nat.pow_succ, Nat.mul_assoc])
          go_wp2_with (go_at_call 41; refine (HT.out _ m r _ j B d 4294967296 (by omega) (by omega) HW.out).mono ?_; rintro e w2 ⟨A2, c2, n2, l2, rfl, h2, hb2⟩; have W2 := hid h2; have K2 := hid (HA.out.keep hb2); clear h2 hb2)
          go_roundw
          case rel => exact ⟨j + 1, n2, c2, l2, A2, by omega, by go_num, rfl, by rw [hkk.out]; exact W2.out, K2.out⟩
          case measure => simp [intOf]; omega
        · obtain rfl : j = k := by omega
          obtain ⟨s, hs⟩ : ∃ s, s = p * 4294967296 ^ j := ⟨_, rfl⟩
          rw [← hs] at HW
          have HR := hid (HRes.out u s HU.out hs)
          clear hs
          go_wp2_with (go_at_call 42; refine (HL.out _ m n r l s u j j B A d c (by omega) (by omega) HW.out HA.out).mono ?_; rintro e w2 ⟨rfl, hw2⟩; rw [hw2])
          go_ret
          refine ⟨?_, HW.out.below⟩
          rw [← HR.out]
          rfl
end Go.Proofs.YtobehmjmmnmflaaDoor
