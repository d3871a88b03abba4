/-
  Numbers of many bytes, big-endian; the document's Next of layer 5.
  The document's Next of layer 5, walked.
  The program's Next of layer 5, walked.
-/
import Derived.Test.YtnaihcoafgigcaaDoorY1
import Derived.Test.YtnaihcoafgigcaaDoorZ1
import Derived.Test.YtnaihcoafgigcaaDoorZ2
namespace Go.Proofs.YtnaihcoafgigcaaDoor
open Go.RowKit

/-- The counter behind c by n. -/
def nextL (c : List UInt8) (n : Nat) : List UInt8 := toBE 16 (beN c + n)
theorem nextL_length (c : List UInt8) (n : Nat) : (nextL c n).length = 16 := toBE_length _ _
/-- The bytes written back, j of each half. -/
def nxk (c : List UInt8) (H S : Nat) : Nat → List UInt8
  | 0 => c
  | j + 1 => ((nxk c H S j).set (7 - j) (UInt8.ofNat (H / 256 ^ j))).set (15 - j) (UInt8.ofNat (S / 256 ^ j))
theorem nxk_zero (c : List UInt8) (H S : Nat) : nxk c H S 0 = c := rfl
theorem nxk_succ (c : List UInt8) (H S j : Nat) : nxk c H S (j + 1) = ((nxk c H S j).set (7 - j) (UInt8.ofNat (H / 256 ^ j))).set (15 - j) (UInt8.ofNat (S / 256 ^ j)) := rfl
theorem nxk_length (c : List UInt8) (H S j : Nat) : (nxk c H S j).length = c.length := by
  induction j with
  | zero => rfl
  | succ j ih => rw [nxk_succ, List.length_set, List.length_set, ih]
theorem nxk_get (c : List UInt8) (hc : c.length = 16) (H S j : Nat) (hj : j ≤ 8) (i : Nat) :
    (nxk c H S j).getD i 0 = if 7 - i < j ∧ i < 8 then UInt8.ofNat (H / 256 ^ (7 - i)) else if 15 - i < j ∧ 8 ≤ i ∧ i < 16 then UInt8.ofNat (S / 256 ^ (15 - i)) else c.getD i 0 := by
  induction j with
  | zero => rw [nxk_zero, if_neg (by omega), if_neg (by omega)]
  | succ j ih =>
    rw [nxk_succ, set_getD _ _ _ _ (by rw [List.length_set, nxk_length, hc]; omega), set_getD _ _ _ _ (by rw [nxk_length, hc]; omega), ih (by omega)]
    by_cases h1 : 15 - j = i
    · rw [if_pos h1, if_neg (show ¬ (7 - i < j + 1 ∧ i < 8) by omega), if_pos (by omega), show 15 - i = j by omega]
    · rw [if_neg h1]
      by_cases h2 : 7 - j = i
      · rw [if_pos h2, if_pos (by omega), show 7 - i = j by omega]
      · rw [if_neg h2]
        by_cases h3 : 7 - i < j ∧ i < 8
        · rw [if_pos h3, if_pos (by omega)]
        · rw [if_neg h3]
          by_cases h4 : 15 - i < j ∧ 8 ≤ i ∧ i < 16
          · rw [if_pos h4, if_neg (show ¬ (7 - i < j + 1 ∧ i < 8) by omega), if_pos (by omega)]
          · rw [if_neg h4, if_neg (show ¬ (7 - i < j + 1 ∧ i < 8) by omega), if_neg (by omega)]
/-- Both halves written back are the number's bytes. -/
theorem nxk_all (c : List UInt8) (hc : c.length = 16) (H S N : Nat) (hS : S = N % 18446744073709551616) (hH : H = N / 18446744073709551616 % 18446744073709551616) : nxk c H S 8 = toBE 16 N := by
  have hl : (nxk c H S 8).length = (toBE 16 N).length := by rw [nxk_length, hc, toBE_length]
  have hg : ∀ i, i < 16 → (nxk c H S 8).getD i 0 = (toBE 16 N).getD i 0 := by
    intro i hi
    rw [nxk_get c hc H S 8 (by omega), toBE_get 16 N i hi]
    by_cases h8 : i < 8
    · rw [if_pos (by omega)]
      apply ofNat_congr
      subst hH
      rcases (by omega : i = 0 ∨ i = 1 ∨ i = 2 ∨ i = 3 ∨ i = 4 ∨ i = 5 ∨ i = 6 ∨ i = 7) with rfl | rfl | rfl | rfl | rfl | rfl | rfl | rfl <;> simp only [show (256 : Nat) ^ (7 - 0) = 72057594037927936 by rfl, show (256 : Nat) ^ (7 - 1) = 281474976710656 by rfl, show (256 : Nat) ^ (7 - 2) = 1099511627776 by rfl, show (256 : Nat) ^ (7 - 3) = 4294967296 by rfl, show (256 : Nat) ^ (7 - 4) = 16777216 by rfl, show (256 : Nat) ^ (7 - 5) = 65536 by rfl, show (256 : Nat) ^ (7 - 6) = 256 by rfl, show (256 : Nat) ^ (7 - 7) = 1 by rfl,
        show (256 : Nat) ^ (16 - 1 - 0) = 18446744073709551616 * 72057594037927936 by rfl, show (256 : Nat) ^ (16 - 1 - 1) = 18446744073709551616 * 281474976710656 by rfl, show (256 : Nat) ^ (16 - 1 - 2) = 18446744073709551616 * 1099511627776 by rfl, show (256 : Nat) ^ (16 - 1 - 3) = 18446744073709551616 * 4294967296 by rfl, show (256 : Nat) ^ (16 - 1 - 4) = 18446744073709551616 * 16777216 by rfl, show (256 : Nat) ^ (16 - 1 - 5) = 18446744073709551616 * 65536 by rfl, show (256 : Nat) ^ (16 - 1 - 6) = 18446744073709551616 * 256 by rfl, show (256 : Nat) ^ (16 - 1 - 7) = 18446744073709551616 * 1 by rfl, ← Nat.div_div_eq_div_mul] <;> omega
    · rw [if_neg (by omega), if_pos (by omega)]
      apply ofNat_congr
      subst hS
      rcases (by omega : i = 8 ∨ i = 9 ∨ i = 10 ∨ i = 11 ∨ i = 12 ∨ i = 13 ∨ i = 14 ∨ i = 15) with rfl | rfl | rfl | rfl | rfl | rfl | rfl | rfl <;> simp only [show 15 - 8 = 7 by rfl, show 15 - 9 = 6 by rfl, show 15 - 10 = 5 by rfl, show 15 - 11 = 4 by rfl, show 15 - 12 = 3 by rfl, show 15 - 13 = 2 by rfl, show 15 - 14 = 1 by rfl, show 15 - 15 = 0 by rfl,
        show (256 : Nat) ^ 7 = 72057594037927936 by rfl, show (256 : Nat) ^ 6 = 281474976710656 by rfl, show (256 : Nat) ^ 5 = 1099511627776 by rfl, show (256 : Nat) ^ 4 = 4294967296 by rfl, show (256 : Nat) ^ 3 = 16777216 by rfl, show (256 : Nat) ^ 2 = 65536 by rfl, show (256 : Nat) ^ 1 = 256 by rfl, show (256 : Nat) ^ 0 = 1 by rfl] <;> omega
  refine List.ext_getElem hl fun i h1 h2 => ?_
  have := hg i (by rw [toBE_length] at h2; exact h2)
  simpa [List.getD_eq_getElem?_getD, h1, h2] using this
attribute [irreducible] nxk
end Go.Proofs.YtnaihcoafgigcaaDoor

namespace Go.Proofs.YtnaihcoafgigcaaDoor
open Go.RowKit

theorem wrap64 (n : Nat) (h : n < 18446744073709551616) : IntKind.u64.wrap (n : Int) = (n : Int) := by
  simp [IntKind.wrap, IntKind.signed, IntKind.bits]
  omega
theorem wrap64' (n : Nat) : IntKind.u64.wrap (n : Int) = ((n % 18446744073709551616 : Nat) : Int) := by
  simp [IntKind.wrap, IntKind.signed, IntKind.bits]
theorem wrapB (n : Nat) : IntKind.u8.wrap (n : Int) = ((UInt8.ofNat n).toNat : Int) := by
  rw [UInt8.toNat_ofNat']
  simp [IntKind.wrap, IntKind.signed, IntKind.bits]
theorem beN_bound (l : List UInt8) (k : Nat) (hk : k ≤ 8) : beN (l.take k) < 18446744073709551616 := by
  refine Nat.lt_of_lt_of_le (beN_lt _) ?_
  have h1 : (l.take k).length ≤ 8 := by rw [List.length_take]; omega
  exact Nat.pow_le_pow_right (by omega) h1
theorem beN_halves (c : List UInt8) (hc : c.length = 16) : beN c = beN (c.take 8) * 18446744073709551616 + beN ((c.drop 8).take 8) := by
  have h1 : (c.drop 8).take 8 = c.drop 8 := List.take_of_length_le (by simp [hc])
  have h2 := beN_append (c.take 8) (c.drop 8)
  rw [List.take_append_drop] at h2
  rw [h1, h2]
  congr 2
  rw [List.length_drop, hc]
theorem drop_get (c : List UInt8) (k : Nat) : (c.drop 8).getD k 0 = c.getD (8 + k) 0 := by simp [List.getD_eq_getElem?_getD, List.getElem?_drop]
set_option maxRecDepth 100000 in
set_option maxHeartbeats 1000000 in
theorem nextR_any (c : List UInt8) (n : Nat) (w : World) (hc : c.length = 16) (hn : n < 18446744073709551616) :
    Calls Tryd.prog 78 #[.agg (ubs c).toArray, .int .u64 (n : Int)] w fun e w' => e = .returned (.agg (ubs (nextL c n)).toArray) ∧ Below w.heap.size w w' := by
  have H0 := hid (Duo.start w c n16)
  have HL := hid hc
  have HDL := hid (show (c.drop 8).length = 8 by rw [List.length_drop, hc])
  have HZ := hid (size16_of (nextL_length c n))
  have HLN := hid (nextL_length c n)
  have HH := hid (beN_halves c hc)
  have hz := noughts16
  clear hc
  go_enter Tryd.func78, Tryd.ntmps78
  go_wp2
  clear hz
  go_loopw [5, 6, 7] (fun vl vh vi wr => ∃ k h l : Nat, k ≤ 8 ∧ vi = .int .i64 k ∧ vh = .int .u64 h ∧ vl = .int .u64 l ∧ Hid (beN (c.take k) = h) ∧ Hid (beN ((c.drop 8).take k) = l) ∧ Duo w c n16 wr) (fun _ _ vi _ => 8 - (intOf vi).toNat)
  case atStart => exact ⟨0, 0, 0, by omega, rfl, rfl, rfl, by rw [List.take_zero]; exact beN_nil, by rw [List.take_zero]; exact beN_nil, H0.out⟩
  case round =>
    clear H0
    obtain ⟨k, h, l, hk, rfl, rfl, rfl, HHk, HLk, hA⟩ := hrel
    have HA := hid hA
    clear hA
    by_cases hlt : k < 8
    · obtain ⟨m, hm⟩ : ∃ m, m = 8 + k := ⟨_, rfl⟩
      have c0 := at_ub_cell HA.out.a0 (i := k) (by rw [HL.out]; omega)
      have c1 := at_ub_cell HA.out.a0 (i := m) (by rw [HL.out]; omega)
      have b1 := beN_take c k (by rw [HL.out]; omega)
      have b2 := beN_take (c.drop 8) k (by rw [HDL.out]; exact hlt)
      rw [drop_get, ← hm] at b2
      have u1 := beN_bound c (k + 1) (by omega)
      have u2 := beN_bound (c.drop 8) (k + 1) (by omega)
      obtain ⟨x, hx⟩ : ∃ x, x = c.getD k 0 := ⟨_, rfl⟩
      obtain ⟨y, hy⟩ : ∃ x, x = c.getD m 0 := ⟨_, rfl⟩
      rw [← hx] at c0 b1
      rw [← hy] at c1 b2
      rw [HHk.out] at b1
      rw [HLk.out] at b2
      obtain ⟨h1, hh1⟩ : ∃ z, z = h * 256 := ⟨_, rfl⟩
      obtain ⟨l1, hl1⟩ : ∃ z, z = l * 256 := ⟨_, rfl⟩
      obtain ⟨h2, hh2⟩ : ∃ z, z = h1 + x.toNat := ⟨_, rfl⟩
      obtain ⟨l2, hl2⟩ : ∃ z, z = l1 + y.toNat := ⟨_, rfl⟩
      rw [b1, ← hh1, ← hh2] at u1
      rw [b2, ← hl1, ← hl2] at u2
      have B1 := hid (show beN (c.take (k + 1)) = h2 by rw [b1, hh2, hh1])
      have B2 := hid (show beN ((c.drop 8).take (k + 1)) = l2 by rw [b2, hl2, hl1])
      have e1 : (h : Int) * 256 = (h1 : Int) := by omega
      have e2 : (l : Int) * 256 = (l1 : Int) := by omega
      have e3 : (h1 : Int) + (x.toNat : Int) = (h2 : Int) := by omega
      have e4 : (l1 : Int) + (y.toNat : Int) = (l2 : Int) := by omega
      have e5 : 8 + (k : Int) = (m : Int) := by omega
      have w1 := wrap64 h1 (by omega)
      have w2 := wrap64 l1 (by omega)
      have w3 := wrap64 h2 (by omega)
      have w4 := wrap64 l2 (by omega)
      have w5 := wrap64 x.toNat (by have := x.toNat_lt; omega)
      have w6 := wrap64 y.toNat (by have := y.toNat_lt; omega)
      have mi : (m : Int) < 16 := by omega
      have ki : (k : Int) < 16 := by omega
      clear b1 b2 hx hy hh1 hh2 hl1 hl2 hm u1 u2
      go_wp2
      go_roundw
      case rel => exact ⟨k + 1, h2, l2, by omega, by go_num, rfl, rfl, B1, B2, HA.out⟩
      case measure => simp [intOf]; omega
    · obtain rfl : k = 8 := by omega
      have u1 := beN_bound c 8 (by omega)
      have u2 := beN_bound (c.drop 8) 8 (by omega)
      rw [HHk.out] at u1
      rw [HLk.out] at u2
      have hN := HH.out
      rw [HHk.out, HLk.out] at hN
      obtain ⟨S, hS⟩ : ∃ S, S = (l + n) % 18446744073709551616 := ⟨_, rfl⟩
      have ws : IntKind.u64.wrap ((l : Int) + (n : Int)) = (S : Int) := by
        have := wrap64' (l + n)
        rw [← hS] at this
        rw [← this]
        congr 1
      by_cases hcar : 18446744073709551616 ≤ l + n
      · obtain ⟨H, hH⟩ : ∃ H, H = (h + 1) % 18446744073709551616 := ⟨_, rfl⟩
        have wh : IntKind.u64.wrap ((h : Int) + 1) = (H : Int) := by
          have := wrap64' (h + 1)
          rw [← hH] at this
          rw [← this]
          congr 1
        have HAL := hid (show nxk c H S 8 = nextL c n from nxk_all c HL.out H S (beN c + n) (by rw [hN]; omega) (by rw [hN]; omega))
        have HHb := hid (show H < 18446744073709551616 by omega)
        have HSb := hid (show S < 18446744073709551616 by omega)
        have ct : decide ((S : Int) < (l : Int)) = true := by simp; omega
        have ct2 : decide (S < l) = true := by simp; omega
        clear hN hS hH u1 u2 hcar HHk HLk HH HDL
        go_wp2
        go_loopw [5, 6, 8] (fun vl vh vi wr => ∃ j h l : Nat, j ≤ 8 ∧ vi = .int .i64 (7 - (j : Int)) ∧ vh = .int .u64 h ∧ vl = .int .u64 l ∧ Hid (h = H / 256 ^ j) ∧ Hid (l = S / 256 ^ j) ∧ Duo w (nxk c H S j) n16 wr) (fun _ _ vi _ => (intOf vi + 1).toNat)
        case atStart => exact ⟨0, H, S, by omega, rfl, rfl, rfl, hid (by simp), hid (by simp), by rw [nxk_zero]; exact HA.out⟩
        case round =>
          clear HA
          obtain ⟨j, h, l, hj, rfl, rfl, rfl, Hh, Hl, hA⟩ := hrel
          have HA := hid hA
          clear hA
          by_cases hlt : j < 8
          · obtain ⟨a, ha⟩ : ∃ a, a = 7 - j := ⟨_, rfl⟩
            obtain ⟨b, hb⟩ : ∃ b, b = 15 - j := ⟨_, rfl⟩
            have HN := hid (nxk_succ c H S j)
            rw [← ha, ← hb, ← Hh.out, ← Hl.out] at HN
            have hul : (nxk c H S j).length = 16 := by rw [nxk_length, HL.out]
            have c0 := at_ub_cell HA.out.a0 (i := a) (by rw [hul]; omega)
            have f0 := HA.out.a0.frozen a
            have e0 : 7 - (j : Int) = (a : Int) := by omega
            have e1 : 8 + (a : Int) = (b : Int) := by omega
            have ai : (a : Int) < 16 := by omega
            have a0 : 0 ≤ (a : Int) := by omega
            have bi : (b : Int) < 16 := by omega
            have ca : decide (0 ≤ (a : Int)) = true := by simp
            have w1 := wrapB h
            have w2 := wrapB l
            obtain ⟨x, hx⟩ : ∃ x, x = UInt8.ofNat h := ⟨_, rfl⟩
            obtain ⟨y, hy⟩ : ∃ x, x = UInt8.ofNat l := ⟨_, rfl⟩
            rw [← hx] at w1 HN
            rw [← hy] at w2 HN
            obtain ⟨h', hh'⟩ : ∃ z, z = h / 256 := ⟨_, rfl⟩
            obtain ⟨l', hl'⟩ : ∃ z, z = l / 256 := ⟨_, rfl⟩
            have e2 : (h : Int) / 256 = (h' : Int) := by omega
            have e3 : (l : Int) / 256 = (l' : Int) := by omega
            have Hh' := hid (show h' = H / 256 ^ (j + 1) by rw [hh', Hh.out, Nat.div_div_eq_div_mul, Nat.pow_succ])
            have Hl' := hid (show l' = S / 256 ^ (j + 1) by rw [hl', Hl.out, Nat.div_div_eq_div_mul, Nat.pow_succ])
            have HAB := hid (show a = 7 - j from ha)
            have wh' := wrap64 h' (by have h1 := Nat.div_le_self H (256 ^ j); have h2 := Nat.div_le_self h 256; have h3 := HHb.out; have h4 := Hh.out; omega)
            have wl' := wrap64 l' (by have h1 := Nat.div_le_self S (256 ^ j); have h2 := Nat.div_le_self l 256; have h3 := HSb.out; have h4 := Hl.out; omega)
            have hbb : b < 16 := by omega
            obtain ⟨z0, hz0⟩ : ∃ z, z = (nxk c H S j).getD a 0 := ⟨_, rfl⟩
            rw [← hz0] at c0
            clear ha hb hx hy hh' hl' hz0
            rw [e0]
            go_upto_region 14 with (fail)
            have G0 := hid (HA.out.put a x)
            generalize wr.setCell ⟨w.heap.size, a, none⟩ (.int .u8 (x.toNat : Int)) = W1 at G0 ⊢
            have c1 := at_ub_cell G0.out.a0 (i := b) (by rw [List.length_set, hul]; exact hbb)
            have f1 := G0.out.a0.frozen b
            obtain ⟨z1, hz1⟩ : ∃ z, z = ((nxk c H S j).set a x).getD b 0 := ⟨_, rfl⟩
            rw [← hz1] at c1
            clear c0 f0 hz1 hul HA
            go_wp2
            go_roundw
            case rel => exact ⟨j + 1, h', l', by omega, by have := HAB.out; congr 1; omega, rfl, rfl, Hh', Hl', by rw [HN.out]; exact G0.out.put b y⟩
            case measure => first | (simp [intOf]; done) | (have := HAB.out; simp [intOf]; omega)
          · obtain rfl : j = 8 := by omega
            have ha := HA.out
            rw [HAL.out] at ha
            have HA2 := hid (show Duo w (nextL c n) n16 wr from ha)
            clear ha HA
            go_wp2_with (first
              | (refine wpList_load_row rfl _ (.tmp 2) rfl w.heap.size rfl 22 (ubs (nextL c n)).toArray (0, 0) _ HA2.out.a0 Tryd.underlying22 rfl HZ.out ?_)
              | (refine wpList_store_row rfl _ (.tmp 4) (.tmp 55) rfl (w.heap.size + 1) (ubs (nextL c n)).toArray rfl rfl 22 (ubs n16).toArray HA2.out.a1 HZ.out ?e5 (ubs_all _) ?e6; rotate_right))
            case e5 => simp [ubs_length, n16_length, HLN.out]
            refine bodyPost_ret (results_cell_row rfl _ _ (w.heap.size + 1) 22 (ubs (nextL c n)).toArray (0, 0) _ rfl (setRow_heap _ _ _ _ _ _ HA2.out.a1) Tryd.underlying22 rfl HZ.out) rfl ?_
            exact ⟨rfl, below_setRow HA2.out.below (by omega) _⟩
      · have HAL := hid (show nxk c h S 8 = nextL c n from nxk_all c HL.out h S (beN c + n) (by rw [hN]; omega) (by rw [hN]; omega))
        have ct : decide ((S : Int) < (l : Int)) = false := by simp; omega
        have ct2 : decide (S < l) = false := by simp; omega
        obtain ⟨H, hH⟩ : ∃ H, H = h := ⟨_, rfl⟩
        rw [← hH] at HAL ⊢
        have HHb := hid (show H < 18446744073709551616 by omega)
        have HSb := hid (show S < 18446744073709551616 by omega)
        clear hN hS hH u1 u2 hcar HHk HLk HH HDL
        go_wp2
        go_loopw [5, 6, 8] (fun vl vh vi wr => ∃ j h l : Nat, j ≤ 8 ∧ vi = .int .i64 (7 - (j : Int)) ∧ vh = .int .u64 h ∧ vl = .int .u64 l ∧ Hid (h = H / 256 ^ j) ∧ Hid (l = S / 256 ^ j) ∧ Duo w (nxk c H S j) n16 wr) (fun _ _ vi _ => (intOf vi + 1).toNat)
        case atStart => exact ⟨0, H, S, by omega, rfl, rfl, rfl, hid (by simp), hid (by simp), by rw [nxk_zero]; exact HA.out⟩
        case round =>
          clear HA
          obtain ⟨j, h, l, hj, rfl, rfl, rfl, Hh, Hl, hA⟩ := hrel
          have HA := hid hA
          clear hA
          by_cases hlt : j < 8
          · obtain ⟨a, ha⟩ : ∃ a, a = 7 - j := ⟨_, rfl⟩
            obtain ⟨b, hb⟩ : ∃ b, b = 15 - j := ⟨_, rfl⟩
            have HN := hid (nxk_succ c H S j)
            rw [← ha, ← hb, ← Hh.out, ← Hl.out] at HN
            have hul : (nxk c H S j).length = 16 := by rw [nxk_length, HL.out]
            have c0 := at_ub_cell HA.out.a0 (i := a) (by rw [hul]; omega)
            have f0 := HA.out.a0.frozen a
            have e0 : 7 - (j : Int) = (a : Int) := by omega
            have e1 : 8 + (a : Int) = (b : Int) := by omega
            have ai : (a : Int) < 16 := by omega
            have a0 : 0 ≤ (a : Int) := by omega
            have bi : (b : Int) < 16 := by omega
            have ca : decide (0 ≤ (a : Int)) = true := by simp
            have w1 := wrapB h
            have w2 := wrapB l
            obtain ⟨x, hx⟩ : ∃ x, x = UInt8.ofNat h := ⟨_, rfl⟩
            obtain ⟨y, hy⟩ : ∃ x, x = UInt8.ofNat l := ⟨_, rfl⟩
            rw [← hx] at w1 HN
            rw [← hy] at w2 HN
            obtain ⟨h', hh'⟩ : ∃ z, z = h / 256 := ⟨_, rfl⟩
            obtain ⟨l', hl'⟩ : ∃ z, z = l / 256 := ⟨_, rfl⟩
            have e2 : (h : Int) / 256 = (h' : Int) := by omega
            have e3 : (l : Int) / 256 = (l' : Int) := by omega
            have Hh' := hid (show h' = H / 256 ^ (j + 1) by rw [hh', Hh.out, Nat.div_div_eq_div_mul, Nat.pow_succ])
            have Hl' := hid (show l' = S / 256 ^ (j + 1) by rw [hl', Hl.out, Nat.div_div_eq_div_mul, Nat.pow_succ])
            have HAB := hid (show a = 7 - j from ha)
            have wh' := wrap64 h' (by have h1 := Nat.div_le_self H (256 ^ j); have h2 := Nat.div_le_self h 256; have h3 := HHb.out; have h4 := Hh.out; omega)
            have wl' := wrap64 l' (by have h1 := Nat.div_le_self S (256 ^ j); have h2 := Nat.div_le_self l 256; have h3 := HSb.out; have h4 := Hl.out; omega)
            have hbb : b < 16 := by omega
            obtain ⟨z0, hz0⟩ : ∃ z, z = (nxk c H S j).getD a 0 := ⟨_, rfl⟩
            rw [← hz0] at c0
            clear ha hb hx hy hh' hl' hz0
            rw [e0]
            go_upto_region 14 with (fail)
            have G0 := hid (HA.out.put a x)
            generalize wr.setCell ⟨w.heap.size, a, none⟩ (.int .u8 (x.toNat : Int)) = W1 at G0 ⊢
            have c1 := at_ub_cell G0.out.a0 (i := b) (by rw [List.length_set, hul]; exact hbb)
            have f1 := G0.out.a0.frozen b
            obtain ⟨z1, hz1⟩ : ∃ z, z = ((nxk c H S j).set a x).getD b 0 := ⟨_, rfl⟩
            rw [← hz1] at c1
            clear c0 f0 hz1 hul HA
            go_wp2
            go_roundw
            case rel => exact ⟨j + 1, h', l', by omega, by have := HAB.out; congr 1; omega, rfl, rfl, Hh', Hl', by rw [HN.out]; exact G0.out.put b y⟩
            case measure => first | (simp [intOf]; done) | (have := HAB.out; simp [intOf]; omega)
          · obtain rfl : j = 8 := by omega
            have ha := HA.out
            rw [HAL.out] at ha
            have HA2 := hid (show Duo w (nextL c n) n16 wr from ha)
            clear ha HA
            go_wp2_with (first
              | (refine wpList_load_row rfl _ (.tmp 2) rfl w.heap.size rfl 22 (ubs (nextL c n)).toArray (0, 0) _ HA2.out.a0 Tryd.underlying22 rfl HZ.out ?_)
              | (refine wpList_store_row rfl _ (.tmp 4) (.tmp 55) rfl (w.heap.size + 1) (ubs (nextL c n)).toArray rfl rfl 22 (ubs n16).toArray HA2.out.a1 HZ.out ?e7 (ubs_all _) ?e8; rotate_right))
            case e7 => simp [ubs_length, n16_length, HLN.out]
            refine bodyPost_ret (results_cell_row rfl _ _ (w.heap.size + 1) 22 (ubs (nextL c n)).toArray (0, 0) _ rfl (setRow_heap _ _ _ _ _ _ HA2.out.a1) Tryd.underlying22 rfl HZ.out) rfl ?_
            exact ⟨rfl, below_setRow HA2.out.below (by omega) _⟩
end Go.Proofs.YtnaihcoafgigcaaDoor

namespace Go.Proofs.YtnaihcoafgigcaaDoor
open Go.RowKit

/-- What is carried into byte 15 - j; the counter behind so many bytes. -/
def crk (c : List UInt8) (n : Nat) : Nat → Nat
  | 0 => n
  | j + 1 => ((c.getD (15 - j) 0).toNat + crk c n j) / 256
def cur (c : List UInt8) (n : Nat) : Nat → List UInt8
  | 0 => c
  | j + 1 => (cur c n j).set (15 - j) (UInt8.ofNat ((c.getD (15 - j) 0).toNat + crk c n j))
theorem crk_zero (c : List UInt8) (n : Nat) : crk c n 0 = n := rfl
theorem crk_succ (c : List UInt8) (n j : Nat) : crk c n (j + 1) = ((c.getD (15 - j) 0).toNat + crk c n j) / 256 := rfl
theorem cur_zero (c : List UInt8) (n : Nat) : cur c n 0 = c := rfl
theorem cur_succ (c : List UInt8) (n j : Nat) : cur c n (j + 1) = (cur c n j).set (15 - j) (UInt8.ofNat ((c.getD (15 - j) 0).toNat + crk c n j)) := rfl
theorem cur_length (c : List UInt8) (n j : Nat) : (cur c n j).length = c.length := by
  induction j with
  | zero => rfl
  | succ j ih => rw [cur_succ, List.length_set, ih]
theorem crk_lt (c : List UInt8) (n j : Nat) (h : n < 18446744073709551616) : crk c n j < 18446744073709551616 := by
  induction j with
  | zero => exact h
  | succ j ih => rw [crk_succ]; have := (c.getD (15 - j) 0).toNat_lt; omega
theorem drop_beN (c : List UInt8) (hc : c.length = 16) (j : Nat) (hj : j < 16) : beN (c.drop (15 - j)) = (c.getD (15 - j) 0).toNat * 256 ^ j + beN (c.drop (16 - j)) := by
  have h : 15 - j < c.length := by omega
  have e : c.drop (15 - j) = c.getD (15 - j) 0 :: c.drop (16 - j) := by
    rw [List.drop_eq_getElem_cons h, show 15 - j + 1 = 16 - j by omega]
    congr 1
    simp [h]
  rw [e, beN_cons, List.length_drop, hc, show 16 - (16 - j) = j by omega]
theorem crk_eq (c : List UInt8) (hc : c.length = 16) (n j : Nat) (hj : j ≤ 16) : crk c n j = (beN (c.drop (16 - j)) + n) / 256 ^ j := by
  induction j with
  | zero => rw [crk_zero, show (16 - 0) = c.length by omega, List.drop_length, beN_nil]; simp
  | succ j ih =>
    rw [crk_succ, ih (by omega), show 16 - (j + 1) = 15 - j by omega, drop_beN c hc j (by omega), Nat.pow_succ, ← Nat.div_div_eq_div_mul, Nat.add_assoc, Nat.mul_comm, Nat.mul_add_div (Nat.pow_pos (by omega))]
theorem cur_get (c : List UInt8) (hc : c.length = 16) (n j : Nat) (hj : j ≤ 16) (i : Nat) (hi : i < 16) : (cur c n j).getD i 0 = if 15 - i < j then UInt8.ofNat ((c.getD i 0).toNat + crk c n (15 - i)) else c.getD i 0 := by
  induction j with
  | zero => rw [cur_zero, if_neg (by omega)]
  | succ j ih =>
    rw [cur_succ, set_getD _ _ _ _ (by rw [cur_length, hc]; omega), ih (by omega)]
    by_cases h : 15 - j = i
    · rw [if_pos h, if_pos (by omega), h, show 15 - i = j by omega]
    · rw [if_neg h]
      by_cases h2 : 15 - i < j
      · rw [if_pos h2, if_pos (by omega)]
      · rw [if_neg h2, if_neg (by omega)]
theorem cur_all (c : List UInt8) (hc : c.length = 16) (n : Nat) : cur c n 16 = nextL c n := by
  have hl : (cur c n 16).length = (nextL c n).length := by rw [cur_length, hc, nextL_length]
  refine List.ext_getElem hl fun i h1 h2 => ?_
  have hi : i < 16 := by rw [nextL_length] at h2; exact h2
  have hg : (cur c n 16).getD i 0 = (nextL c n).getD i 0 := by
    rw [cur_get c hc n 16 (by omega) i hi, if_pos (by omega), nextL, toBE_get 16 _ i hi, crk_eq c hc n (15 - i) (by omega)]
    apply ofNat_congr
    have h3 := drop_beN c hc (15 - i) (by omega)
    rw [show 15 - (15 - i) = i by omega] at h3
    have h4 : beN c = beN (c.take i) * 256 ^ (16 - i) + beN (c.drop i) := by
      have := beN_append (c.take i) (c.drop i)
      rwa [List.take_append_drop, List.length_drop, hc] at this
    rw [h4, h3, show 16 - 1 - i = 15 - i by omega, show 16 - i = 15 - i + 1 by omega, Nat.pow_succ]
    generalize beN (c.take i) = T
    generalize (c.getD i 0).toNat = x
    generalize beN (c.drop (16 - (15 - i))) = B
    obtain ⟨p, hp⟩ : ∃ p, p = 256 ^ (15 - i) := ⟨_, rfl⟩
    have hp0 : 0 < p := by rw [hp]; exact Nat.pow_pos (by omega)
    rw [← hp, show T * (p * 256) + (x * p + B) + n = p * (T * 256 + x) + (B + n) by rw [Nat.mul_add]; rw [show T * (p * 256) = p * (T * 256) by rw [Nat.mul_left_comm]]; rw [Nat.mul_comm x p]; omega, Nat.mul_add_div hp0]
    omega
  simpa [List.getD_eq_getElem?_getD, h1, h2] using hg
attribute [irreducible] crk cur
theorem q_and (t : TypeId) (q : Nat) (h : q < 18446744073709551616) : binOp .and t (.int .u64 (q : Int)) (.int .u64 255) = pure (.int .u64 ((q % 256 : Nat) : Int)) := by
  simp only [binOp_and, Op.intBits]
  show (pure (.int .u64 (IntKind.u64.wrap ((BitVec.ofInt 64 (q : Int) &&& BitVec.ofInt 64 255).toNat : Int))) : Sem Value) = _
  congr 2
  rw [BitVec.ofInt_natCast, show (BitVec.ofInt 64 255) = BitVec.ofNat 64 255 by rfl, BitVec.toNat_and, BitVec.toNat_ofNat, BitVec.toNat_ofNat, Nat.mod_eq_of_lt (by omega), show 255 % 2 ^ 64 = 2 ^ 8 - 1 by rfl, Nat.and_two_pow_sub_one_eq_mod]
  exact wrap64 _ (by omega)
set_option maxRecDepth 100000 in
set_option maxHeartbeats 1000000 in
theorem pnext_any (c : List UInt8) (n : Nat) (w : World) (hc : c.length = 16) (hn : n < 18446744073709551616) :
    Calls Tryd.prog 74 #[.agg (ubs c).toArray, .int .u64 (n : Int)] w fun e w' => e = .returned (.agg (ubs (nextL c n)).toArray) ∧ Below w.heap.size w w' := by
  have H0 := hid (Duo.start w c n16)
  have HL := hid hc
  have HLN := hid (nextL_length c n)
  have HAL := hid (cur_all c hc n)
  have HLT := hid (fun j => crk_lt c n j hn)
  have hz := noughts16
  clear hc hn
  go_enter Tryd.func74, Tryd.ntmps74
  go_wp2
  clear hz
  go_loopw [1, 5, 6] (fun vn vi _ wr => ∃ j m : Nat, j ≤ 16 ∧ vi = .int .i64 (15 - (j : Int)) ∧ vn = .int .u64 m ∧ Hid (m = crk c n j) ∧ Duo w (cur c n j) n16 wr) (fun _ vi _ _ => (intOf vi + 1).toNat)
  case atStart => exact ⟨0, n, by omega, rfl, rfl, (crk_zero c n).symm, by rw [cur_zero]; exact H0.out⟩
  case round =>
    clear H0
    obtain ⟨j, m, hj, rfl, rfl, HM, hA⟩ := hrel
    have HA := hid hA
    clear hA
    by_cases hlt : j < 16
    · obtain ⟨a, ha⟩ : ∃ a, a = 15 - j := ⟨_, rfl⟩
      have HN := hid (cur_succ c n j)
      have HC := hid (crk_succ c n j)
      have hul : (cur c n j).length = 16 := by rw [cur_length, HL.out]
      have c0 := at_ub_cell HA.out.a0 (i := a) (by rw [hul]; omega)
      have f0 := HA.out.a0.frozen a
      have hx0 : (cur c n j).getD a 0 = c.getD a 0 := by rw [cur_get c HL.out n j (by omega) a (by omega), if_neg (by omega)]
      rw [hx0] at c0
      rw [← ha, ← HM.out] at HN HC
      obtain ⟨x, hx⟩ : ∃ x, x = c.getD a 0 := ⟨_, rfl⟩
      rw [← hx] at c0 HN HC
      obtain ⟨s, hs⟩ : ∃ s, s = x.toNat + m % 256 := ⟨_, rfl⟩
      have hmm := HLT.out j
      rw [← HM.out] at hmm
      have hxl := x.toNat_lt
      have w5 := wrap64 x.toNat (by omega)
      have hand := q_and 24 m hmm
      have ws := wrap64 s (by omega)
      have e1 : (x.toNat : Int) + ((m % 256 : Nat) : Int) = (s : Int) := by omega
      have wb := wrapB s
      obtain ⟨y, hy⟩ : ∃ y, y = UInt8.ofNat (x.toNat + m) := ⟨_, rfl⟩
      have hys : UInt8.ofNat s = y := by rw [hy]; apply ofNat_congr; omega
      rw [hys] at wb
      rw [← hy] at HN
      obtain ⟨m', hm'⟩ : ∃ m', m' = (x.toNat + m) / 256 := ⟨_, rfl⟩
      rw [← hm'] at HC
      have e2 : (m : Int) / 256 + (s : Int) / 256 = (m' : Int) := by omega
      have wm := wrap64 m' (by omega)
      have e0 : 15 - (j : Int) = (a : Int) := by omega
      have ai : (a : Int) < 16 := by omega
      have HAJ := hid (show (a : Int) - 1 = 15 - ((j + 1 : Nat) : Int) by omega)
      have HAB := hid (show a = 15 - j from ha)
      obtain ⟨r, hr⟩ : ∃ r, r = m % 256 := ⟨_, rfl⟩
      rw [← hr] at hand e1
      clear hx0 hul ha hx hs hxl hy hys hm' hr hmm
      rw [e0]
      go_wp2
      go_roundw
      case rel => exact ⟨j + 1, m', by omega, by rw [← HAJ.out], rfl, HC.out.symm, by rw [HN.out]; exact HA.out.put a y⟩
      case measure => first | (simp [intOf]; done) | (have := HAB.out; simp [intOf]; omega)
    · obtain rfl : j = 16 := by omega
      have ha := HA.out
      rw [HAL.out] at ha
      have HA2 := hid ha
      clear ha HA
      go_wp2_with (first
        | (refine wpList_load_row rfl _ (.tmp 2) rfl w.heap.size rfl 22 (ubs (nextL c n)).toArray (0, 0) _ HA2.out.a0 Tryd.underlying22 rfl (size16_of HLN.out) ?_)
        | (refine wpList_store_row rfl _ (.tmp 4) (.tmp 27) rfl (w.heap.size + 1) (ubs (nextL c n)).toArray rfl rfl 22 (ubs n16).toArray HA2.out.a1 (size16_of HLN.out) ?e5 (ubs_all _) ?e6; rotate_right))
      case e5 => simp [ubs_length, n16_length, HLN.out]
      refine bodyPost_ret (results_cell_row rfl _ _ (w.heap.size + 1) 22 (ubs (nextL c n)).toArray (0, 0) _ rfl (setRow_heap _ _ _ _ _ _ HA2.out.a1) Tryd.underlying22 rfl (size16_of HLN.out)) rfl ?_
      exact ⟨rfl, below_setRow HA2.out.below (by omega) _⟩
end Go.Proofs.YtnaihcoafgigcaaDoor
