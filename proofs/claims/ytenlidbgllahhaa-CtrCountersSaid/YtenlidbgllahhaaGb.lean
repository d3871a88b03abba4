/-
  The document's Next of layer 5, walked.
-/
import Derived.Test.YtenlidbgllahhaaGa
import Derived.Test.YtenlidbgllahhaaFb
namespace Go.Proofs.Ytenlidbgllahhaa
open Go.RowKit

theorem wrap64 (n : Nat) (h : n < 18446744073709551616) : IntKind.u64.wrap (n : Int) = (n : Int) := by
  simp [IntKind.wrap, IntKind.signed, IntKind.bits]
  omega
theorem wrap64' (n : Nat) : IntKind.u64.wrap (n : Int) = ((n % 18446744073709551616 : Nat) : Int) := by
  simp [IntKind.wrap, IntKind.signed, IntKind.bits]
theorem wrapB (n : Nat) : IntKind.u8.wrap (n : Int) = ((UInt8.ofNat n).toNat : Int) := by
  rw [UInt8.toNat_ofNat']
  simp [IntKind.wrap, IntKind.signed, IntKind.bits]
theorem beN_bound (l : List UInt8) (k : Nat) (hk : k ≤ 8) : beN (l.take k) < 18446744073709551616 := by
  refine Nat.lt_of_lt_of_le (beN_lt _) ?_
  have h1 : (l.take k).length ≤ 8 := by rw [List.length_take]; omega
  exact Nat.pow_le_pow_right (by omega) h1
theorem beN_halves (c : List UInt8) (hc : c.length = 16) : beN c = beN (c.take 8) * 18446744073709551616 + beN ((c.drop 8).take 8) := by
  have h1 : (c.drop 8).take 8 = c.drop 8 := List.take_of_length_le (by simp [hc])
  have h2 := beN_append (c.take 8) (c.drop 8)
  rw [List.take_append_drop] at h2
  rw [h1, h2]
  congr 2
  rw [List.length_drop, hc]
theorem drop_get (c : List UInt8) (k : Nat) : (c.drop 8).getD k 0 = c.getD (8 + k) 0 := by simp [List.getD_eq_getElem?_getD, List.getElem?_drop]
set_option maxRecDepth 100000 in
set_option maxHeartbeats 1000000 in
theorem nextR_any (c : List UInt8) (n : Nat) (w : World) (hc : c.length = 16) (hn : n < 18446744073709551616) :
    Calls Try.prog 27 #[.agg (ubs c).toArray, .int .u64 (n : Int)] w fun e w' => e = .returned (.agg (ubs (nextL c n)).toArray) ∧ Below w.heap.size w w' := by
  have H0 := hid (Duo.start w c n16)
  have HL := hid hc
  have HDL := hid (show (c.drop 8).length = 8 by rw [List.length_drop, hc])
  have HZ := hid (size16_of (nextL_length c n))
  have HLN := hid (nextL_length c n)
  have HH := hid (beN_halves c hc)
  have hz := noughts16
  clear hc
  go_enter Try.func27, Try.ntmps27
  go_wp2
  clear hz
  go_loopw [5, 6, 7] (fun vl vh vi wr => ∃ k h l : Nat, k ≤ 8 ∧ vi = .int .i64 k ∧ vh = .int .u64 h ∧ vl = .int .u64 l ∧ Hid (beN (c.take k) = h) ∧ Hid (beN ((c.drop 8).take k) = l) ∧ Duo w c n16 wr) (fun _ _ vi _ => 8 - (intOf vi).toNat)
  case atStart => exact ⟨0, 0, 0, by omega, rfl, rfl, rfl, by rw [List.take_zero]; exact beN_nil, by rw [List.take_zero]; exact beN_nil, H0.out⟩
  case round =>
    clear H0
    obtain ⟨k, h, l, hk, rfl, rfl, rfl, HHk, HLk, hA⟩ := hrel
    have HA := hid hA
    clear hA
    by_cases hlt : k < 8
    · obtain ⟨m, hm⟩ : ∃ m, m = 8 + k := ⟨_, rfl⟩
      have c0 := at_ub_cell HA.out.a0 (i := k) (by rw [HL.out]; omega)
      have c1 := at_ub_cell HA.out.a0 (i := m) (by rw [HL.out]; omega)
      have b1 := beN_take c k (by rw [HL.out]; omega)
      have b2 := beN_take (c.drop 8) k (by rw [HDL.out]; exact hlt)
      rw [drop_get, ← hm] at b2
      have u1 := beN_bound c (k + 1) (by omega)
      have u2 := beN_bound (c.drop 8) (k + 1) (by omega)
      obtain ⟨x, hx⟩ : ∃ x, x = c.getD k 0 := ⟨_, rfl⟩
      obtain ⟨y, hy⟩ : ∃ x, x = c.getD m 0 := ⟨_, rfl⟩
      rw [← hx] at c0 b1
      rw [← hy] at c1 b2
      rw [HHk.out] at b1
      rw [HLk.out] at b2
      obtain ⟨h1, hh1⟩ : ∃ z, z = h * 256 := ⟨_, rfl⟩
      obtain ⟨l1, hl1⟩ : ∃ z, z = l * 256 := ⟨_, rfl⟩
      obtain ⟨h2, hh2⟩ : ∃ z, z = h1 + x.toNat := ⟨_, rfl⟩
      obtain ⟨l2, hl2⟩ : ∃ z, z = l1 + y.toNat := ⟨_, rfl⟩
      rw [b1, ← hh1, ← hh2] at u1
      rw [b2, ← hl1, ← hl2] at u2
      have B1 := hid (show beN (c.take (k + 1)) = h2 by rw [b1, hh2, hh1])
      have B2 := hid (show beN ((c.drop 8).take (k + 1)) = l2 by rw [b2, hl2, hl1])
      have e1 : (h : Int) * 256 = (h1 : Int) := by omega
      have e2 : (l : Int) * 256 = (l1 : Int) := by omega
      have e3 : (h1 : Int) + (x.toNat : Int) = (h2 : Int) := by omega
      have e4 : (l1 : Int) + (y.toNat : Int) = (l2 : Int) := by omega
      have e5 : 8 + (k : Int) = (m : Int) := by omega
      have w1 := wrap64 h1 (by omega)
      have w2 := wrap64 l1 (by omega)
      have w3 := wrap64 h2 (by omega)
      have w4 := wrap64 l2 (by omega)
      have w5 := wrap64 x.toNat (by have := x.toNat_lt; omega)
      have w6 := wrap64 y.toNat (by have := y.toNat_lt; omega)
      have mi : (m : Int) < 16 := by omega
      have ki : (k : Int) < 16 := by omega
      clear b1 b2 hx hy hh1 hh2 hl1 hl2 hm u1 u2
      go_wp2
      go_roundw
      case rel => exact ⟨k + 1, h2, l2, by omega, by go_num, rfl, rfl, B1, B2, HA.out⟩
      case measure => simp [intOf]; omega
    · obtain rfl : k = 8 := by omega
      have u1 := beN_bound c 8 (by omega)
      have u2 := beN_bound (c.drop 8) 8 (by omega)
      rw [HHk.out] at u1
      rw [HLk.out] at u2
      have hN := HH.out
      rw [HHk.out, HLk.out] at hN
      obtain ⟨S, hS⟩ : ∃ S, S = (l + n) % 18446744073709551616 := ⟨_, rfl⟩
      have ws : IntKind.u64.wrap ((l : Int) + (n : Int)) = (S : Int) := by
        have := wrap64' (l + n)
        rw [← hS] at this
        rw [← this]
        congr 1
      by_cases hcar : 18446744073709551616 ≤ l + n
      · obtain ⟨H, hH⟩ : ∃ H, H = (h + 1) % 18446744073709551616 := ⟨_, rfl⟩
        have wh : IntKind.u64.wrap ((h : Int) + 1) = (H : Int) := by
          have := wrap64' (h + 1)
          rw [← hH] at this
          rw [← this]
          congr 1
        have HAL := hid (show nxk c H S 8 = nextL c n from nxk_all c HL.out H S (beN c + n) (by rw [hN]; omega) (by rw [hN]; omega))
        have HHb := hid (show H < 18446744073709551616 by omega)
        have HSb := hid (show S < 18446744073709551616 by omega)
        have ct : decide ((S : Int) < (l : Int)) = true := by simp; omega
        have ct2 : decide (S < l) = true := by simp; omega
        clear hN hS hH u1 u2 hcar HHk HLk HH HDL
        go_wp2
        go_loopw [5, 6, 8] (fun vl vh vi wr => ∃ j h l : Nat, j ≤ 8 ∧ vi = .int .i64 (7 - (j : Int)) ∧ vh = .int .u64 h ∧ vl = .int .u64 l ∧ Hid (h = H / 256 ^ j) ∧ Hid (l = S / 256 ^ j) ∧ Duo w (nxk c H S j) n16 wr) (fun _ _ vi _ => (intOf vi + 1).toNat)
        case atStart => exact ⟨0, H, S, by omega, rfl, rfl, rfl, hid (by simp), hid (by simp), by rw [nxk_zero]; exact HA.out⟩
        case round =>
          clear HA
          obtain ⟨j, h, l, hj, rfl, rfl, rfl, Hh, Hl, hA⟩ := hrel
          have HA := hid hA
          clear hA
          by_cases hlt : j < 8
          · obtain ⟨a, ha⟩ : ∃ a, a = 7 - j := ⟨_, rfl⟩
            obtain ⟨b, hb⟩ : ∃ b, b = 15 - j := ⟨_, rfl⟩
            have HN := hid (nxk_succ c H S j)
            rw [← ha, ← hb, ← Hh.out, ← Hl.out] at HN
            have hul : (nxk c H S j).length = 16 := by rw [nxk_length, HL.out]
            have c0 := at_ub_cell HA.out.a0 (i := a) (by rw [hul]; omega)
            have f0 := HA.out.a0.frozen a
            have e0 : 7 - (j : Int) = (a : Int) := by omega
            have e1 : 8 + (a : Int) = (b : Int) := by omega
            have ai : (a : Int) < 16 := by omega
            have a0 : 0 ≤ (a : Int) := by omega
            have bi : (b : Int) < 16 := by omega
            have ca : decide (0 ≤ (a : Int)) = true := by simp
            have w1 := wrapB h
            have w2 := wrapB l
            obtain ⟨x, hx⟩ : ∃ x, x = UInt8.ofNat h := ⟨_, rfl⟩
            obtain ⟨y, hy⟩ : ∃ x, x = UInt8.ofNat l := ⟨_, rfl⟩
            rw [← hx] at w1 HN
            rw [← hy] at w2 HN
            obtain ⟨h', hh'⟩ : ∃ z, z = h / 256 := ⟨_, rfl⟩
            obtain ⟨l', hl'⟩ : ∃ z, z = l / 256 := ⟨_, rfl⟩
            have e2 : (h : Int) / 256 = (h' : Int) := by omega
            have e3 : (l : Int) / 256 = (l' : Int) := by omega
            have Hh' := hid (show h' = H / 256 ^ (j + 1) by rw [hh', Hh.out, Nat.div_div_eq_div_mul, Nat.pow_succ])
            have Hl' := hid (show l' = S / 256 ^ (j + 1) by rw [hl', Hl.out, Nat.div_div_eq_div_mul, Nat.pow_succ])
            have HAB := hid (show a = 7 - j from ha)
            have wh' := wrap64 h' (by have h1 := Nat.div_le_self H (256 ^ j); have h2 := Nat.div_le_self h 256; have h3 := HHb.out; have h4 := Hh.out; omega)
            have wl' := wrap64 l' (by have h1 := Nat.div_le_self S (256 ^ j); have h2 := Nat.div_le_self l 256; have h3 := HSb.out; have h4 := Hl.out; omega)
            have hbb : b < 16 := by omega
            obtain ⟨z0, hz0⟩ : ∃ z, z = (nxk c H S j).getD a 0 := ⟨_, rfl⟩
            rw [← hz0] at c0
            clear ha hb hx hy hh' hl' hz0
            rw [e0]
            go_upto_region 14 with (fail)
            have G0 := hid (HA.out.put a x)
            generalize wr.setCell ⟨w.heap.size, a, none⟩ (.int .u8 (x.toNat : Int)) = W1 at G0 ⊢
            have c1 := at_ub_cell G0.out.a0 (i := b) (by rw [List.length_set, hul]; exact hbb)
            have f1 := G0.out.a0.frozen b
            obtain ⟨z1, hz1⟩ : ∃ z, z = ((nxk c H S j).set a x).getD b 0 := ⟨_, rfl⟩
            rw [← hz1] at c1
            clear c0 f0 hz1 hul HA
            go_wp2
            go_roundw
            case rel => exact ⟨j + 1, h', l', by omega, by have := HAB.out; congr 1; omega, rfl, rfl, Hh', Hl', by rw [HN.out]; exact G0.out.put b y⟩
            case measure => first | (simp [intOf]; done) | (have := HAB.out; simp [intOf]; omega)
          · obtain rfl : j = 8 := by omega
            have ha := HA.out
            rw [HAL.out] at ha
            have HA2 := hid (show Duo w (nextL c n) n16 wr from ha)
            clear ha HA
            go_wp2_with (first
              | (refine wpList_load_row rfl _ (.tmp 2) rfl w.heap.size rfl 26 (ubs (nextL c n)).toArray (0, 0) _ HA2.out.a0 Try.underlying26 rfl HZ.out ?_)
              | (refine wpList_store_row rfl _ (.tmp 4) (.tmp 55) rfl (w.heap.size + 1) (ubs (nextL c n)).toArray rfl rfl 26 (ubs n16).toArray HA2.out.a1 HZ.out ?e5 (ubs_all _) ?e6; rotate_right))
            case e5 => simp [ubs_length, n16_length, HLN.out]
            refine bodyPost_ret (results_cell_row rfl _ _ (w.heap.size + 1) 26 (ubs (nextL c n)).toArray (0, 0) _ rfl (setRow_heap _ _ _ _ _ _ HA2.out.a1) Try.underlying26 rfl HZ.out) rfl ?_
            exact ⟨rfl, below_setRow HA2.out.below (by omega) _⟩
      · have HAL := hid (show nxk c h S 8 = nextL c n from nxk_all c HL.out h S (beN c + n) (by rw [hN]; omega) (by rw [hN]; omega))
        have ct : decide ((S : Int) < (l : Int)) = false := by simp; omega
        have ct2 : decide (S < l) = false := by simp; omega
        obtain ⟨H, hH⟩ : ∃ H, H = h := ⟨_, rfl⟩
        rw [← hH] at HAL ⊢
        have HHb := hid (show H < 18446744073709551616 by omega)
        have HSb := hid (show S < 18446744073709551616 by omega)
        clear hN hS hH u1 u2 hcar HHk HLk HH HDL
        go_wp2
        go_loopw [5, 6, 8] (fun vl vh vi wr => ∃ j h l : Nat, j ≤ 8 ∧ vi = .int .i64 (7 - (j : Int)) ∧ vh = .int .u64 h ∧ vl = .int .u64 l ∧ Hid (h = H / 256 ^ j) ∧ Hid (l = S / 256 ^ j) ∧ Duo w (nxk c H S j) n16 wr) (fun _ _ vi _ => (intOf vi + 1).toNat)
        case atStart => exact ⟨0, H, S, by omega, rfl, rfl, rfl, hid (by simp), hid (by simp), by rw [nxk_zero]; exact HA.out⟩
        case round =>
          clear HA
          obtain ⟨j, h, l, hj, rfl, rfl, rfl, Hh, Hl, hA⟩ := hrel
          have HA := hid hA
          clear hA
          by_cases hlt : j < 8
          · obtain ⟨a, ha⟩ : ∃ a, a = 7 - j := ⟨_, rfl⟩
            obtain ⟨b, hb⟩ : ∃ b, b = 15 - j := ⟨_, rfl⟩
            have HN := hid (nxk_succ c H S j)
            rw [← ha, ← hb, ← Hh.out, ← Hl.out] at HN
            have hul : (nxk c H S j).length = 16 := by rw [nxk_length, HL.out]
            have c0 := at_ub_cell HA.out.a0 (i := a) (by rw [hul]; omega)
            have f0 := HA.out.a0.frozen a
            have e0 : 7 - (j : Int) = (a : Int) := by omega
            have e1 : 8 + (a : Int) = (b : Int) := by omega
            have ai : (a : Int) < 16 := by omega
            have a0 : 0 ≤ (a : Int) := by omega
            have bi : (b : Int) < 16 := by omega
            have ca : decide (0 ≤ (a : Int)) = true := by simp
            have w1 := wrapB h
            have w2 := wrapB l
            obtain ⟨x, hx⟩ : ∃ x, x = UInt8.ofNat h := ⟨_, rfl⟩
            obtain ⟨y, hy⟩ : ∃ x, x = UInt8.ofNat l := ⟨_, rfl⟩
            rw [← hx] at w1 HN
            rw [← hy] at w2 HN
            obtain ⟨h', hh'⟩ : ∃ z, z = h / 256 := ⟨_, rfl⟩
            obtain ⟨l', hl'⟩ : ∃ z, z = l / 256 := ⟨_, rfl⟩
            have e2 : (h : Int) / 256 = (h' : Int) := by omega
            have e3 : (l : Int) / 256 = (l' : Int) := by omega
            have Hh' := hid (show h' = H / 256 ^ (j + 1) by rw [hh', Hh.out, Nat.div_div_eq_div_mul, Nat.pow_succ])
            have Hl' := hid (show l' = S / 256 ^ (j + 1) by rw [hl', Hl.out, Nat.div_div_eq_div_mul, Nat.pow_succ])
            have HAB := hid (show a = 7 - j from ha)
            have wh' := wrap64 h' (by have h1 := Nat.div_le_self H (256 ^ j); have h2 := Nat.div_le_self h 256; have h3 := HHb.out; have h4 := Hh.out; omega)
            have wl' := wrap64 l' (by have h1 := Nat.div_le_self S (256 ^ j); have h2 := Nat.div_le_self l 256; have h3 := HSb.out; have h4 := Hl.out; omega)
            have hbb : b < 16 := by omega
            obtain ⟨z0, hz0⟩ : ∃ z, z = (nxk c H S j).getD a 0 := ⟨_, rfl⟩
            rw [← hz0] at c0
            clear ha hb hx hy hh' hl' hz0
            rw [e0]
            go_upto_region 14 with (fail)
            have G0 := hid (HA.out.put a x)
            generalize wr.setCell ⟨w.heap.size, a, none⟩ (.int .u8 (x.toNat : Int)) = W1 at G0 ⊢
            have c1 := at_ub_cell G0.out.a0 (i := b) (by rw [List.length_set, hul]; exact hbb)
            have f1 := G0.out.a0.frozen b
            obtain ⟨z1, hz1⟩ : ∃ z, z = ((nxk c H S j).set a x).getD b 0 := ⟨_, rfl⟩
            rw [← hz1] at c1
            clear c0 f0 hz1 hul HA
            go_wp2
            go_roundw
            case rel => exact ⟨j + 1, h', l', by omega, by have := HAB.out; congr 1; omega, rfl, rfl, Hh', Hl', by rw [HN.out]; exact G0.out.put b y⟩
            case measure => first | (simp [intOf]; done) | (have := HAB.out; simp [intOf]; omega)
          · obtain rfl : j = 8 := by omega
            have ha := HA.out
            rw [HAL.out] at ha
            have HA2 := hid (show Duo w (nextL c n) n16 wr from ha)
            clear ha HA
            go_wp2_with (first
              | (refine wpList_load_row rfl _ (.tmp 2) rfl w.heap.size rfl 26 (ubs (nextL c n)).toArray (0, 0) _ HA2.out.a0 Try.underlying26 rfl HZ.out ?_)
              | (refine wpList_store_row rfl _ (.tmp 4) (.tmp 55) rfl (w.heap.size + 1) (ubs (nextL c n)).toArray rfl rfl 26 (ubs n16).toArray HA2.out.a1 HZ.out ?e7 (ubs_all _) ?e8; rotate_right))
            case e7 => simp [ubs_length, n16_length, HLN.out]
            refine bodyPost_ret (results_cell_row rfl _ _ (w.heap.size + 1) 26 (ubs (nextL c n)).toArray (0, 0) _ rfl (setRow_heap _ _ _ _ _ _ HA2.out.a1) Try.underlying26 rfl HZ.out) rfl ?_
            exact ⟨rfl, below_setRow HA2.out.below (by omega) _⟩
end Go.Proofs.Ytenlidbgllahhaa
