/-
  The document's padding, walked.
-/
import Derived.Test.YtjfpdbhjbleffaaDoorCm
import Derived.Test.YtjfpdbhjbleffaaDoorPw
namespace Go.Proofs.YtjfpdbhjbleffaaDoor
open Go.RowKit

theorem take_be8 (m k : Nat) (h : k < 8) : (be8 m).take (k + 1) = (be8 m).take k ++ [UInt8.ofNat (m >>> (8 * (7 - k)))] := by
  have hg := be8_get m (7 - k) (by omega)
  rw [show 7 - (7 - k) = k by omega] at hg
  obtain ⟨hlt, hge⟩ := List.getElem?_eq_some_iff.1 hg
  rw [List.take_succ_eq_append_getElem hlt, hge]
theorem shr_byte' (m j : Nat) : ((m : Int) / 2 ^ j) % 256 = ((UInt8.ofNat (m >>> j)).toNat : Int) := shr_byte m j
/-- The text with its 128 and k noughts; with k bytes of its length. -/
def pa (bs : List UInt8) (k : Nat) : List UInt8 := bs ++ 128 :: List.replicate k 0
def pb (bs : List UInt8) (k : Nat) : List UInt8 := pa bs (nought bs.length) ++ (be8 (8 * bs.length)).take k
theorem pa_zero (bs : List UInt8) : pa bs 0 = bs ++ [128] := rfl
theorem pa_succ (bs : List UInt8) (k : Nat) : pa bs (k + 1) = pa bs k ++ [0] := by simp [pa, List.replicate_succ']
theorem pa_length (bs : List UInt8) (k : Nat) : (pa bs k).length = bs.length + 1 + k := by simp [pa]; omega
theorem pb_zero (bs : List UInt8) : pb bs 0 = pa bs (nought bs.length) := by simp [pb]
theorem pb_succ (bs : List UInt8) (k : Nat) (h : k < 8) : pb bs (k + 1) = pb bs k ++ [UInt8.ofNat ((8 * bs.length) >>> (8 * (7 - k)))] := by
  unfold pb
  rw [take_be8 _ _ h, List.append_assoc]
theorem pb_length (bs : List UInt8) (k : Nat) (h : k ≤ 8) : (pb bs k).length = bs.length + 1 + nought bs.length + k := by
  unfold pb
  rw [List.length_append, pa_length, List.length_take, be8_length]
  omega
theorem pb_all (bs : List UInt8) : pb bs 8 = padL bs := by
  unfold pb pa padL
  rw [List.take_of_length_le (by rw [be8_length]; omega)]
  simp
attribute [irreducible] pa pb
set_option maxRecDepth 100000 in
set_option maxHeartbeats 4000000 in
theorem padR_any (bs : List UInt8) (A : Option Addr) (c : Nat) (w : World) (hr : Rb w w.heap.size A bs) (hlen : bs.length ≤ 140737488351232) :
    Calls Tryd.prog 33 #[.slice A bs.length c] w fun e w' => ∃ v n, e = .returned v ∧ Own1 w n (padL bs) v w' := by
  obtain ⟨i0, hi, hz0, hz1, hz2⟩ := info_parts infoB
  obtain ⟨L, hL⟩ : ∃ L, L = bs.length := ⟨_, rfl⟩
  have HL := hid hL
  have ho0 : Own1 w 0 [] (.slice (some ⟨w.heap.size, 0, none⟩) 0 0) (w.alloc (.cells #[] 5)) :=
    ⟨rfl, by have := World.ownsRow_made (base := w.heap.size) (e := 5) (size := 1) w #[] 0 (by omega) (by simp [maxLen]) rfl; simpa [ubs] using this, (Below.refl _ _).alloc (Nat.le_refl _) _⟩
  have HO := hid ho0
  have HR := hid (hr.alloc (.cells #[] 5))
  have hnn : (119 - (L : Int) % 64) % 64 = (nought L : Int) := by unfold nought; omega
  have hnb : nought L < 64 := by unfold nought; omega
  rw [← hL] at hlen ⊢
  clear hr hL ho0
  go_enter Tryd.func33, Tryd.ntmps33
  go_wp2_with (first
    | (at_builtin; refine wpList_append_rd rfl (.tmp 13) (.tmp 14) _ rfl w.heap.size 5 i0 (.int .u8 0) 1 Tryd.underlying41 hi hz0 hz1 hz2 rfl (.slice (some ⟨w.heap.size, 0, none⟩) 0 0) 0 (ubs []) rfl HO.out.own w.heap.size A L c (ubs bs) rfl (by rw [ubs_length, HL.out]) HR.out (ubs_one _) (by unfold maxLen; omega) (by omega) (by simp) ?_; intro v1 w1 hown hgr _; replace hown := hid (HO.out.more hown HL.out hgr); clear hgr; rw [List.nil_append, Nat.zero_add] at hown; obtain ⟨A1, c1, rfl, -⟩ := own_form hown.out.own)
    | (at_builtin; refine wpList_append_rd rfl (.tmp 16) (.tmp 17) _ rfl w.heap.size 5 i0 (.int .u8 0) 1 Tryd.underlying41 hi hz0 hz1 hz2 rfl (.slice A1 L c1) L (ubs bs) rfl (hown.out.own.alloc _) (w1.heap.size + 1) (some ⟨w1.heap.size, 0, none⟩) 1 1 (ubs [128]) rfl rfl (rb_one w1 128) (ubs_one _) (by unfold maxLen; omega) (by omega) (by have := hown.out.below.size; simp; omega) ?_; intro v2 w2 hown2 hgr2 _; replace hown2 := hid (hown.out.next hown2 hgr2); clear hgr2; obtain ⟨A2, c2, rfl, -⟩ := own_form hown2.out.own; rw [← pa_zero] at hown2))
  go_loopw [4, 5] (fun v i wr => ∃ (k m : Nat) (A3 : Option Addr) (c3 : Nat), k ≤ nought L ∧ i = .int .i64 k ∧ v = .slice A3 m c3 ∧ m = L + 1 + k ∧ Own1 w m (pa bs k) v wr) (fun _ i _ => (nought L) - (intOf i).toNat)
  case atStart => exact ⟨0, L + 1, A2, c2, by omega, rfl, rfl, by omega, hown2.out⟩
  case round =>
    clear hown hown2 HO HR
    obtain ⟨k, m, A3, c3, hk, rfl, rfl, hm, hO⟩ := hrel
    have HM := hid hm
    have hm1 : m ≤ 140737488351400 := by omega
    have HO := hid hO
    clear hm hO
    by_cases hlt : k < nought L
    · go_wp2_with (at_builtin; refine wpList_append_rd rfl (.tmp 24) (.tmp 25) _ rfl w.heap.size 5 i0 (.int .u8 0) 1 Tryd.underlying41 hi hz0 hz1 hz2 rfl (.slice A3 m c3) m (ubs (pa bs k)) rfl (HO.out.own.alloc _) (wr.heap.size + 1) (some ⟨wr.heap.size, 0, none⟩) 1 1 (ubs [0]) rfl rfl (rb_one wr 0) (ubs_one _) (by unfold maxLen; omega) (by omega) (by have := HO.out.below.size; simp; omega) ?_; intro v4 w4 hown4 hgr4 _; replace hown4 := hid (HO.out.next hown4 hgr4); clear hgr4; obtain ⟨A4, c4, rfl, -⟩ := own_form hown4.out.own; rw [← pa_succ] at hown4)
      go_roundw
      case rel => exact ⟨k + 1, m + 1, A4, c4, by omega, by go_num, rfl, by have := HM.out; omega, hown4.out⟩
      case measure => simp [intOf]; omega
    · obtain rfl : k = nought L := by omega
      have hE : Own1 w m (pb bs 0) (.slice A3 m c3) wr := by
        rw [pb_zero, ← HL.out]
        exact HO.out
      have HE := hid hE
      clear hE HO
      go_wp2
      go_loopw [4, 7] (fun v i wr => ∃ (k m : Nat) (A3 : Option Addr) (c3 : Nat), k ≤ 8 ∧ i = .int .i64 (7 - k) ∧ v = .slice A3 m c3 ∧ m = L + 1 + nought L + k ∧ Own1 w m (pb bs k) v wr) (fun _ i _ => (intOf i + 1).toNat)
      case atStart => exact ⟨0, m, A3, c3, by omega, rfl, rfl, by have := HM.out; omega, HE.out⟩
      case round =>
        clear HE HM hm1 hlt hk
        obtain ⟨k, m, A3, c3, hk, rfl, rfl, hm, hO⟩ := hrel
        have HM := hid hm
        have hm1 : m ≤ 140737488351400 := by omega
        have HO := hid hO
        clear hm hO
        by_cases hlt : k < 8
        · have HP := hid (pb_succ bs k hlt)
          have hy : (L : Int) * 8 / 2 ^ (8 * (7 - k)) % 256 = ((UInt8.ofNat ((8 * bs.length) >>> (8 * (7 - k)))).toNat : Int) := by rw [← HL.out, ← shr_byte, show ((8 * L : Nat) : Int) = (L : Int) * 8 by omega]
          obtain ⟨bb, hbb⟩ : ∃ b, b = UInt8.ofNat ((8 * bs.length) >>> (8 * (7 - k))) := ⟨_, rfl⟩
          rw [← hbb] at HP hy
          clear hbb
          go_wp2_with (at_builtin; refine wpList_append_rd rfl (.tmp 35) (.tmp 42) _ rfl w.heap.size 5 i0 (.int .u8 0) 1 Tryd.underlying41 hi hz0 hz1 hz2 rfl (.slice A3 m c3) m (ubs (pb bs k)) rfl (HO.out.own.alloc _) (wr.heap.size + 1) (some ⟨wr.heap.size, 0, none⟩) 1 1 (ubs [bb]) rfl rfl (rb_one wr bb) (ubs_one _) (by unfold maxLen; omega) (by omega) (by have := HO.out.below.size; simp; omega) ?_; intro v4 w4 hown4 hgr4 _; replace hown4 := hid (HO.out.next hown4 hgr4); clear hgr4; obtain ⟨A4, c4, rfl, -⟩ := own_form hown4.out.own)
          go_roundw
          case rel => exact ⟨k + 1, m + 1, A4, c4, by omega, by rw [show (7 : Int) - ((k + 1 : Nat) : Int) = 7 - k - 1 by omega], rfl, by have := HM.out; omega, by rw [HP.out]; exact hown4.out⟩
          case measure => simp [intOf]; omega
        · obtain rfl : k = 8 := by omega
          have HQ := hid (pb_all bs)
          go_wp2
          go_ret
          refine ⟨_, m, rfl, ?_⟩
          rw [← HQ.out]
          exact HO.out
end Go.Proofs.YtjfpdbhjbleffaaDoor
