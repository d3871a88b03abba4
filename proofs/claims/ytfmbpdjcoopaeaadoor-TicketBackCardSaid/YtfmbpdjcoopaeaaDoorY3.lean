/-
  The program's padded text.
  The program's padding, walked.
  The document's padding, walked.
  What both sums share: a hash as it is written byte by byte; laws for regions of open order that load whole rows.
-/
import Derived.Test.YtfmbpdjcoopaeaaDoorY2
import Derived.Test.YtfmbpdjcoopaeaaDoorY1
import Derived.StillTailTactics
import Derived.BigQuiet
namespace Go.Proofs.YtfmbpdjcoopaeaaDoor
open Go.RowKit

/-- The padded text, i bytes of its length written, the lowest first. -/
def pd (bs : List UInt8) (i : Nat) : List UInt8 := (bs ++ 128 :: List.replicate (nought bs.length) 0) ++ (List.replicate (8 - i) 0 ++ (be8 (8 * bs.length)).drop (8 - i))
theorem pd_all (bs : List UInt8) : pd bs 8 = padL bs := by
  unfold padL
  simp [pd]
theorem pd_length (bs : List UInt8) (i : Nat) (_h : i ≤ 8) : (pd bs i).length = (padL bs).length := by
  unfold padL
  simp [pd, be8_length]
  try omega
theorem be8_get (m i : Nat) (h : i < 8) : (be8 m)[7 - i]? = some (UInt8.ofNat (m >>> (8 * i))) := by
  simp only [be8, List.getElem?_map]
  rw [List.getElem?_range (by omega)]
  simp only [Option.map_some]
  rw [show 7 - (7 - i) = i by omega]
theorem pd_step (bs : List UInt8) (i : Nat) (h : i < 8) : pd bs (i + 1) = (pd bs i).set ((padL bs).length - 1 - i) (UInt8.ofNat ((8 * bs.length) >>> (8 * i))) := by
  have hl : (padL bs).length - 1 - i = (bs ++ 128 :: List.replicate (nought bs.length) 0).length + (7 - i) := by
    unfold padL
    simp [be8_length]
    omega
  have hg := be8_get (8 * bs.length) i h
  rw [hl]
  unfold pd
  rw [List.set_append_right _ _ (by omega), Nat.add_sub_cancel_left]
  congr 1
  rw [List.set_append_left _ _ (by simp; omega)]
  have e1 : (List.replicate (8 - i) (0 : UInt8)).set (7 - i) (UInt8.ofNat ((8 * bs.length) >>> (8 * i))) = List.replicate (8 - (i + 1)) 0 ++ [UInt8.ofNat ((8 * bs.length) >>> (8 * i))] := by
    rw [show 8 - i = (7 - i) + 1 by omega, List.replicate_succ', List.set_append_right _ _ (by simp)]
    simp [show 8 - (i + 1) = 7 - i by omega]
  rw [e1, List.append_assoc, List.singleton_append]
  congr 1
  obtain ⟨hlt, hge⟩ := List.getElem?_eq_some_iff.1 hg
  rw [show 8 - (i + 1) = 7 - i by omega, show 8 - i = 7 - i + 1 by omega, List.drop_eq_getElem_cons hlt, hge]
theorem pd_start (bs : List UInt8) : (splice (ubs (List.replicate (padL bs).length 0)) 0 (ubs bs)) = ubs (bs ++ 0 :: List.replicate ((padL bs).length - bs.length - 1) 0) := by
  have h := padL_length bs
  simp only [splice, List.take_zero, List.nil_append, ubs_length, Nat.zero_add, ubs_drop, ← ubs_append, List.drop_replicate]
  rw [← List.replicate_succ, show (padL bs).length - bs.length - 1 + 1 = (padL bs).length - bs.length by omega]
theorem pd_zero (bs : List UInt8) : (bs ++ 0 :: List.replicate ((padL bs).length - bs.length - 1) 0).set bs.length 128 = pd bs 0 := by
  have hn : (padL bs).length - bs.length - 1 = nought bs.length + 8 := by unfold padL; simp [be8_length]
  rw [List.set_append_right _ _ (by omega), Nat.sub_self, List.set_cons_zero, hn]
  have h8 : (be8 (8 * bs.length)).drop 8 = [] := List.drop_eq_nil_of_le (by rw [be8_length]; exact Nat.le_refl _)
  unfold pd
  rw [Nat.sub_zero, h8, List.append_nil, List.append_assoc, List.cons_append, List.replicate_append_replicate]
theorem shr_byte (m j : Nat) : ((m : Int) / 2 ^ j) % 256 = ((UInt8.ofNat (m >>> j)).toNat : Int) := by
  have e : (UInt8.ofNat (m >>> j)).toNat = m / 2 ^ j % 256 := by rw [UInt8.toNat_ofNat', Nat.shiftRight_eq_div_pow]
  rw [e, Int.natCast_emod, Int.natCast_ediv, Int.natCast_pow]
  rfl
end Go.Proofs.YtfmbpdjcoopaeaaDoor

namespace Go.Proofs.YtfmbpdjcoopaeaaDoor
open Go.RowKit

set_option maxRecDepth 100000 in
set_option maxHeartbeats 4000000 in
theorem pad_any (bs : List UInt8) (A : Option Addr) (c : Nat) (w : World) (hr : Rb w w.heap.size A bs) (hlen : bs.length ≤ 140737488351232) :
    Calls Tryd.prog 201 #[.slice A bs.length c] w fun e w' => ∃ g n, e = .returned (.slice (some ⟨g, 0, none⟩) n n) ∧ n = (padL bs).length ∧ At w' g (ubs (padL bs)).toArray 5 ∧ w.heap.size ≤ g ∧ Below w.heap.size w w' := by
  obtain ⟨n, hn⟩ : ∃ n, n = (padL bs).length := ⟨_, rfl⟩
  obtain ⟨L, hL⟩ : ∃ L, L = bs.length := ⟨_, rfl⟩
  have hnL := padL_length bs
  rw [← hn, ← hL] at hnL
  have hmk := run_makeB n (by omega)
  have hm : ((L : Int) + 8) / 64 * 64 + 64 = (n : Int) := by omega
  have hat0 : At (w.alloc (.cells (ubs (List.replicate n 0)).toArray 5)) w.heap.size (ubs (List.replicate n 0)).toArray 5 := At.new _ _ _
  have HR := hid (hr.alloc (.cells (ubs (List.replicate n 0)).toArray 5))
  have HA := hid hat0
  have HX := hid (fun (w1 : World) (h1 : At w1 w.heap.size (splice (ubs (List.replicate n 0)) 0 ((ubs bs).take n)).toArray 5) => by
    rw [List.take_of_length_le (by rw [ubs_length]; omega), hn, pd_start] at h1
    exact h1)
  have HS := hid (pd_zero bs)
  have HN := hid hn
  have HL := hid hL
  have HNL := hid hnL
  have HF := hid (fun (w1 : World) (h : Fr (fun k => k = w.heap.size) (w.alloc (.cells (ubs (List.replicate n 0)).toArray 5)) w1) => (((Fr.refl (fun _ => False) w).alloc _).next h (fun k hk he => by omega)).below (B := w.heap.size) (fun _ h => h.elim) (Nat.le_refl _))
  have l1 : L + 9 ≤ n := by omega
  have l2 : n ≤ 140737488351400 := by omega
  have HLn := hid (show (bs ++ 0 :: List.replicate ((padL bs).length - bs.length - 1) 0).length = n by simp; omega)
  rw [← hL] at hlen ⊢
  clear hr hn hL hnL hat0
  go_enter Tryd.func201, Tryd.ntmps201
  go_wp2_with (refine wpList_copy_rd rfl (.tmp 12) (.tmp 13) _ _ rfl 5 Tryd.underlying22 sizeU8 w.heap.size 0 n n w.heap.size A L c rfl rfl (ubs (List.replicate n 0)) 5 HA.out (ubs bs) HR.out ?c1 ?c2 (ubs_one _) ?c3; rotate_right; intro w1 hg1 hf1; replace hg1 := hid (HX.out w1 hg1); replace hf1 := hid (HF.out w1 hf1); have cL := at_ub_cell hg1.out (i := L) (by rw [HLn.out]; omega); have fL := hg1.out.frozen L)
  case c1 => rw [ubs_length, ← HL.out]
  case c2 => simp [ubs_length]; omega
  clear cL fL hm hmk
  go_loopw [19] (fun i wr => ∃ k : Nat, k ≤ 8 ∧ i = .int .i64 k ∧ At wr w.heap.size (ubs (pd bs k)).toArray 5 ∧ Below w.heap.size w wr) (fun i _ => 8 - (intOf i).toNat)
  case atStart =>
    refine ⟨0, by omega, rfl, ?_, hf1.out.setCell (by simp) _⟩
    have := at_ub_put hg1.out L 128
    rw [HL.out, HS.out] at this
    rw [HL.out]
    exact this
  case round =>
    clear HX HF hg1 hf1 HA HR HLn HS
    obtain ⟨k, hk, rfl, hA, hB⟩ := hrel
    have HA := hid hA
    have HB := hid hB
    clear hA hB
    by_cases hlt : k < 8
    · have cL := at_ub_cell HA.out (i := n - 1 - k) (by rw [pd_length _ _ hk, ← HN.out]; omega)
      have fL := HA.out.frozen (n - 1 - k)
      have HP := hid (pd_step bs k hlt)
      go_wp2
      go_roundw
      case rel =>
        refine ⟨k + 1, by omega, by go_num, ?_, HB.out.setCell (by simp) _⟩
        have h8 : ((8 * L : Nat) : Int) = 8 * (L : Int) := by omega
        rw [← h8, shr_byte, HL.out, HP.out, HN.out]
        exact at_ub_put HA.out _ _
      case measure => simp [intOf]; omega
    · obtain rfl : k = 8 := by omega
      have HE := hid (pd_all bs)
      go_wp2
      go_ret
      refine ⟨w.heap.size, n, rfl, HN.out, ?_, Nat.le_refl _, HB.out⟩
      have := HA.out
      rw [HE.out] at this
      exact this
end Go.Proofs.YtfmbpdjcoopaeaaDoor

namespace Go.Proofs.YtfmbpdjcoopaeaaDoor
open Go.RowKit

theorem take_be8 (m k : Nat) (h : k < 8) : (be8 m).take (k + 1) = (be8 m).take k ++ [UInt8.ofNat (m >>> (8 * (7 - k)))] := by
  have hg := be8_get m (7 - k) (by omega)
  rw [show 7 - (7 - k) = k by omega] at hg
  obtain ⟨hlt, hge⟩ := List.getElem?_eq_some_iff.1 hg
  rw [List.take_succ_eq_append_getElem hlt, hge]
/-- The text with its 128 and k noughts; with k bytes of its length. -/
def pa (bs : List UInt8) (k : Nat) : List UInt8 := bs ++ 128 :: List.replicate k 0
def pb (bs : List UInt8) (k : Nat) : List UInt8 := pa bs (nought bs.length) ++ (be8 (8 * bs.length)).take k
theorem pa_zero (bs : List UInt8) : pa bs 0 = bs ++ [128] := rfl
theorem pa_succ (bs : List UInt8) (k : Nat) : pa bs (k + 1) = pa bs k ++ [0] := by simp [pa, List.replicate_succ']
theorem pb_zero (bs : List UInt8) : pb bs 0 = pa bs (nought bs.length) := by simp [pb]
theorem pb_succ (bs : List UInt8) (k : Nat) (h : k < 8) : pb bs (k + 1) = pb bs k ++ [UInt8.ofNat ((8 * bs.length) >>> (8 * (7 - k)))] := by
  unfold pb
  rw [take_be8 _ _ h, List.append_assoc]
theorem pb_all (bs : List UInt8) : pb bs 8 = padL bs := by
  unfold pb pa padL
  rw [List.take_of_length_le (by rw [be8_length]; omega)]
  simp
attribute [irreducible] pa pb
set_option maxRecDepth 100000 in
set_option maxHeartbeats 4000000 in
theorem padR_any (bs : List UInt8) (A : Option Addr) (c : Nat) (w : World) (hr : Rb w w.heap.size A bs) (hlen : bs.length ≤ 140737488351232) :
    Calls Tryd.prog 138 #[.slice A bs.length c] w fun e w' => ∃ v n, e = .returned v ∧ Own1 w n (padL bs) v w' := by
  obtain ⟨i0, hi, hz0, hz1, hz2⟩ := info_parts infoB
  obtain ⟨L, hL⟩ : ∃ L, L = bs.length := ⟨_, rfl⟩
  have HL := hid hL
  have ho0 : Own1 w 0 [] (.slice (some ⟨w.heap.size, 0, none⟩) 0 0) (w.alloc (.cells #[] 5)) :=
    ⟨rfl, by have := World.ownsRow_made (base := w.heap.size) (e := 5) (size := 1) w #[] 0 (by omega) (by simp [maxLen]) rfl; simpa [ubs] using this, (Below.refl _ _).alloc (Nat.le_refl _) _⟩
  have HO := hid ho0
  have HR := hid (hr.alloc (.cells #[] 5))
  have hnn : (119 - (L : Int) % 64) % 64 = (nought L : Int) := by unfold nought; omega
  have hnb : nought L < 64 := by unfold nought; omega
  rw [← hL] at hlen ⊢
  clear hr hL ho0
  go_enter Tryd.func138, Tryd.ntmps138
  go_wp2_with (first
    | (at_builtin; refine wpList_append_rd rfl (.tmp 13) (.tmp 14) _ rfl w.heap.size 5 i0 (.int .u8 0) 1 Tryd.underlying22 hi hz0 hz1 hz2 rfl (.slice (some ⟨w.heap.size, 0, none⟩) 0 0) 0 (ubs []) rfl HO.out.own w.heap.size A L c (ubs bs) rfl (by rw [ubs_length, HL.out]) HR.out (ubs_one _) (by unfold maxLen; omega) (by omega) (by simp) ?_; intro v1 w1 hown hgr _; replace hown := hid (HO.out.more hown HL.out hgr); clear hgr; rw [List.nil_append, Nat.zero_add] at hown; obtain ⟨A1, c1, rfl, -⟩ := own_form hown.out.own)
    | (at_builtin; refine wpList_append_rd rfl (.tmp 16) (.tmp 17) _ rfl w.heap.size 5 i0 (.int .u8 0) 1 Tryd.underlying22 hi hz0 hz1 hz2 rfl (.slice A1 L c1) L (ubs bs) rfl (hown.out.own.alloc _) (w1.heap.size + 1) (some ⟨w1.heap.size, 0, none⟩) 1 1 (ubs [128]) rfl rfl (rb_one w1 128) (ubs_one _) (by unfold maxLen; omega) (by omega) (by have := hown.out.below.size; simp; omega) ?_; intro v2 w2 hown2 hgr2 _; replace hown2 := hid (hown.out.next hown2 hgr2); clear hgr2; obtain ⟨A2, c2, rfl, -⟩ := own_form hown2.out.own; rw [← pa_zero] at hown2))
  go_loopw [4, 5] (fun v i wr => ∃ (k m : Nat) (A3 : Option Addr) (c3 : Nat), k ≤ nought L ∧ i = .int .i64 k ∧ v = .slice A3 m c3 ∧ m = L + 1 + k ∧ Own1 w m (pa bs k) v wr) (fun _ i _ => (nought L) - (intOf i).toNat)
  case atStart => exact ⟨0, L + 1, A2, c2, by omega, rfl, rfl, by omega, hown2.out⟩
  case round =>
    clear hown hown2 HO HR
    obtain ⟨k, m, A3, c3, hk, rfl, rfl, hm, hO⟩ := hrel
    have HM := hid hm
    have hm1 : m ≤ 140737488351400 := by omega
    have HO := hid hO
    clear hm hO
    by_cases hlt : k < nought L
    · go_wp2_with (at_builtin; refine wpList_append_rd rfl (.tmp 24) (.tmp 25) _ rfl w.heap.size 5 i0 (.int .u8 0) 1 Tryd.underlying22 hi hz0 hz1 hz2 rfl (.slice A3 m c3) m (ubs (pa bs k)) rfl (HO.out.own.alloc _) (wr.heap.size + 1) (some ⟨wr.heap.size, 0, none⟩) 1 1 (ubs [0]) rfl rfl (rb_one wr 0) (ubs_one _) (by unfold maxLen; omega) (by omega) (by have := HO.out.below.size; simp; omega) ?_; intro v4 w4 hown4 hgr4 _; replace hown4 := hid (HO.out.next hown4 hgr4); clear hgr4; obtain ⟨A4, c4, rfl, -⟩ := own_form hown4.out.own; rw [← pa_succ] at hown4)
      go_roundw
      case rel => exact ⟨k + 1, m + 1, A4, c4, by omega, by go_num, rfl, by have := HM.out; omega, hown4.out⟩
      case measure => simp [intOf]; omega
    · obtain rfl : k = nought L := by omega
      have hE : Own1 w m (pb bs 0) (.slice A3 m c3) wr := by
        rw [pb_zero, ← HL.out]
        exact HO.out
      have HE := hid hE
      clear hE HO
      go_wp2
      go_loopw [4, 7] (fun v i wr => ∃ (k m : Nat) (A3 : Option Addr) (c3 : Nat), k ≤ 8 ∧ i = .int .i64 (7 - k) ∧ v = .slice A3 m c3 ∧ m = L + 1 + nought L + k ∧ Own1 w m (pb bs k) v wr) (fun _ i _ => (intOf i + 1).toNat)
      case atStart => exact ⟨0, m, A3, c3, by omega, rfl, rfl, by have := HM.out; omega, HE.out⟩
      case round =>
        clear HE HM hm1 hlt hk
        obtain ⟨k, m, A3, c3, hk, rfl, rfl, hm, hO⟩ := hrel
        have HM := hid hm
        have hm1 : m ≤ 140737488351400 := by omega
        have HO := hid hO
        clear hm hO
        by_cases hlt : k < 8
        · have HP := hid (pb_succ bs k hlt)
          have hy : (L : Int) * 8 / 2 ^ (8 * (7 - k)) % 256 = ((UInt8.ofNat ((8 * bs.length) >>> (8 * (7 - k)))).toNat : Int) := by rw [← HL.out, ← shr_byte, show ((8 * L : Nat) : Int) = (L : Int) * 8 by omega]
          obtain ⟨bb, hbb⟩ : ∃ b, b = UInt8.ofNat ((8 * bs.length) >>> (8 * (7 - k))) := ⟨_, rfl⟩
          rw [← hbb] at HP hy
          clear hbb
          go_wp2_with (at_builtin; refine wpList_append_rd rfl (.tmp 35) (.tmp 42) _ rfl w.heap.size 5 i0 (.int .u8 0) 1 Tryd.underlying22 hi hz0 hz1 hz2 rfl (.slice A3 m c3) m (ubs (pb bs k)) rfl (HO.out.own.alloc _) (wr.heap.size + 1) (some ⟨wr.heap.size, 0, none⟩) 1 1 (ubs [bb]) rfl rfl (rb_one wr bb) (ubs_one _) (by unfold maxLen; omega) (by omega) (by have := HO.out.below.size; simp; omega) ?_; intro v4 w4 hown4 hgr4 _; replace hown4 := hid (HO.out.next hown4 hgr4); clear hgr4; obtain ⟨A4, c4, rfl, -⟩ := own_form hown4.out.own)
          go_roundw
          case rel => exact ⟨k + 1, m + 1, A4, c4, by omega, by rw [show (7 : Int) - ((k + 1 : Nat) : Int) = 7 - k - 1 by omega], rfl, by have := HM.out; omega, by rw [HP.out]; exact hown4.out⟩
          case measure => simp [intOf]; omega
        · obtain rfl : k = 8 := by omega
          have HQ := hid (pb_all bs)
          go_wp2
          go_ret
          refine ⟨_, m, rfl, ?_⟩
          rw [← HQ.out]
          exact HO.out
end Go.Proofs.YtfmbpdjcoopaeaaDoor

namespace Go.Proofs.YtfmbpdjcoopaeaaDoor
open Go.RowKit

/-- A piece of a slice. -/
theorem run_slice_piece {P : Program} {o : Oper} {a : Go.Act} {w : World} (T e : TypeId) (x lo hi : Operand) (ho : o.op = .slice T x (some lo) (some hi) none) (hT : P.underlying T = some (.slice e)) (hs : (P.info? e).map (·.size) = some 1)
    (g n c l h : Nat) (hx : a.eval x = .slice (some ⟨g, 0, none⟩) n c) (kl kh : IntKind) (hl : a.eval lo = .int kl (l : Int)) (hh : a.eval hi = .int kh (h : Int)) (h1 : l ≤ h) (h2 : h ≤ c) (h3 : l < c) :
    (execOp a.eval o).run P w = .ok (.value (.slice (some ⟨g, l, none⟩) (h - l) (c - l))) w := by
  cases hq : P.info? e with
  | none => simp [hq] at hs
  | some i =>
    have hz : i.size = 1 := by simpa [hq] using hs
    unfold execOp
    simp only [ho, Option.map_some, Option.map_none, hx, hl, hh]
    simp [Instr.sliceAt, run_underlying hT, Instr.slice, Instr.sliceBounds, Instr.sliceBound, asIntOf, sizeOf, typeInfo, hq, hz, h1, h2, show ¬ c = l by omega, add_plain]

theorem bytesOf_length (s : S8) : (bytesOf s).length = 32 := by unfold bytesOf; simp
theorem bytesOf_get (s : S8) (i : Nat) (h : i < 32) : (bytesOf s)[i]? = some (wb (s.l.getD (i / 4) 0#32 >>> (24 - i % 4 * 8))) := by
  unfold bytesOf
  rw [List.getElem?_map, List.getElem?_range h]
  rfl
/-- The first i bytes of a hash, noughts behind. -/
def hb (s : S8) (i : Nat) : List UInt8 := (bytesOf s).take i ++ List.replicate (32 - i) 0
theorem hb_zero (s : S8) : hb s 0 = List.replicate 32 0 := by simp [hb]
theorem hb_length (s : S8) (i : Nat) (h : i ≤ 32) : (hb s i).length = 32 := by simp [hb, bytesOf_length]; omega
theorem hb_all (s : S8) : hb s 32 = bytesOf s := by simp [hb, List.take_of_length_le (by rw [bytesOf_length]; omega : (bytesOf s).length ≤ 32)]
theorem hb_succ (s : S8) (i : Nat) (h : i < 32) : hb s (i + 1) = (hb s i).set i (wb (s.l.getD (i / 4) 0#32 >>> (24 - i % 4 * 8))) := by
  have hg := bytesOf_get s i h
  obtain ⟨hlt, hge⟩ := List.getElem?_eq_some_iff.1 hg
  have ht : ((bytesOf s).take i).length = i := by simp [bytesOf_length]; omega
  unfold hb
  rw [List.set_append_right _ _ (by omega), ht, Nat.sub_self, show 32 - i = (32 - (i + 1)) + 1 by omega, List.replicate_succ, List.set_cons_zero, List.take_succ_eq_append_getElem hlt, hge, List.append_assoc]
  rfl
attribute [irreducible] hb
def n32 : List UInt8 := List.replicate 32 0
theorem noughts32 : #[Value.int .u8 0, .int .u8 0, .int .u8 0, .int .u8 0, .int .u8 0, .int .u8 0, .int .u8 0, .int .u8 0, .int .u8 0, .int .u8 0, .int .u8 0, .int .u8 0, .int .u8 0, .int .u8 0, .int .u8 0, .int .u8 0, .int .u8 0, .int .u8 0, .int .u8 0, .int .u8 0, .int .u8 0, .int .u8 0, .int .u8 0, .int .u8 0, .int .u8 0, .int .u8 0, .int .u8 0, .int .u8 0, .int .u8 0, .int .u8 0, .int .u8 0, .int .u8 0] = (ubs n32).toArray := rfl
theorem n32_length : n32.length = 32 := by simp [n32]
theorem hb_start (s : S8) : hb s 0 = n32 := hb_zero s
theorem sizeH : (Tryd.prog.info? 25).map (·.size) = some 32 := by kernel_rfl
theorem sizeSt : (Tryd.prog.info? 214).map (·.size) = some 8 := by kernel_rfl
theorem IV_length : IV.l.length = 8 := rfl
/-- A piece of a slice of bytes. -/
theorem rb_piece {w : World} {B g o : Nat} {p : List UInt8} (h : Rb w B (some ⟨g, o, none⟩) p) (i n : Nat) : Rb w B (some ⟨g, o + i, none⟩) ((p.drop i).take n) := fun hx => by
  have hl : i < p.length := by
    rcases Nat.lt_or_ge i p.length with h1 | h1
    · exact h1
    · exfalso
      apply hx
      rw [List.drop_eq_nil_of_le h1]
      simp [ubs]
  obtain ⟨b, o', e, hb, hc⟩ := h (by intro e; have h3 := congrArg List.length e; rw [ubs_length] at h3; have h4 : p.length = 0 := h3; omega)
  cases e
  refine ⟨g, o + i, rfl, hb, fun j u hu => ?_⟩
  rw [Nat.add_assoc]
  refine hc (i + j) u ?_
  rw [ubs_get, List.getElem?_take] at hu
  split at hu
  · rw [List.getElem?_drop] at hu
    rw [ubs_get]
    exact hu
  · cases hu
end Go.Proofs.YtfmbpdjcoopaeaaDoor
