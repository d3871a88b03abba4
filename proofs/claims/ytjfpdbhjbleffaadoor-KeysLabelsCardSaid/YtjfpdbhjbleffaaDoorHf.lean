/-
  The document's block key; comparing bytes as strings.
-/
import Derived.Test.YtjfpdbhjbleffaaDoorCb
import Derived.Test.YtjfpdbhjbleffaaDoorCm
import Derived.Test.YtjfpdbhjbleffaaDoorHe
import Derived.ArgAppend
namespace Go.Proofs.YtjfpdbhjbleffaaDoor
open Go.RowKit

theorem eql_hash_same (w : World) (a : List UInt8) (ha : a.length = 32) : (binOp .eql 27 (.agg (ubs a).toArray) (.agg (ubs a).toArray)).run Tryd.prog w = .ok (.bool true) w := by
  rw [eql_hash w a a ha ha]
  simp
/-- A key with j noughts behind. -/
def padk (k : List UInt8) (j : Nat) : List UInt8 := k ++ List.replicate j 0
theorem padk_zero (k : List UInt8) : padk k 0 = k := by simp [padk]
theorem padk_succ (k : List UInt8) (j : Nat) : padk k (j + 1) = padk k j ++ [0] := by simp [padk, List.replicate_succ']
theorem padk_all (k : List UInt8) (j : Nat) (h : k.length + j = 64) : padk k j = padK k := by unfold padk padK; rw [show 64 - k.length = j by omega]
attribute [irreducible] padk
/-- How long a slice is. -/
def lenV : Value → Nat
  | .slice _ n _ => n
  | _ => 0
theorem lenV_slice (A : Option Addr) (n c : Nat) : lenV (.slice A n c) = n := rfl
theorem one_cells (w : World) (b : UInt8) (j : Nat) (u : Value) (hj : (ubs [b])[j]? = some u) : (w.alloc (.cells #[.int .u8 (b.toNat : Int)] 5)).cell? ((⟨w.heap.size, 0, none⟩ : Addr).add j) = some u := by
  obtain ⟨ad, e, h⟩ := (rb_one w b).src (by simp [ubs])
  cases e
  exact h j u hj
theorem rb_cells {w : World} {B : Nat} {a : Addr} {bs : List UInt8} (h : Rb w B (some a) bs) (j : Nat) (u : Value) (hj : (ubs bs)[j]? = some u) : w.cell? (a.add j) = some u := by
  obtain ⟨ad, e, h2⟩ := h.src (by have := (List.getElem?_eq_some_iff.1 hj).1; omega)
  cases e
  exact h2 j u hj
/-- The first byte appended to a full slice of an array. -/
theorem Own1.first {w W w4 : World} {h : List UInt8} {v : Value} {n : Nat} (B : Below w.heap.size w W) (hn : n = h.length) (hv : w4.ownsRow (W.alloc (.cells #[.int .u8 0] 5)).heap.size 5 1 v (n + 1) (ubs h ++ ubs [0])) (hg : (W.alloc (.cells #[.int .u8 0] 5)).grownBy w4 none) : Own1 w (n + 1) (h ++ [0]) v w4 :=
  ⟨by rw [List.length_append, hn]; rfl, by
    rw [ubs_append]
    exact own_mono hv (fun k hk => by have h1 := (World.ownsRow.lt hv k hk).1; have h2 := B.size; simp at h1; omega), (B.alloc B.size _).grown hg (by have := B.size; simp; omega) (fun k hk => by cases hk)⟩
set_option maxRecDepth 100000 in
set_option maxHeartbeats 8000000 in
theorem blockR_any (k : List UInt8) (A : Option Addr) (c : Nat) (w : World) (hr : Rb w w.heap.size A k) (hlen : k.length ≤ 1000000000) (hT : Tabr w) (hI : Tab w 0 IV.l) :
    Calls Tryd.prog 23 #[.slice A k.length c] w fun e w' => ∃ v, e = .returned v ∧ Own1 w 64 (blockL k) v w' := by
  obtain ⟨i0, hi, hz0, hz1, hz2⟩ := info_parts infoB
  have HO := hid (own_start w)
  have HR := hid (hr.alloc (.cells #[] 5))
  have HR0 := hid hr
  have HT := hid hT
  have HI := hid hI
  obtain ⟨n, hn⟩ : ∃ n, n = k.length := ⟨_, rfl⟩
  have HN := hid hn
  clear hr hT hI
  by_cases hbig : 64 < k.length
  · have HB := hid (blockL_long k hbig)
    obtain ⟨h, hh⟩ : ∃ h, h = hashL k := ⟨_, rfl⟩
    have HH := hid (show h.length = 32 by rw [hh, hashL_length])
    have HS := hid (show (Tryd.prog.info? 27).map (·.size) = some (ubs h).toArray.size by rw [sizeH]; simp [ubs_length, HH.out])
    have HE := hid hh
    rw [← hn] at hbig hlen ⊢
    have hz32 := noughts32
    clear hn hh
    go_enter Tryd.func23, Tryd.ntmps23
    go_wp2_with (first
      | (at_builtin; refine wpList_append_rd rfl (.tmp 5) (.tmp 6) _ rfl w.heap.size 5 i0 (.int .u8 0) 1 Tryd.underlying41 hi hz0 hz1 hz2 rfl (.slice (some ⟨w.heap.size, 0, none⟩) 0 0) 0 (ubs []) rfl HO.out.own w.heap.size A n c (ubs k) rfl (by rw [ubs_length, HN.out]) HR.out (ubs_one _) (by unfold maxLen; omega) (by omega) (by simp) ?_; intro v1 w1 hown hgr _; replace hown := hid (HO.out.more hown HN.out hgr); clear hgr; rw [List.nil_append, Nat.zero_add] at hown; obtain ⟨A1, c1, rfl, -⟩ := own_form hown.out.own)
      | (go_at_call 24; (have cq := sumR_any k A c w1 ((HR0.out.below hown.out.below).mono hown.out.below.size) (by rw [← HN.out]; omega) (HT.out.below hown.out.below) (Tab.below (x := IV.a) (xs := [IV.b, IV.c, IV.d, IV.e, IV.f, IV.g, IV.h]) HI.out hown.out.below)); rw [← HN.out, ← HE.out] at cq; refine cq.mono ?_; clear cq; rintro e w2 ⟨rfl, hb2⟩; have B2 := hid (hown.out.below.trans (hb2.mono hown.out.below.size)); clear hb2)
      | (refine wpList_store_row rfl _ (.tmp 4) (.tmp 12) rfl w2.heap.size (ubs h).toArray rfl rfl 27 (ubs n32).toArray (heap_alloc_new _ _) HS.out ?e1 (ubs_all _) ?e2; rotate_right; have B3 := hid (B2.out.trans ((stored_below w2 h).mono B2.out.size)); have A3 := hid (stored_rb w2 h); generalize ((w2.alloc (.cells (ubs n32).toArray 27)).setRow w2.heap.size (ubs h).toArray) = W3 at B3 A3 ⊢))
    case e1 => simp [ubs_length, n32_length, HH.out]
    clear HO HR HR0 HT HI hown B2
    have P0 := hid (padk_zero h)
    have PE := hid (show padk h 32 = blockL k by rw [padk_all h 32 (by rw [HH.out]), HE.out, HB.out])
    go_loopw [3] (fun v wr => ∃ (j : Nat) (A5 : Option Addr) (c5 : Nat), j ≤ 32 ∧ v = .slice A5 (32 + j) c5 ∧ Hid ((j = 0 ∧ A5 = some ⟨w2.heap.size, 0, none⟩ ∧ c5 = 32 ∧ wr = W3) ∨ Own1 w (32 + j) (padk h j) v wr)) (fun v _ => 64 - lenV v)
    case atStart => exact ⟨0, _, _, by omega, rfl, .inl ⟨rfl, rfl, rfl, rfl⟩⟩
    case round =>
      obtain ⟨j, A5, c5, hj, rfl, hO⟩ := hrel
      by_cases hlt : j < 32
      · rcases hO.out with ⟨rfl, rfl, rfl, rfl⟩ | ho
        · clear hO
          have RC := hid (fun j u hj => rb_cells (Rd.alloc A3.out (.cells #[.int .u8 0] 5)) j u hj)
          have OC := hid (one_cells wr 0)
          go_wp2_with (at_builtin; go_loud (refine wpList_append_grows _ rfl (.tmp 17) (.tmp 18) _ rfl 5 i0 (.int .u8 0) 1 1 Tryd.underlying41 hi hz0 hz1 hz2 rfl (by decide) (some ⟨w2.heap.size, 0, none⟩) 32 32 (ubs h) rfl (fun e => by cases e) (by rw [ubs_length, HH.out]) (by intro b e; cases e; exact RC.out) ⟨wr.heap.size, 0, none⟩ 1 1 (ubs [0]) rfl rfl OC.out (ubs_one _) (by omega) (by unfold maxLen; omega) (by omega) ?_); intro v4 w4 hown4 hgr4; obtain ⟨A4, c4, rfl, -⟩ := own_form hown4; have O4 := hid (Own1.first B3.out HH.out.symm hown4 hgr4); clear hown4 hgr4)
          go_roundw
          case rel => exact ⟨1, A4, c4, by omega, rfl, .inr (by rw [padk_succ, padk_zero]; exact O4.out)⟩
          case measure => simp [lenV_slice]
        · have HO := hid ho
          clear hO ho
          have HQ := hid (padk_succ h j)
          have LX := hid (show ∀ n m c : Nat, ∀ A B : Option Addr, n < m → m ≤ 64 → 64 - lenV (.slice A m c) < 64 - lenV (.slice B n c5) from fun n m c A B h1 h2 => by rw [lenV_slice, lenV_slice]; omega)
          go_wp2_with (at_builtin; refine wpList_append_rd rfl (.tmp 17) (.tmp 18) _ rfl w.heap.size 5 i0 (.int .u8 0) 1 Tryd.underlying41 hi hz0 hz1 hz2 rfl (.slice A5 (32 + j) c5) (32 + j) (ubs (padk h j)) rfl (HO.out.own.alloc _) (wr.heap.size + 1) (some ⟨wr.heap.size, 0, none⟩) 1 1 (ubs [0]) rfl rfl (rb_one wr 0) (ubs_one _) (by unfold maxLen; omega) (by omega) (by have := HO.out.below.size; simp; omega) ?_; intro v4 w4 hown4 hgr4 _; replace hown4 := hid (HO.out.next hown4 hgr4); clear hgr4; obtain ⟨A4, c4, rfl, -⟩ := own_form hown4.out.own)
          go_roundw
          case rel => exact ⟨j + 1, A4, c4, by omega, rfl, .inr (by rw [HQ.out]; exact hown4.out)⟩
          case measure => exact LX.out _ _ _ _ _ (by omega) (by omega)
      · obtain rfl : j = 32 := by omega
        rcases hO.out with ⟨h0, -⟩ | ho
        · omega
        · have HO := hid ho
          clear hO ho
          go_wp2
          go_ret
          exact ⟨_, rfl, by rw [← PE.out]; exact HO.out⟩
  · have HB := hid (blockL_short k hbig)
    have PE := hid (padk_all k (64 - k.length) (by omega))
    have P0 := hid (padk_zero k)
    rw [← hn] at hbig hlen PE ⊢
    clear hn HR0 HT HI
    go_enter Tryd.func23, Tryd.ntmps23
    go_wp2_with (at_builtin; refine wpList_append_rd rfl (.tmp 5) (.tmp 6) _ rfl w.heap.size 5 i0 (.int .u8 0) 1 Tryd.underlying41 hi hz0 hz1 hz2 rfl (.slice (some ⟨w.heap.size, 0, none⟩) 0 0) 0 (ubs []) rfl HO.out.own w.heap.size A n c (ubs k) rfl (by rw [ubs_length, HN.out]) HR.out (ubs_one _) (by unfold maxLen; omega) (by omega) (by simp) ?_; intro v1 w1 hown hgr _; replace hown := hid (HO.out.more hown HN.out hgr); clear hgr; rw [List.nil_append, Nat.zero_add] at hown; obtain ⟨A1, c1, rfl, -⟩ := own_form hown.out.own)
    go_loopw [3] (fun v wr => ∃ (m : Nat) (A5 : Option Addr) (c5 : Nat), n ≤ m ∧ m ≤ 64 ∧ v = .slice A5 m c5 ∧ Own1 w m (padk k (m - n)) v wr) (fun v _ => 64 - lenV v)
    case atStart => exact ⟨n, _, _, by omega, by omega, rfl, by rw [Nat.sub_self, P0.out]; exact hown.out⟩
    case round =>
      clear hown HO HR
      obtain ⟨m, A5, c5, hm, hj, rfl, hO⟩ := hrel
      have HO := hid hO
      clear hO
      by_cases hlt : m < 64
      · have HQ := hid (show padk k (m + 1 - n) = padk k (m - n) ++ [0] by rw [show m + 1 - n = (m - n) + 1 by omega, padk_succ])
        have LX := hid (show ∀ n m c : Nat, ∀ A B : Option Addr, n < m → m ≤ 64 → 64 - lenV (.slice A m c) < 64 - lenV (.slice B n c5) from fun n m c A B h1 h2 => by rw [lenV_slice, lenV_slice]; omega)
        go_wp2_with (at_builtin; refine wpList_append_rd rfl (.tmp 17) (.tmp 18) _ rfl w.heap.size 5 i0 (.int .u8 0) 1 Tryd.underlying41 hi hz0 hz1 hz2 rfl (.slice A5 m c5) m (ubs (padk k (m - n))) rfl (HO.out.own.alloc _) (wr.heap.size + 1) (some ⟨wr.heap.size, 0, none⟩) 1 1 (ubs [0]) rfl rfl (rb_one wr 0) (ubs_one _) (by unfold maxLen; omega) (by omega) (by have := HO.out.below.size; simp; omega) ?_; intro v4 w4 hown4 hgr4 _; replace hown4 := hid (HO.out.next hown4 hgr4); clear hgr4; obtain ⟨A4, c4, rfl, -⟩ := own_form hown4.out.own)
        go_roundw
        case rel => exact ⟨m + 1, A4, c4, by omega, by omega, rfl, by rw [HQ.out]; exact hown4.out⟩
        case measure => exact LX.out _ _ _ _ _ (by omega) (by omega)
      · obtain rfl : m = 64 := by omega
        go_wp2
        go_ret
        exact ⟨_, rfl, by rw [HB.out, ← PE.out]; exact HO.out⟩
end Go.Proofs.YtjfpdbhjbleffaaDoor
