/-
  The document's block key; comparing bytes as strings.
  The document's tag.
-/
import Derived.Test.YtnaihcoafgigcaaDoorY1
import Derived.Test.YtnaihcoafgigcaaDoorHd
import Derived.ArgAppend
namespace Go.Proofs.YtnaihcoafgigcaaDoor
open Go.RowKit

theorem eql_hash_same (w : World) (a : List UInt8) (ha : a.length = 32) : (binOp .eql 61 (.agg (ubs a).toArray) (.agg (ubs a).toArray)).run Tryd.prog w = .ok (.bool true) w := by
  rw [eql_hash w a a ha ha]
  simp
/-- A key with j noughts behind. -/
def padk (k : List UInt8) (j : Nat) : List UInt8 := k ++ List.replicate j 0
theorem padk_zero (k : List UInt8) : padk k 0 = k := by simp [padk]
theorem padk_succ (k : List UInt8) (j : Nat) : padk k (j + 1) = padk k j ++ [0] := by simp [padk, List.replicate_succ']
theorem padk_all (k : List UInt8) (j : Nat) (h : k.length + j = 64) : padk k j = padK k := by unfold padk padK; rw [show 64 - k.length = j by omega]
attribute [irreducible] padk
/-- How long a slice is. -/
def lenV : Value → Nat
  | .slice _ n _ => n
  | _ => 0
theorem lenV_slice (A : Option Addr) (n c : Nat) : lenV (.slice A n c) = n := rfl
theorem one_cells (w : World) (b : UInt8) (j : Nat) (u : Value) (hj : (ubs [b])[j]? = some u) : (w.alloc (.cells #[.int .u8 (b.toNat : Int)] 5)).cell? ((⟨w.heap.size, 0, none⟩ : Addr).add j) = some u := by
  obtain ⟨ad, e, h⟩ := (rb_one w b).src (by simp [ubs])
  cases e
  exact h j u hj
theorem rb_cells {w : World} {B : Nat} {a : Addr} {bs : List UInt8} (h : Rb w B (some a) bs) (j : Nat) (u : Value) (hj : (ubs bs)[j]? = some u) : w.cell? (a.add j) = some u := by
  obtain ⟨ad, e, h2⟩ := h.src (by have := (List.getElem?_eq_some_iff.1 hj).1; omega)
  cases e
  exact h2 j u hj
/-- The first byte appended to a full slice of an array. -/
theorem Own1.first {w W w4 : World} {h : List UInt8} {v : Value} {n : Nat} (B : Below w.heap.size w W) (hn : n = h.length) (hv : w4.ownsRow (W.alloc (.cells #[.int .u8 0] 5)).heap.size 5 1 v (n + 1) (ubs h ++ ubs [0])) (hg : (W.alloc (.cells #[.int .u8 0] 5)).grownBy w4 none) : Own1 w (n + 1) (h ++ [0]) v w4 :=
  ⟨by rw [List.length_append, hn]; rfl, by
    rw [ubs_append]
    exact own_mono hv (fun k hk => by have h1 := (World.ownsRow.lt hv k hk).1; have h2 := B.size; simp at h1; omega), (B.alloc B.size _).grown hg (by have := B.size; simp; omega) (fun k hk => by cases hk)⟩
set_option maxRecDepth 100000 in
set_option maxHeartbeats 8000000 in
theorem blockR_any (k : List UInt8) (A : Option Addr) (c : Nat) (w : World) (hr : Rb w w.heap.size A k) (hlen : k.length ≤ 1000000000) (hT : Tabr w) (hI : Tab w 0 IV.l) :
    Calls Tryd.prog 49 #[.slice A k.length c] w fun e w' => ∃ v, e = .returned v ∧ Own1 w 64 (blockL k) v w' := by
  obtain ⟨i0, hi, hz0, hz1, hz2⟩ := info_parts infoB
  have HO := hid (own_start w)
  have HR := hid (hr.alloc (.cells #[] 5))
  have HR0 := hid hr
  have HT := hid hT
  have HI := hid hI
  obtain ⟨n, hn⟩ : ∃ n, n = k.length := ⟨_, rfl⟩
  have HN := hid hn
  clear hr hT hI
  by_cases hbig : 64 < k.length
  · have HB := hid (blockL_long k hbig)
    obtain ⟨h, hh⟩ : ∃ h, h = hashL k := ⟨_, rfl⟩
    have HH := hid (show h.length = 32 by rw [hh, hashL_length])
    have HS := hid (show (Tryd.prog.info? 61).map (·.size) = some (ubs h).toArray.size by rw [sizeH]; simp [ubs_length, HH.out])
    have HE := hid hh
    rw [← hn] at hbig hlen ⊢
    have hz32 := noughts32
    clear hn hh
    go_enter Tryd.func49, Tryd.ntmps49
    go_wp2_with (first
      | (at_builtin; refine wpList_append_rd rfl (.tmp 5) (.tmp 6) _ rfl w.heap.size 5 i0 (.int .u8 0) 1 Tryd.underlying55 hi hz0 hz1 hz2 rfl (.slice (some ⟨w.heap.size, 0, none⟩) 0 0) 0 (ubs []) rfl HO.out.own w.heap.size A n c (ubs k) rfl (by rw [ubs_length, HN.out]) HR.out (ubs_one _) (by unfold maxLen; omega) (by omega) (by simp) ?_; intro v1 w1 hown hgr _; replace hown := hid (HO.out.more hown HN.out hgr); clear hgr; rw [List.nil_append, Nat.zero_add] at hown; obtain ⟨A1, c1, rfl, -⟩ := own_form hown.out.own)
      | (go_at_call 50; (have cq := sumR_any k A c w1 ((HR0.out.below hown.out.below).mono hown.out.below.size) (by rw [← HN.out]; omega) (HT.out.below hown.out.below) (Tab.below (x := IV.a) (xs := [IV.b, IV.c, IV.d, IV.e, IV.f, IV.g, IV.h]) HI.out hown.out.below)); rw [← HN.out, ← HE.out] at cq; refine cq.mono ?_; clear cq; rintro e w2 ⟨rfl, hb2⟩; have B2 := hid (hown.out.below.trans (hb2.mono hown.out.below.size)); clear hb2)
      | (refine wpList_store_row rfl _ (.tmp 4) (.tmp 12) rfl w2.heap.size (ubs h).toArray rfl rfl 61 (ubs n32).toArray (heap_alloc_new _ _) HS.out ?e1 (ubs_all _) ?e2; rotate_right; have B3 := hid (B2.out.trans ((stored_below w2 h).mono B2.out.size)); have A3 := hid (stored_rb w2 h); generalize ((w2.alloc (.cells (ubs n32).toArray 61)).setRow w2.heap.size (ubs h).toArray) = W3 at B3 A3 ⊢))
    case e1 => simp [ubs_length, n32_length, HH.out]
    clear HO HR HR0 HT HI hown B2
    have P0 := hid (padk_zero h)
    have PE := hid (show padk h 32 = blockL k by rw [padk_all h 32 (by rw [HH.out]), HE.out, HB.out])
    go_loopw [3] (fun v wr => ∃ (j : Nat) (A5 : Option Addr) (c5 : Nat), j ≤ 32 ∧ v = .slice A5 (32 + j) c5 ∧ Hid ((j = 0 ∧ A5 = some ⟨w2.heap.size, 0, none⟩ ∧ c5 = 32 ∧ wr = W3) ∨ Own1 w (32 + j) (padk h j) v wr)) (fun v _ => 64 - lenV v)
    case atStart => exact ⟨0, _, _, by omega, rfl, .inl ⟨rfl, rfl, rfl, rfl⟩⟩
    case round =>
      obtain ⟨j, A5, c5, hj, rfl, hO⟩ := hrel
      by_cases hlt : j < 32
      · rcases hO.out with ⟨rfl, rfl, rfl, rfl⟩ | ho
        · clear hO
          have RC := hid (fun j u hj => rb_cells (Rd.alloc A3.out (.cells #[.int .u8 0] 5)) j u hj)
          have OC := hid (one_cells wr 0)
          go_wp2_with (at_builtin; go_loud (refine wpList_append_grows _ rfl (.tmp 17) (.tmp 18) _ rfl 5 i0 (.int .u8 0) 1 1 Tryd.underlying55 hi hz0 hz1 hz2 rfl (by decide) (some ⟨w2.heap.size, 0, none⟩) 32 32 (ubs h) rfl (fun e => by cases e) (by rw [ubs_length, HH.out]) (by intro b e; cases e; exact RC.out) ⟨wr.heap.size, 0, none⟩ 1 1 (ubs [0]) rfl rfl OC.out (ubs_one _) (by omega) (by unfold maxLen; omega) (by omega) ?_); intro v4 w4 hown4 hgr4; obtain ⟨A4, c4, rfl, -⟩ := own_form hown4; have O4 := hid (Own1.first B3.out HH.out.symm hown4 hgr4); clear hown4 hgr4)
          go_roundw
          case rel => exact ⟨1, A4, c4, by omega, rfl, .inr (by rw [padk_succ, padk_zero]; exact O4.out)⟩
          case measure => simp [lenV_slice]
        · have HO := hid ho
          clear hO ho
          have HQ := hid (padk_succ h j)
          have LX := hid (show ∀ n m c : Nat, ∀ A B : Option Addr, n < m → m ≤ 64 → 64 - lenV (.slice A m c) < 64 - lenV (.slice B n c5) from fun n m c A B h1 h2 => by rw [lenV_slice, lenV_slice]; omega)
          go_wp2_with (at_builtin; refine wpList_append_rd rfl (.tmp 17) (.tmp 18) _ rfl w.heap.size 5 i0 (.int .u8 0) 1 Tryd.underlying55 hi hz0 hz1 hz2 rfl (.slice A5 (32 + j) c5) (32 + j) (ubs (padk h j)) rfl (HO.out.own.alloc _) (wr.heap.size + 1) (some ⟨wr.heap.size, 0, none⟩) 1 1 (ubs [0]) rfl rfl (rb_one wr 0) (ubs_one _) (by unfold maxLen; omega) (by omega) (by have := HO.out.below.size; simp; omega) ?_; intro v4 w4 hown4 hgr4 _; replace hown4 := hid (HO.out.next hown4 hgr4); clear hgr4; obtain ⟨A4, c4, rfl, -⟩ := own_form hown4.out.own)
          go_roundw
          case rel => exact ⟨j + 1, A4, c4, by omega, rfl, .inr (by rw [HQ.out]; exact hown4.out)⟩
          case measure => exact LX.out _ _ _ _ _ (by omega) (by omega)
      · obtain rfl : j = 32 := by omega
        rcases hO.out with ⟨h0, -⟩ | ho
        · omega
        · have HO := hid ho
          clear hO ho
          go_wp2
          go_ret
          exact ⟨_, rfl, by rw [← PE.out]; exact HO.out⟩
  · have HB := hid (blockL_short k hbig)
    have PE := hid (padk_all k (64 - k.length) (by omega))
    have P0 := hid (padk_zero k)
    rw [← hn] at hbig hlen PE ⊢
    clear hn HR0 HT HI
    go_enter Tryd.func49, Tryd.ntmps49
    go_wp2_with (at_builtin; refine wpList_append_rd rfl (.tmp 5) (.tmp 6) _ rfl w.heap.size 5 i0 (.int .u8 0) 1 Tryd.underlying55 hi hz0 hz1 hz2 rfl (.slice (some ⟨w.heap.size, 0, none⟩) 0 0) 0 (ubs []) rfl HO.out.own w.heap.size A n c (ubs k) rfl (by rw [ubs_length, HN.out]) HR.out (ubs_one _) (by unfold maxLen; omega) (by omega) (by simp) ?_; intro v1 w1 hown hgr _; replace hown := hid (HO.out.more hown HN.out hgr); clear hgr; rw [List.nil_append, Nat.zero_add] at hown; obtain ⟨A1, c1, rfl, -⟩ := own_form hown.out.own)
    go_loopw [3] (fun v wr => ∃ (m : Nat) (A5 : Option Addr) (c5 : Nat), n ≤ m ∧ m ≤ 64 ∧ v = .slice A5 m c5 ∧ Own1 w m (padk k (m - n)) v wr) (fun v _ => 64 - lenV v)
    case atStart => exact ⟨n, _, _, by omega, by omega, rfl, by rw [Nat.sub_self, P0.out]; exact hown.out⟩
    case round =>
      clear hown HO HR
      obtain ⟨m, A5, c5, hm, hj, rfl, hO⟩ := hrel
      have HO := hid hO
      clear hO
      by_cases hlt : m < 64
      · have HQ := hid (show padk k (m + 1 - n) = padk k (m - n) ++ [0] by rw [show m + 1 - n = (m - n) + 1 by omega, padk_succ])
        have LX := hid (show ∀ n m c : Nat, ∀ A B : Option Addr, n < m → m ≤ 64 → 64 - lenV (.slice A m c) < 64 - lenV (.slice B n c5) from fun n m c A B h1 h2 => by rw [lenV_slice, lenV_slice]; omega)
        go_wp2_with (at_builtin; refine wpList_append_rd rfl (.tmp 17) (.tmp 18) _ rfl w.heap.size 5 i0 (.int .u8 0) 1 Tryd.underlying55 hi hz0 hz1 hz2 rfl (.slice A5 m c5) m (ubs (padk k (m - n))) rfl (HO.out.own.alloc _) (wr.heap.size + 1) (some ⟨wr.heap.size, 0, none⟩) 1 1 (ubs [0]) rfl rfl (rb_one wr 0) (ubs_one _) (by unfold maxLen; omega) (by omega) (by have := HO.out.below.size; simp; omega) ?_; intro v4 w4 hown4 hgr4 _; replace hown4 := hid (HO.out.next hown4 hgr4); clear hgr4; obtain ⟨A4, c4, rfl, -⟩ := own_form hown4.out.own)
        go_roundw
        case rel => exact ⟨m + 1, A4, c4, by omega, by omega, rfl, by rw [HQ.out]; exact hown4.out⟩
        case measure => exact LX.out _ _ _ _ _ (by omega) (by omega)
      · obtain rfl : m = 64 := by omega
        go_wp2
        go_ret
        exact ⟨_, rfl, by rw [HB.out, ← PE.out]; exact HO.out⟩
end Go.Proofs.YtnaihcoafgigcaaDoor

namespace Go.Proofs.YtnaihcoafgigcaaDoor
open Go.RowKit

/-- Two slices of the call's own, in blocks of their own. -/
structure TwoW (w : World) (n : Nat) (vi vo : Value) (xs ys : List UInt8) (W : World) : Prop where
  i : W.ownsRow w.heap.size 5 1 vi n (ubs xs)
  o : W.ownsRow w.heap.size 5 1 vo n (ubs ys)
  apart : ∀ g, vi.ownBlock = some g → vo.ownBlock ≠ some g
  below : Below w.heap.size w W
theorem TwoW.start (w : World) : TwoW w 0 (.slice none 0 0) (.slice none 0 0) [] [] w :=
  ⟨World.ownsRow_nil _ _ _ _, World.ownsRow_nil _ _ _ _, fun g h => by simp [Value.ownBlock] at h, Below.refl _ _⟩
/-- The first grows by one byte; then the second does. -/
structure MidW (w : World) (n : Nat) (vi vo : Value) (xs ys : List UInt8) (W : World) : Prop where
  i : W.ownsRow w.heap.size 5 1 vi (n + 1) (ubs xs)
  o : W.ownsRow w.heap.size 5 1 vo n (ubs ys)
  apart : ∀ g, vi.ownBlock = some g → vo.ownBlock ≠ some g
  below : Below w.heap.size w W
theorem TwoW.mid {w W W2 : World} {n : Nat} {vi vo v : Value} {xs ys : List UInt8} {b : UInt8} {o : Obj} (h : TwoW w n vi vo xs ys W) (h2 : W2.ownsRow w.heap.size 5 1 v (n + 1) (ubs xs ++ ubs [b])) (hg : (W.alloc o).grownBy W2 vi.ownBlock)
    (hb : v.ownBlock = vi.ownBlock ∨ v.ownBlock = some (W.alloc o).heap.size) : MidW w n v vo (xs ++ [b]) ys W2 :=
  ⟨by rw [ubs_append]; exact h2, own_grown (h.o.alloc _) hg (fun g hg' e => h.apart g e hg'), fun g hv ho => by
    rcases hb with hb | hb
    · exact h.apart g (hb ▸ hv) ho
    · rw [hb] at hv
      have := (World.ownsRow.lt h.o g ho).2
      simp at hv
      omega, (h.below.alloc h.below.size o).grown hg (by have := h.below.size; simp; omega) (fun k hk => (World.ownsRow.lt h.i k hk).1)⟩
theorem MidW.two {w W W2 : World} {n : Nat} {vi vo v : Value} {xs ys : List UInt8} {b : UInt8} {o : Obj} (h : MidW w n vi vo xs ys W) (h2 : W2.ownsRow w.heap.size 5 1 v (n + 1) (ubs ys ++ ubs [b])) (hg : (W.alloc o).grownBy W2 vo.ownBlock)
    (hb : v.ownBlock = vo.ownBlock ∨ v.ownBlock = some (W.alloc o).heap.size) : TwoW w (n + 1) vi v xs (ys ++ [b]) W2 :=
  ⟨own_grown (h.i.alloc _) hg (fun g hg' e => h.apart g hg' e), by rw [ubs_append]; exact h2, fun g hv ho => by
    rcases hb with hb | hb
    · exact h.apart g hv (hb ▸ ho)
    · rw [hb] at ho
      have := (World.ownsRow.lt h.i g hv).2
      simp at ho
      omega, (h.below.alloc h.below.size o).grown hg (by have := h.below.size; simp; omega) (fun k hk => (World.ownsRow.lt h.o k hk).1)⟩
/-- A text appended to the first. -/
theorem TwoW.more {w W W2 : World} {n m : Nat} {vi vo v : Value} {xs ys : List UInt8} (h : TwoW w n vi vo xs ys W) {zs : List UInt8} (h2 : W2.ownsRow w.heap.size 5 1 v (n + m) (ubs xs ++ ubs zs)) (hg : W.grownBy W2 vi.ownBlock) :
    W2.ownsRow w.heap.size 5 1 v (n + m) (ubs (xs ++ zs)) ∧ W2.ownsRow w.heap.size 5 1 vo n (ubs ys) ∧ Below w.heap.size w W2 :=
  ⟨by rw [ubs_append]; exact h2, own_grown h.o hg (fun g hg' e => h.apart g e hg'), h.below.grown hg h.below.size (fun k hk => (World.ownsRow.lt h.i k hk).1)⟩
/-- The first k bytes of a masked block key. -/
def mk (b : List UInt8) (m : UInt8) (k : Nat) : List UInt8 := (maskL b m).take k
theorem mk_zero (b : List UInt8) (m : UInt8) : mk b m 0 = [] := rfl
theorem mk_succ (b : List UInt8) (m : UInt8) (k : Nat) (h : k < b.length) : mk b m (k + 1) = mk b m k ++ [b.getD k 0 ^^^ m] := by
  unfold mk maskL
  rw [List.take_succ_eq_append_getElem (by simpa using h)]
  simp [h]
theorem mk_all (b : List UInt8) (m : UInt8) (k : Nat) (h : b.length = k) : mk b m k = maskL b m := by
  unfold mk
  rw [List.take_of_length_le (by rw [maskL_length, h]; exact Nat.le_refl _)]
attribute [irreducible] mk
set_option maxRecDepth 100000 in
set_option maxHeartbeats 8000000 in
theorem macR_any (k t : List UInt8) (K T : Option Addr) (ck ct : Nat) (w : World) (hk : Rb w w.heap.size K k) (ht : Rb w w.heap.size T t) (lk : k.length ≤ 1000000000) (lt : t.length ≤ 1000000000) (hT : Tabr w) (hI : Tab w 0 IV.l) :
    Calls Tryd.prog 30 #[.slice K k.length ck, .slice T t.length ct] w fun e w' => e = .returned (.agg (ubs (macL k t)).toArray) ∧ Below w.heap.size w w' := by
  obtain ⟨i0, hi, hz0, hz1, hz2⟩ := info_parts infoB
  obtain ⟨W0, hW0⟩ : ∃ W0, W0 = w.alloc (.cells (ubs n32).toArray 61) := ⟨_, rfl⟩
  have hb0 : Below w.heap.size w W0 := by rw [hW0]; exact (Below.refl _ _).alloc (Nat.le_refl _) _
  have h0 : At W0 w.heap.size (ubs n32).toArray 61 := by rw [hW0]; exact At.new _ _ _
  have hbk := blockR_any k K ck W0 ((hk.below hb0).mono hb0.size) lk (hT.below hb0) (Tab.below (x := IV.a) (xs := [IV.b, IV.c, IV.d, IV.e, IV.f, IV.g, IV.h]) hI hb0)
  have HT := hid hT
  have HI := hid hI
  have HR := hid ((ht.below hb0).mono hb0.size)
  have HB0 := hid hb0
  have H0 := hid h0
  obtain ⟨b, hb⟩ : ∃ b, b = blockL k := ⟨_, rfl⟩
  have HBL := hid (show b.length = 64 by rw [hb, blockL_length])
  have HM := hid (macL_eq k t)
  rw [← hb] at hbk HM
  have HBK := hid hbk
  have hz32 := noughts32
  have HS := hid (fun h => show (Tryd.prog.info? 61).map (·.size) = some (ubs (hashL h)).toArray.size by rw [sizeH]; simp [ubs_length, hashL_length])
  have HK := hid (fun h => hashL_length h)
  obtain ⟨n, hn⟩ : ∃ n, n = t.length := ⟨_, rfl⟩
  obtain ⟨l, hl⟩ : ∃ l, l = k.length := ⟨_, rfl⟩
  have HN := hid hn
  rw [← hn] at lt ⊢
  rw [← hl] at HBK ⊢
  clear hb0 h0 hbk hk ht hT hI hb hn hl lk
  subst hW0
  go_enter Tryd.func30, Tryd.ntmps30
  go_wp2_with (go_at_call 49; refine HBK.out.mono ?_; rintro e w1 ⟨v, rfl, hO⟩; obtain ⟨A5, c5, rfl, -⟩ := own_form hO.own; have R1 := hid (Rd.of_own hO.own); have B1 := hid (HB0.out.trans (hO.below.mono HB0.out.size)); have T1 := hid ((HR.out.below hO.below).mono hO.below.size); have A1 := hid (H0.out.new_ hO.below); clear hO)
  clear HBK HR H0 HB0
  go_loopw [6, 7, 8] (fun vi vo i wr => ∃ (j : Nat) (A2 A3 : Option Addr) (c2 c3 : Nat), j ≤ 64 ∧ i = .int .i64 j ∧ vi = .slice A2 j c2 ∧ vo = .slice A3 j c3 ∧ TwoW w1 j (.slice A2 j c2) (.slice A3 j c3) (mk b 54 j) (mk b 92 j) wr) (fun _ _ i _ => 64 - (intOf i).toNat)
  case atStart => exact ⟨0, none, none, 0, 0, by omega, rfl, rfl, rfl, by rw [mk_zero, mk_zero]; exact TwoW.start w1⟩
  case round =>
    obtain ⟨j, A2, A3, c2, c3, hj, rfl, rfl, rfl, hW⟩ := hrel
    have HW := hid hW
    clear hW
    by_cases hlt : j < 64
    · have hjb : j < b.length := by rw [HBL.out]; exact hlt
      have HQ1 := hid (mk_succ b 54 j hjb)
      have HQ2 := hid (mk_succ b 92 j hjb)
      have hg : (ubs b)[j]? = some (.int .u8 ((b.getD j 0).toNat : Int)) := by rw [ubs_at hjb]; simp [hjb]
      have hx1 := b_xor 5 (b.getD j 0) 54
      have hx2 := b_xor 5 (b.getD j 0) 92
      obtain ⟨x, hx⟩ : ∃ x, x = b.getD j 0 := ⟨_, rfl⟩
      rw [← hx] at hg hx1 hx2 HQ1 HQ2
      clear hx
      obtain ⟨y1, hy1⟩ : ∃ y, y = x ^^^ 54 := ⟨_, rfl⟩
      obtain ⟨y2, hy2⟩ : ∃ y, y = x ^^^ 92 := ⟨_, rfl⟩
      rw [← hy1] at hx1 HQ1
      rw [← hy2] at hx2 HQ2
      replace hx1 : binOp .xor 5 (.int .u8 (x.toNat : Int)) (.int .u8 54) = pure (.int .u8 (y1.toNat : Int)) := hx1
      replace hx2 : binOp .xor 5 (.int .u8 (x.toNat : Int)) (.int .u8 92) = pure (.int .u8 (y2.toNat : Int)) := hx2
      clear hy1 hy2
      obtain ⟨g5, o5, rfl, hg5, -⟩ := R1.out.at_ hg
      have HC := hid (fun (W : World) (hb : Below w1.heap.size w1 W) => ((R1.out.below hb).at_ hg))
      have hc0 : wr.cell? ⟨g5, o5 + j, none⟩ = some (.int .u8 (x.toNat : Int)) := by
        obtain ⟨b', o', e, -, hc⟩ := HC.out wr HW.out.below
        cases e
        exact hc
      go_wp2_with (first
        | (at_builtin; refine wpList_append_rd rfl (.tmp 16) (.tmp 22) _ rfl w1.heap.size 5 i0 (.int .u8 0) 1 Tryd.underlying55 hi hz0 hz1 hz2 rfl (.slice A2 j c2) j (ubs (mk b 54 j)) rfl (HW.out.i.alloc _) (wr.heap.size + 1) (some ⟨wr.heap.size, 0, none⟩) 1 1 (ubs [y1]) rfl rfl (rb_one wr y1) (ubs_one _) (by unfold maxLen; omega) (by omega) (by have := HW.out.below.size; simp; omega) ?_; intro v4 w4 hown4 hgr4 hb4; (have hm4 := HW.out.mid hown4 hgr4 hb4); obtain ⟨A4, c4, rfl, -⟩ := own_form hm4.i; have M4 := hid hm4; have hc4 : w4.cell? ⟨g5, o5 + j, none⟩ = some (.int .u8 (x.toNat : Int)) := (by obtain ⟨b', o', e, -, hc⟩ := HC.out w4 hm4.below; cases e; exact hc); clear hown4 hgr4 hb4 hm4)
        | (at_builtin; refine wpList_append_rd rfl (.tmp 24) (.tmp 30) _ rfl w1.heap.size 5 i0 (.int .u8 0) 1 Tryd.underlying55 hi hz0 hz1 hz2 rfl (.slice A3 j c3) j (ubs (mk b 92 j)) rfl (M4.out.o.alloc _) (w4.heap.size + 1) (some ⟨w4.heap.size, 0, none⟩) 1 1 (ubs [y2]) rfl rfl (rb_one w4 y2) (ubs_one _) (by unfold maxLen; omega) (by omega) (by have := M4.out.below.size; simp; omega) ?_; intro v6 w6 hown6 hgr6 hb6; (have hm6 := M4.out.two hown6 hgr6 hb6); obtain ⟨A6, c6, rfl, -⟩ := own_form hm6.o; have M6 := hid hm6; clear hown6 hgr6 hb6 hm6))
      go_roundw
      case rel => exact ⟨j + 1, A4, A6, c4, c6, by omega, by go_num, rfl, rfl, by rw [HQ1.out, HQ2.out]; exact M6.out⟩
      case measure => simp [intOf]; omega
    · obtain rfl : j = 64 := by omega
      have hw := HW.out
      rw [mk_all b 54 64 HBL.out, mk_all b 92 64 HBL.out] at hw
      have HW := hid hw
      obtain ⟨p, hp⟩ : ∃ p, p = maskL b 54 := ⟨_, rfl⟩
      obtain ⟨q, hq⟩ : ∃ q, q = maskL b 92 := ⟨_, rfl⟩
      have HPL := hid (show p.length = 64 by rw [hp, maskL_length, HBL.out])
      have HQL := hid (show q.length = 64 by rw [hq, maskL_length, HBL.out])
      rw [← hp, ← hq] at HM HW
      have HT2 := hid ((HT.out.below B1.out))
      have HI2 := hid (Tab.below (x := IV.a) (xs := [IV.b, IV.c, IV.d, IV.e, IV.f, IV.g, IV.h]) HI.out B1.out)
      have TW := hid ((T1.out.below HW.out.below).mono HW.out.below.size)
      clear hw hp hq HT HI R1
      go_wp2_with (first
        | (at_builtin; refine wpList_append_rd rfl (.tmp 32) (.tmp 33) _ rfl w1.heap.size 5 i0 (.int .u8 0) 1 Tryd.underlying55 hi hz0 hz1 hz2 rfl (.slice A2 64 c2) 64 (ubs p) rfl HW.out.i _ T n ct (ubs t) rfl (by rw [ubs_length, HN.out]) TW.out (ubs_one _) (by unfold maxLen; omega) (by omega) HW.out.below.size ?_; intro v4 w4 hown4 hgr4 _; (have hm4 := HW.out.more hown4 hgr4); obtain ⟨A4, c4, rfl, -⟩ := own_form hm4.1; have R4 := hid (Rd.of_own hm4.1); have O4 := hid hm4.2.1; have B4 := hid hm4.2.2; clear hown4 hgr4 hm4)
        | (go_at_call 50; (have cq := sumR_any (p ++ t) A4 c4 w4 R4.out (by rw [List.length_append, HPL.out, ← HN.out]; omega) (HT2.out.below B4.out) (Tab.below (x := IV.a) (xs := [IV.b, IV.c, IV.d, IV.e, IV.f, IV.g, IV.h]) HI2.out B4.out)); rw [List.length_append, HPL.out, ← HN.out] at cq; refine cq.mono ?_; clear cq; rintro e w5 ⟨rfl, hb5⟩; have B5 := hid (B4.out.trans (hb5.mono B4.out.size)); have O5 := hid (own_fr O4.out (Fr.of_new (S := fun _ => False) hb5) (fun _ _ h => h)); clear hb5 R4)
        | (refine wpList_store_row rfl _ (.tmp 9) (.tmp 35) rfl w5.heap.size (ubs (hashL (p ++ t))).toArray rfl rfl 61 (ubs n32).toArray (heap_alloc_new _ _) (HS.out _) ?e3 (ubs_all _) ?e4; rotate_right; have B6 := hid (B5.out.trans ((stored_below w5 (hashL (p ++ t))).mono B5.out.size)); have A6 := hid (stored_rb w5 (hashL (p ++ t))); have O6 := hid (own_fr O5.out (Fr.of_new (S := fun _ => False) (stored_below w5 (hashL (p ++ t)))) (fun _ _ h => h)); generalize ((w5.alloc (.cells (ubs n32).toArray 61)).setRow w5.heap.size (ubs (hashL (p ++ t))).toArray) = W6 at B6 A6 O6 ⊢)
        | (at_builtin; refine wpList_append_rd rfl (.tmp 36) (.tmp 37) _ rfl w1.heap.size 5 i0 (.int .u8 0) 1 Tryd.underlying55 hi hz0 hz1 hz2 rfl (.slice A3 64 c3) 64 (ubs q) rfl O6.out W6.heap.size (some ⟨w5.heap.size, 0, none⟩) 32 32 (ubs (hashL (p ++ t))) rfl (by rw [ubs_length, HK.out]) A6.out (ubs_one _) (by unfold maxLen; omega) (by omega) B6.out.size ?_; intro v7 w7 hown7 hgr7 _; rw [← ubs_append] at hown7; obtain ⟨A7, c7, rfl, -⟩ := own_form hown7; have R7 := hid (Rd.of_own hown7); have B7 := hid (B6.out.grown hgr7 B6.out.size (fun k hk => (World.ownsRow.lt O6.out k hk).1)); clear hown7 hgr7)
        | (go_at_call 50; (have cq := sumR_any (q ++ hashL (p ++ t)) A7 c7 w7 R7.out (by rw [List.length_append, HQL.out, HK.out]; omega) (HT2.out.below B7.out) (Tab.below (x := IV.a) (xs := [IV.b, IV.c, IV.d, IV.e, IV.f, IV.g, IV.h]) HI2.out B7.out)); rw [List.length_append, HQL.out, HK.out] at cq; refine cq.mono ?_; clear cq; rintro e w8 ⟨rfl, hb8⟩; have B8 := hid (B7.out.trans (hb8.mono B7.out.size)); have A8 := hid (A1.out.new_ B8.out); clear hb8)
        | (refine wpList_store_row rfl _ (.tmp 4) (.tmp 39) rfl w.heap.size (ubs (hashL (q ++ hashL (p ++ t)))).toArray rfl rfl 61 (ubs n32).toArray A8.out (HS.out _) ?e5 (ubs_all _) ?e6; rotate_right))
      case e3 => simp [ubs_length, n32_length, HK.out]
      case e5 => simp [ubs_length, n32_length, HK.out]
      refine bodyPost_ret (results_cell_row rfl _ _ w.heap.size 61 (ubs (hashL (q ++ hashL (p ++ t)))).toArray (0, 0) _ rfl (setRow_heap _ _ _ _ _ _ A8.out) Tryd.underlying61 rfl (HS.out _)) rfl ?_
      exact ⟨by rw [HM.out], below_setRow (B1.out.trans (B8.out.mono B1.out.size)) (Nat.le_refl _) _⟩
end Go.Proofs.YtnaihcoafgigcaaDoor
