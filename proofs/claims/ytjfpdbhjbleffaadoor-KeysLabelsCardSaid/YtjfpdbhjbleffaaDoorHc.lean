/-
  The program's block key.
-/
import Derived.Test.YtjfpdbhjbleffaaDoorCm
import Derived.Test.YtjfpdbhjbleffaaDoorHb
namespace Go.Proofs.YtjfpdbhjbleffaaDoor
open Go.RowKit

def n64 : List UInt8 := List.replicate 64 0
theorem n64_length : n64.length = 64 := by simp [n64]
theorem noughts64 : #[Value.int .u8 0, .int .u8 0, .int .u8 0, .int .u8 0, .int .u8 0, .int .u8 0, .int .u8 0, .int .u8 0, .int .u8 0, .int .u8 0, .int .u8 0, .int .u8 0, .int .u8 0, .int .u8 0, .int .u8 0, .int .u8 0, .int .u8 0, .int .u8 0, .int .u8 0, .int .u8 0, .int .u8 0, .int .u8 0, .int .u8 0, .int .u8 0, .int .u8 0, .int .u8 0, .int .u8 0, .int .u8 0, .int .u8 0, .int .u8 0, .int .u8 0, .int .u8 0, .int .u8 0, .int .u8 0, .int .u8 0, .int .u8 0, .int .u8 0, .int .u8 0, .int .u8 0, .int .u8 0, .int .u8 0, .int .u8 0, .int .u8 0, .int .u8 0, .int .u8 0, .int .u8 0, .int .u8 0, .int .u8 0, .int .u8 0, .int .u8 0, .int .u8 0, .int .u8 0, .int .u8 0, .int .u8 0, .int .u8 0, .int .u8 0, .int .u8 0, .int .u8 0, .int .u8 0, .int .u8 0, .int .u8 0, .int .u8 0, .int .u8 0, .int .u8 0] = (ubs n64).toArray := rfl
theorem sizeB64' : (Tryd.prog.info? 67).map (·.size) = some 64 := by kernel_rfl
theorem padK_splice (k : List UInt8) (h : k.length ≤ 64) : splice (ubs n64) 0 ((ubs k).take 64) = ubs (padK k) := by
  rw [List.take_of_length_le (by rw [ubs_length]; exact h)]
  simp only [splice, List.take_zero, List.nil_append, ubs_length, Nat.zero_add, ubs_drop, ← ubs_append, n64, List.drop_replicate, padK]
/-- What holds while a block key is made: its result, the block, the rest below. -/
structure BkW (w : World) (xs : List UInt8) (W : World) : Prop where
  res : At W w.heap.size (ubs n64).toArray 67
  blk : At W (w.heap.size + 1) (ubs xs).toArray 67
  below : Below w.heap.size w W
theorem BkW.next {w W W' : World} {xs : List UInt8} (h : BkW w xs W) (hb : Below W.heap.size W W') : BkW w xs W' :=
  ⟨h.res.new_ hb, h.blk.new_ hb, h.below.trans (hb.mono h.below.size)⟩
theorem BkW.fill {w W W' : World} {xs ys : List UInt8} (h : BkW w xs W) (hf : Fr (fun k => k = w.heap.size + 1) W W') (ha : At W' (w.heap.size + 1) (ubs ys).toArray 67) : BkW w ys W' :=
  ⟨h.res.fr hf (by omega), ha, h.below.trans (hf.below (fun k hk => by omega) h.below.size)⟩
theorem BkW.start (w : World) : BkW w n64 ((w.alloc (.cells (ubs n64).toArray 67)).alloc (.cells (ubs n64).toArray 67)) :=
  ⟨(At.new w _ _).alloc _, At.new_at (by simp), ((Below.refl _ _).alloc (Nat.le_refl _) _).alloc (by simp) _⟩
/-- A hash put into a block of its own. -/
theorem stored_below (w : World) (h : List UInt8) : Below w.heap.size w ((w.alloc (.cells (ubs n32).toArray 27)).setRow w.heap.size (ubs h).toArray) := below_setRow ((Below.refl _ _).alloc (Nat.le_refl _) _) (Nat.le_refl _) _
theorem stored_at (w : World) (h : List UInt8) : At ((w.alloc (.cells (ubs n32).toArray 27)).setRow w.heap.size (ubs h).toArray) w.heap.size (ubs h).toArray 27 := setRow_heap _ _ (ubs n32).toArray _ _ _ (At.new _ _ _)
theorem stored_rb (w : World) (h : List UInt8) : Rb ((w.alloc (.cells (ubs n32).toArray 27)).setRow w.heap.size (ubs h).toArray) ((w.alloc (.cells (ubs n32).toArray 27)).setRow w.heap.size (ubs h).toArray).heap.size (some ⟨w.heap.size, 0, none⟩) h := rb_at (stored_at w h)
set_option maxRecDepth 100000 in
set_option maxHeartbeats 4000000 in
theorem block_any (k : List UInt8) (A : Option Addr) (c : Nat) (w : World) (hr : Rb w w.heap.size A k) (hlen : k.length ≤ 1000000000) (hT : Tabs w) :
    Calls Tryd.prog 30 #[.slice A k.length c] w fun e w' => e = .returned (.agg (ubs (blockL k)).toArray) ∧ Below w.heap.size w w' := by
  obtain ⟨W0, hW0⟩ : ∃ W0, W0 = (w.alloc (.cells (ubs n64).toArray 67)).alloc (.cells (ubs n64).toArray 67) := ⟨_, rfl⟩
  have h0 : BkW w n64 W0 := hW0 ▸ BkW.start w
  have H0 := hid h0
  have HR := hid ((hr.below h0.below).mono h0.below.size)
  have HT := hid (hT.below h0.below)
  have hz := noughts64
  have hz2 := noughts32
  have HZ := hid (show (Tryd.prog.info? 67).map (·.size) = some (ubs (blockL k)).toArray.size by rw [sizeB64']; simp [ubs_length, blockL_length])
  have HN := hid (blockL_length k)
  have HS := hid (show (Tryd.prog.info? 27).map (·.size) = some (ubs (hashL k)).toArray.size by rw [sizeH]; simp [ubs_length, hashL_length])
  have HK := hid (hashL_length k)
  clear hr hT h0
  by_cases hbig : 64 < k.length
  · have HB := hid (blockL_long k hbig)
    have HP := hid (padK_splice (hashL k) (by rw [hashL_length]; omega))
    have hsum := fun c => sum_any k A c W0 HR.out (by omega) HT.out
    obtain ⟨n, hn⟩ : ∃ n, n = k.length := ⟨_, rfl⟩
    rw [← hn] at hsum hbig hlen ⊢
    have HU := hid hsum
    clear hn hsum HR HT
    subst hW0
    go_enter Tryd.func30, Tryd.ntmps30
    go_wp2_with (first
      | (go_at_call 36; refine (HU.out _).mono ?_; rintro e w1 ⟨rfl, hb1⟩; have H1 := hid (H0.out.next hb1); clear hb1)
      | (refine wpList_store_row rfl _ (.tmp 4) (.tmp 9) rfl w1.heap.size (ubs (hashL k)).toArray rfl rfl 27 (ubs n32).toArray (heap_alloc_new _ _) HS.out ?e3 (ubs_all _) ?e4; rotate_right; have H2 := hid (H1.out.next (stored_below w1 (hashL k))); have K2 := hid (stored_rb w1 (hashL k)); generalize ((w1.alloc (.cells (ubs n32).toArray 27)).setRow w1.heap.size (ubs (hashL k)).toArray) = W2 at H2 K2 ⊢)
      | (refine wpList_copy_rd rfl (.tmp 11) (.tmp 12) _ _ rfl 5 Tryd.underlying41 sizeU8 (w.heap.size + 1) 0 64 64 W2.heap.size (some ⟨w1.heap.size, 0, none⟩) 32 32 rfl rfl (ubs n64) 67 H2.out.blk (ubs (hashL k)) K2.out (by rw [ubs_length]; exact HK.out) (by rw [ubs_length, n64_length]; omega) (ubs_one _) ?_; intro w3 hA3 hF3; rw [HP.out, ← HB.out] at hA3; have H3 := hid (H2.out.fill hF3 hA3); clear hA3 hF3)
      | (refine wpList_load_row rfl _ (.tmp 3) rfl (w.heap.size + 1) rfl 67 (ubs (blockL k)).toArray (0, 0) _ H3.out.blk Tryd.underlying67 rfl HZ.out ?_)
      | (refine wpList_store_row rfl _ (.tmp 2) (.tmp 14) rfl w.heap.size (ubs (blockL k)).toArray rfl rfl 67 (ubs n64).toArray H3.out.res HZ.out ?e5 (ubs_all _) ?e6; rotate_right))
    case e3 => simp [ubs_length, n32_length, HK.out]
    case e5 => simp [ubs_length, n64_length, HN.out]
    refine bodyPost_ret (results_cell_row rfl _ _ w.heap.size 67 (ubs (blockL k)).toArray (0, 0) _ rfl (setRow_heap _ _ _ _ _ _ H3.out.res) Tryd.underlying67 rfl HZ.out) rfl ?_
    exact ⟨rfl, below_setRow H3.out.below (Nat.le_refl _) _⟩
  · have HB := hid (blockL_short k hbig)
    have HP := hid (padK_splice k (by omega))
    obtain ⟨n, hn⟩ : ∃ n, n = k.length := ⟨_, rfl⟩
    have HL := hid hn
    rw [← hn] at hbig hlen ⊢
    clear hn HT HS HK hz2
    subst hW0
    go_enter Tryd.func30, Tryd.ntmps30
    go_wp2_with (first
      | (refine wpList_copy_rd rfl (.tmp 11) (.tmp 12) _ _ rfl 5 Tryd.underlying41 sizeU8 (w.heap.size + 1) 0 64 64 _ A n c rfl rfl (ubs n64) 67 H0.out.blk (ubs k) HR.out (by rw [ubs_length]; exact HL.out.symm) (by rw [ubs_length, n64_length]; omega) (ubs_one _) ?_; intro w3 hA3 hF3; rw [HP.out, ← HB.out] at hA3; have H3 := hid (H0.out.fill hF3 hA3); clear hA3 hF3)
      | (refine wpList_load_row rfl _ (.tmp 3) rfl (w.heap.size + 1) rfl 67 (ubs (blockL k)).toArray (0, 0) _ H3.out.blk Tryd.underlying67 rfl HZ.out ?_)
      | (refine wpList_store_row rfl _ (.tmp 2) (.tmp 14) rfl w.heap.size (ubs (blockL k)).toArray rfl rfl 67 (ubs n64).toArray H3.out.res HZ.out ?e7 (ubs_all _) ?e8; rotate_right))
    case e7 => simp [ubs_length, n64_length, HN.out]
    refine bodyPost_ret (results_cell_row rfl _ _ w.heap.size 67 (ubs (blockL k)).toArray (0, 0) _ rfl (setRow_heap _ _ _ _ _ _ H3.out.res) Tryd.underlying67 rfl HZ.out) rfl ?_
    exact ⟨rfl, below_setRow H3.out.below (Nat.le_refl _) _⟩
end Go.Proofs.YtjfpdbhjbleffaaDoor
