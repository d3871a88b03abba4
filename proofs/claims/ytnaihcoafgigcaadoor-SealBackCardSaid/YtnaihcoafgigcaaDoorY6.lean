/-
  What a tag is, and its small parts in the program: masked block keys, single bytes, comparing bytes.
  The program's block key.
-/
import Derived.Test.YtnaihcoafgigcaaDoorY1
import Derived.Test.YtnaihcoafgigcaaDoorCc
namespace Go.Proofs.YtnaihcoafgigcaaDoor
open Go.RowKit

/-- Bytes XORed with one byte; the first k of them. -/
def maskL (b : List UInt8) (m : UInt8) : List UInt8 := b.map (· ^^^ m)
def maskk (b : List UInt8) (m : UInt8) (k : Nat) : List UInt8 := (b.take k).map (· ^^^ m) ++ b.drop k
theorem maskL_length (b : List UInt8) (m : UInt8) : (maskL b m).length = b.length := by simp [maskL]
theorem maskk_zero (b : List UInt8) (m : UInt8) : maskk b m 0 = b := by simp [maskk]
theorem maskk_all (b : List UInt8) (m : UInt8) (k : Nat) (h : b.length = k) : maskk b m k = maskL b m := by simp [maskk, maskL, ← h]
theorem maskk_length (b : List UInt8) (m : UInt8) (k : Nat) : (maskk b m k).length = b.length := by simp [maskk]; omega
theorem maskk_get (b : List UInt8) (m : UInt8) (k : Nat) (h : k < b.length) : (maskk b m k).getD k 0 = b.getD k 0 := by
  unfold maskk
  rw [List.getD_eq_getElem?_getD, List.getD_eq_getElem?_getD, List.getElem?_append_right (by simp; omega)]
  simp [Nat.min_eq_left (Nat.le_of_lt h)]
theorem maskk_succ (b : List UInt8) (m : UInt8) (k : Nat) (h : k < b.length) : maskk b m (k + 1) = (maskk b m k).set k (b.getD k 0 ^^^ m) := by
  have hg : b.getD k 0 = b[k] := by simp [h]
  unfold maskk
  have hl : ((b.take k).map (· ^^^ m)).length = k := by simp; omega
  rw [hg, List.set_append_right _ _ (by omega), List.take_succ_eq_append_getElem h, List.map_append, List.append_assoc, List.drop_eq_getElem_cons h, hl, Nat.sub_self]
  rfl
attribute [irreducible] maskk
/-- A key filled up to 64 bytes; the block key. -/
def padK (k : List UInt8) : List UInt8 := k ++ List.replicate (64 - k.length) 0
def blockL (k : List UInt8) : List UInt8 := padK (if 64 < k.length then hashL k else k)
theorem padK_length (k : List UInt8) (h : k.length ≤ 64) : (padK k).length = 64 := by simp [padK]; omega
theorem blockL_length (k : List UInt8) : (blockL k).length = 64 := by
  unfold blockL
  split
  · exact padK_length _ (by rw [hashL_length]; omega)
  · exact padK_length _ (by omega)
/-- The tag. -/
def macL (k t : List UInt8) : List UInt8 := hashL (maskL (blockL k) 92 ++ hashL (maskL (blockL k) 54 ++ t))
theorem macL_length (k t : List UInt8) : (macL k t).length = 32 := hashL_length _
theorem macL_eq (k t : List UInt8) : macL k t = hashL (maskL (blockL k) 92 ++ hashL (maskL (blockL k) 54 ++ t)) := rfl
theorem blockL_long (k : List UInt8) (h : 64 < k.length) : blockL k = padK (hashL k) := by unfold blockL; rw [if_pos h]
theorem blockL_short (k : List UInt8) (h : ¬ 64 < k.length) : blockL k = padK k := by unfold blockL; rw [if_neg h]

theorem n_xor (t : TypeId) (a b : Nat) (ha : a < 2 ^ 63) (hb : b < 2 ^ 63) : binOp .xor t (.int .i64 (a : Int)) (.int .i64 (b : Int)) = pure (.int .i64 ((a ^^^ b : Nat) : Int)) := by
  simp only [binOp_xor, Op.intBits]
  show (pure (.int .i64 (IntKind.i64.wrap ((BitVec.ofInt 64 (a : Int) ^^^ BitVec.ofInt 64 (b : Int)).toNat : Int))) : Sem Value) = _
  congr 2
  have h3 : a ^^^ b < 2 ^ 63 := Nat.xor_lt_two_pow ha hb
  rw [BitVec.ofInt_natCast, BitVec.ofInt_natCast, BitVec.toNat_xor, BitVec.toNat_ofNat, BitVec.toNat_ofNat, Nat.mod_eq_of_lt (by omega), Nat.mod_eq_of_lt (by omega), IntKind.wrap_i64]
  omega
theorem n_or (t : TypeId) (a b : Nat) (ha : a < 2 ^ 63) (hb : b < 2 ^ 63) : binOp .or t (.int .i64 (a : Int)) (.int .i64 (b : Int)) = pure (.int .i64 ((a ||| b : Nat) : Int)) := by
  simp only [binOp_or, Op.intBits]
  show (pure (.int .i64 (IntKind.i64.wrap ((BitVec.ofInt 64 (a : Int) ||| BitVec.ofInt 64 (b : Int)).toNat : Int))) : Sem Value) = _
  congr 2
  have h3 : a ||| b < 2 ^ 63 := Nat.or_lt_two_pow ha hb
  rw [BitVec.ofInt_natCast, BitVec.ofInt_natCast, BitVec.toNat_or, BitVec.toNat_ofNat, BitVec.toNat_ofNat, Nat.mod_eq_of_lt (by omega), Nat.mod_eq_of_lt (by omega), IntKind.wrap_i64]
  omega

set_option maxRecDepth 100000 in
/-- A block key masked: a copy in a block of its own. -/
theorem masked_any (b : List UInt8) (hb : b.length = 64) (m : UInt8) (w : World) :
    Calls Tryd.prog 61 #[.agg (ubs b).toArray, .int .u8 (m.toNat : Int)] w fun e w' => e = .returned (.slice (some ⟨w.heap.size, 0, none⟩) 64 64) ∧ At w' w.heap.size (ubs (maskL b m)).toArray 120 ∧ Below w.heap.size w w' := by
  have h0 := At.new w (ubs b).toArray 120
  have hb0 : Below w.heap.size w (w.alloc (.cells (ubs b).toArray 120)) := (Below.refl _ _).alloc (Nat.le_refl _) _
  have H0 := hid h0
  have HB := hid hb0
  have HL := hid hb
  clear h0 hb0 hb
  go_enter Tryd.func61, Tryd.ntmps61
  go_wp2
  go_loopw [6] (fun i wr => ∃ k : Nat, k ≤ 64 ∧ i = .int .i64 k ∧ At wr w.heap.size (ubs (maskk b m k)).toArray 120 ∧ Below w.heap.size w wr) (fun i _ => 64 - (intOf i).toNat)
  case atStart => exact ⟨0, by omega, rfl, by rw [maskk_zero]; exact H0.out, HB.out⟩
  case round =>
    clear H0 HB
    obtain ⟨k, hk, rfl, hA, hB⟩ := hrel
    have HA := hid hA
    have HB := hid hB
    clear hA hB
    by_cases hlt : k < 64
    · have c0 := at_ub_cell HA.out (i := k) (by rw [maskk_length, HL.out]; exact hlt)
      rw [maskk_get b m k (by rw [HL.out]; exact hlt)] at c0
      have f0 := HA.out.frozen k
      have HN := hid (maskk_succ b m k (by rw [HL.out]; exact hlt))
      obtain ⟨x, hx⟩ : ∃ x, x = b.getD k 0 := ⟨_, rfl⟩
      rw [← hx] at c0 HN
      clear hx
      have hx := b_xor 5 x m
      obtain ⟨y, hy⟩ : ∃ y, y = x ^^^ m := ⟨_, rfl⟩
      rw [← hy] at hx HN
      clear hy
      go_wp2
      go_roundw
      case rel => exact ⟨k + 1, by omega, by go_num, by rw [HN.out]; exact at_ub_put HA.out k _, HB.out.setCell (by simp) _⟩
      case measure => simp [intOf]; omega
    · obtain rfl : k = 64 := by omega
      have HN := hid (maskk_all b m 64 HL.out)
      go_wp2
      go_ret
      exact ⟨rfl, by rw [← HN.out]; exact HA.out, HB.out⟩
set_option maxRecDepth 100000 in
/-- A byte, or nought behind the end. -/
theorem at_any (a : List UInt8) (A : Option Addr) (c i : Nat) (w : World) (hr : Rb w w.heap.size A a) :
    Calls Tryd.prog 64 #[.slice A a.length c, .int .i64 (i : Int)] w fun e w' => e = .returned (.int .u8 ((a.getD i 0).toNat : Int)) ∧ w' = w := by
  by_cases h : i < a.length
  · obtain ⟨b, o, rfl, -, hc⟩ := hr.at_ (k := i) (ubs_at h)
    have hg : a.getD i 0 = a[i] := by simp [h]
    rw [hg]
    obtain ⟨x, hx⟩ : ∃ x, x = a[i] := ⟨_, rfl⟩
    rw [← hx] at hc ⊢
    obtain ⟨n, hn⟩ : ∃ n, n = a.length := ⟨_, rfl⟩
    rw [← hn] at h ⊢
    clear hr hx hg hn
    go_enter Tryd.func64, Tryd.ntmps64
    go_wp2
    go_ret
    exact ⟨rfl, rfl⟩
  · have hg : a.getD i 0 = 0 := by simp [List.getElem?_eq_none (Nat.le_of_not_lt h)]
    rw [hg]
    obtain ⟨n, hn⟩ : ∃ n, n = a.length := ⟨_, rfl⟩
    rw [← hn] at h ⊢
    clear hr hg hn
    go_enter Tryd.func64, Tryd.ntmps64
    go_wp2
    go_ret
    exact ⟨rfl, rfl⟩
end Go.Proofs.YtnaihcoafgigcaaDoor

namespace Go.Proofs.YtnaihcoafgigcaaDoor
open Go.RowKit

def n64 : List UInt8 := List.replicate 64 0
theorem n64_length : n64.length = 64 := by simp [n64]
theorem noughts64 : #[Value.int .u8 0, .int .u8 0, .int .u8 0, .int .u8 0, .int .u8 0, .int .u8 0, .int .u8 0, .int .u8 0, .int .u8 0, .int .u8 0, .int .u8 0, .int .u8 0, .int .u8 0, .int .u8 0, .int .u8 0, .int .u8 0, .int .u8 0, .int .u8 0, .int .u8 0, .int .u8 0, .int .u8 0, .int .u8 0, .int .u8 0, .int .u8 0, .int .u8 0, .int .u8 0, .int .u8 0, .int .u8 0, .int .u8 0, .int .u8 0, .int .u8 0, .int .u8 0, .int .u8 0, .int .u8 0, .int .u8 0, .int .u8 0, .int .u8 0, .int .u8 0, .int .u8 0, .int .u8 0, .int .u8 0, .int .u8 0, .int .u8 0, .int .u8 0, .int .u8 0, .int .u8 0, .int .u8 0, .int .u8 0, .int .u8 0, .int .u8 0, .int .u8 0, .int .u8 0, .int .u8 0, .int .u8 0, .int .u8 0, .int .u8 0, .int .u8 0, .int .u8 0, .int .u8 0, .int .u8 0, .int .u8 0, .int .u8 0, .int .u8 0, .int .u8 0] = (ubs n64).toArray := rfl
theorem sizeB64' : (Tryd.prog.info? 120).map (·.size) = some 64 := by kernel_rfl
theorem padK_splice (k : List UInt8) (h : k.length ≤ 64) : splice (ubs n64) 0 ((ubs k).take 64) = ubs (padK k) := by
  rw [List.take_of_length_le (by rw [ubs_length]; exact h)]
  simp only [splice, List.take_zero, List.nil_append, ubs_length, Nat.zero_add, ubs_drop, ← ubs_append, n64, List.drop_replicate, padK]
/-- What holds while a block key is made: its result, the block, the rest below. -/
structure BkW (w : World) (xs : List UInt8) (W : World) : Prop where
  res : At W w.heap.size (ubs n64).toArray 120
  blk : At W (w.heap.size + 1) (ubs xs).toArray 120
  below : Below w.heap.size w W
theorem BkW.next {w W W' : World} {xs : List UInt8} (h : BkW w xs W) (hb : Below W.heap.size W W') : BkW w xs W' :=
  ⟨h.res.new_ hb, h.blk.new_ hb, h.below.trans (hb.mono h.below.size)⟩
theorem BkW.fill {w W W' : World} {xs ys : List UInt8} (h : BkW w xs W) (hf : Fr (fun k => k = w.heap.size + 1) W W') (ha : At W' (w.heap.size + 1) (ubs ys).toArray 120) : BkW w ys W' :=
  ⟨h.res.fr hf (by omega), ha, h.below.trans (hf.below (fun k hk => by omega) h.below.size)⟩
theorem BkW.start (w : World) : BkW w n64 ((w.alloc (.cells (ubs n64).toArray 120)).alloc (.cells (ubs n64).toArray 120)) :=
  ⟨(At.new w _ _).alloc _, At.new_at (by simp), ((Below.refl _ _).alloc (Nat.le_refl _) _).alloc (by simp) _⟩
/-- A hash put into a block of its own. -/
theorem stored_below (w : World) (h : List UInt8) : Below w.heap.size w ((w.alloc (.cells (ubs n32).toArray 61)).setRow w.heap.size (ubs h).toArray) := below_setRow ((Below.refl _ _).alloc (Nat.le_refl _) _) (Nat.le_refl _) _
theorem stored_at (w : World) (h : List UInt8) : At ((w.alloc (.cells (ubs n32).toArray 61)).setRow w.heap.size (ubs h).toArray) w.heap.size (ubs h).toArray 61 := setRow_heap _ _ (ubs n32).toArray _ _ _ (At.new _ _ _)
theorem stored_rb (w : World) (h : List UInt8) : Rb ((w.alloc (.cells (ubs n32).toArray 61)).setRow w.heap.size (ubs h).toArray) ((w.alloc (.cells (ubs n32).toArray 61)).setRow w.heap.size (ubs h).toArray).heap.size (some ⟨w.heap.size, 0, none⟩) h := rb_at (stored_at w h)
set_option maxRecDepth 100000 in
set_option maxHeartbeats 4000000 in
theorem block_any (k : List UInt8) (A : Option Addr) (c : Nat) (w : World) (hr : Rb w w.heap.size A k) (hlen : k.length ≤ 1000000000) (hT : Tabs w) :
    Calls Tryd.prog 59 #[.slice A k.length c] w fun e w' => e = .returned (.agg (ubs (blockL k)).toArray) ∧ Below w.heap.size w w' := by
  obtain ⟨W0, hW0⟩ : ∃ W0, W0 = (w.alloc (.cells (ubs n64).toArray 120)).alloc (.cells (ubs n64).toArray 120) := ⟨_, rfl⟩
  have h0 : BkW w n64 W0 := hW0 ▸ BkW.start w
  have H0 := hid h0
  have HR := hid ((hr.below h0.below).mono h0.below.size)
  have HT := hid (hT.below h0.below)
  have hz := noughts64
  have hz2 := noughts32
  have HZ := hid (show (Tryd.prog.info? 120).map (·.size) = some (ubs (blockL k)).toArray.size by rw [sizeB64']; simp [ubs_length, blockL_length])
  have HN := hid (blockL_length k)
  have HS := hid (show (Tryd.prog.info? 61).map (·.size) = some (ubs (hashL k)).toArray.size by rw [sizeH]; simp [ubs_length, hashL_length])
  have HK := hid (hashL_length k)
  clear hr hT h0
  by_cases hbig : 64 < k.length
  · have HB := hid (blockL_long k hbig)
    have HP := hid (padK_splice (hashL k) (by rw [hashL_length]; omega))
    have hsum := fun c => sum_any k A c W0 HR.out (by omega) HT.out
    obtain ⟨n, hn⟩ : ∃ n, n = k.length := ⟨_, rfl⟩
    rw [← hn] at hsum hbig hlen ⊢
    have HU := hid hsum
    clear hn hsum HR HT
    subst hW0
    go_enter Tryd.func59, Tryd.ntmps59
    go_wp2_with (first
      | (go_at_call 75; refine (HU.out _).mono ?_; rintro e w1 ⟨rfl, hb1⟩; have H1 := hid (H0.out.next hb1); clear hb1)
      | (refine wpList_store_row rfl _ (.tmp 4) (.tmp 9) rfl w1.heap.size (ubs (hashL k)).toArray rfl rfl 61 (ubs n32).toArray (heap_alloc_new _ _) HS.out ?e3 (ubs_all _) ?e4; rotate_right; have H2 := hid (H1.out.next (stored_below w1 (hashL k))); have K2 := hid (stored_rb w1 (hashL k)); generalize ((w1.alloc (.cells (ubs n32).toArray 61)).setRow w1.heap.size (ubs (hashL k)).toArray) = W2 at H2 K2 ⊢)
      | (refine wpList_copy_rd rfl (.tmp 11) (.tmp 12) _ _ rfl 5 Tryd.underlying55 sizeU8 (w.heap.size + 1) 0 64 64 W2.heap.size (some ⟨w1.heap.size, 0, none⟩) 32 32 rfl rfl (ubs n64) 120 H2.out.blk (ubs (hashL k)) K2.out (by rw [ubs_length]; exact HK.out) (by rw [ubs_length, n64_length]; omega) (ubs_one _) ?_; intro w3 hA3 hF3; rw [HP.out, ← HB.out] at hA3; have H3 := hid (H2.out.fill hF3 hA3); clear hA3 hF3)
      | (refine wpList_load_row rfl _ (.tmp 3) rfl (w.heap.size + 1) rfl 120 (ubs (blockL k)).toArray (0, 0) _ H3.out.blk Tryd.underlying120 rfl HZ.out ?_)
      | (refine wpList_store_row rfl _ (.tmp 2) (.tmp 14) rfl w.heap.size (ubs (blockL k)).toArray rfl rfl 120 (ubs n64).toArray H3.out.res HZ.out ?e5 (ubs_all _) ?e6; rotate_right))
    case e3 => simp [ubs_length, n32_length, HK.out]
    case e5 => simp [ubs_length, n64_length, HN.out]
    refine bodyPost_ret (results_cell_row rfl _ _ w.heap.size 120 (ubs (blockL k)).toArray (0, 0) _ rfl (setRow_heap _ _ _ _ _ _ H3.out.res) Tryd.underlying120 rfl HZ.out) rfl ?_
    exact ⟨rfl, below_setRow H3.out.below (Nat.le_refl _) _⟩
  · have HB := hid (blockL_short k hbig)
    have HP := hid (padK_splice k (by omega))
    obtain ⟨n, hn⟩ : ∃ n, n = k.length := ⟨_, rfl⟩
    have HL := hid hn
    rw [← hn] at hbig hlen ⊢
    clear hn HT HS HK hz2
    subst hW0
    go_enter Tryd.func59, Tryd.ntmps59
    go_wp2_with (first
      | (refine wpList_copy_rd rfl (.tmp 11) (.tmp 12) _ _ rfl 5 Tryd.underlying55 sizeU8 (w.heap.size + 1) 0 64 64 _ A n c rfl rfl (ubs n64) 120 H0.out.blk (ubs k) HR.out (by rw [ubs_length]; exact HL.out.symm) (by rw [ubs_length, n64_length]; omega) (ubs_one _) ?_; intro w3 hA3 hF3; rw [HP.out, ← HB.out] at hA3; have H3 := hid (H0.out.fill hF3 hA3); clear hA3 hF3)
      | (refine wpList_load_row rfl _ (.tmp 3) rfl (w.heap.size + 1) rfl 120 (ubs (blockL k)).toArray (0, 0) _ H3.out.blk Tryd.underlying120 rfl HZ.out ?_)
      | (refine wpList_store_row rfl _ (.tmp 2) (.tmp 14) rfl w.heap.size (ubs (blockL k)).toArray rfl rfl 120 (ubs n64).toArray H3.out.res HZ.out ?e7 (ubs_all _) ?e8; rotate_right))
    case e7 => simp [ubs_length, n64_length, HN.out]
    refine bodyPost_ret (results_cell_row rfl _ _ w.heap.size 120 (ubs (blockL k)).toArray (0, 0) _ rfl (setRow_heap _ _ _ _ _ _ H3.out.res) Tryd.underlying120 rfl HZ.out) rfl ?_
    exact ⟨rfl, below_setRow H3.out.below (Nat.le_refl _) _⟩
end Go.Proofs.YtnaihcoafgigcaaDoor
