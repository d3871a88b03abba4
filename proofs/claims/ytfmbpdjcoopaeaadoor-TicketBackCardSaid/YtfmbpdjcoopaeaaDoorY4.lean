/-
  Sixty-four noughts.
  The blocks of a text, one by one: the iterator's contract.
  The program's hash of a text.
  Comparing two hashes, and two states.
  Keys and hashes compared, by one operation.
-/
import Derived.Test.YtfmbpdjcoopaeaaDoorY1
import Derived.Test.YtfmbpdjcoopaeaaDoorCp
import Derived.Test.YtfmbpdjcoopaeaaDoorY3
import Derived.Shelf.Abstract
import Derived.ChangeKeysEq
import Derived.Test.YtfmbpdjcoopaeaaDoorX0
namespace Go.Proofs.YtfmbpdjcoopaeaaDoor
open Go.RowKit

def z64b : List UInt8 := List.replicate 64 0
theorem z64b_length : z64b.length = 64 := by simp [z64b]
theorem zero64b : #[Value.int .u8 0, .int .u8 0, .int .u8 0, .int .u8 0, .int .u8 0, .int .u8 0, .int .u8 0, .int .u8 0, .int .u8 0, .int .u8 0, .int .u8 0, .int .u8 0, .int .u8 0, .int .u8 0, .int .u8 0, .int .u8 0, .int .u8 0, .int .u8 0, .int .u8 0, .int .u8 0, .int .u8 0, .int .u8 0, .int .u8 0, .int .u8 0, .int .u8 0, .int .u8 0, .int .u8 0, .int .u8 0, .int .u8 0, .int .u8 0, .int .u8 0, .int .u8 0, .int .u8 0, .int .u8 0, .int .u8 0, .int .u8 0, .int .u8 0, .int .u8 0, .int .u8 0, .int .u8 0, .int .u8 0, .int .u8 0, .int .u8 0, .int .u8 0, .int .u8 0, .int .u8 0, .int .u8 0, .int .u8 0, .int .u8 0, .int .u8 0, .int .u8 0, .int .u8 0, .int .u8 0, .int .u8 0, .int .u8 0, .int .u8 0, .int .u8 0, .int .u8 0, .int .u8 0, .int .u8 0, .int .u8 0, .int .u8 0, .int .u8 0, .int .u8 0] = (ubs z64b).toArray := rfl
end Go.Proofs.YtfmbpdjcoopaeaaDoor

namespace Go.Proofs.YtfmbpdjcoopaeaaDoor
open Go.RowKit

attribute [local go_sem] Oper.semAt_some

/-- Block number k of a padded text. -/
def chunk (p : List UInt8) (k : Nat) : List UInt8 := (p.drop (64 * k)).take 64
theorem chunk_length {p : List UInt8} {q k : Nat} (hq : p.length = 64 * q) (hk : k < q) : (chunk p k).length = 64 := by
  unfold chunk
  rw [List.length_take, List.length_drop, hq]
  omega
theorem chunk_get {p : List UInt8} {k j : Nat} {v : Value} (h : (ubs (chunk p k))[j]? = some v) : (ubs p)[64 * k + j]? = some v := by
  unfold chunk at h
  rw [ubs_get, List.getElem?_take] at h
  split at h
  · rw [List.getElem?_drop] at h
    rw [ubs_get]
    exact h
  · cases h
attribute [irreducible] chunk
/-- How long a slice is. -/
def lenS : Value → Nat
  | .slice _ m _ => m
  | _ => 0
theorem lenS_slice (A : Option Addr) (m c : Nat) : lenS (.slice A m c) = m := rfl
/-- A block as it is handed to the body. -/
def encB (p : List UInt8) (q : Nat) (x : Fin q) : Array Value := #[.agg (ubs (chunk p x.val)).toArray]

set_option maxRecDepth 100000 in
set_option maxHeartbeats 4000000 in
theorem blocks1_in (n l Bn C q : Nat) (bs : List UInt8) (A : Option Addr) (c : Nat) (hq : (padL bs).length = 64 * q) (hlen : bs.length ≤ 140737488351232) (J Jx : List (Fin q) → World → Prop) (W : World)
    (hJ : AbidesFrom W.heap.size J)
    (hY : ∀ pre x W1, J pre W1 → pre.length < q → YieldAt Fence.wide (n - 1) Tryd.prog l (encB (padL bs) q x) W1 fun e W' =>
      (e = .returned (.bool true) ∧ J (pre ++ [x]) W' ∧ KeepsBut C W1 W') ∨ (e = .returned (.bool false) ∧ Jx (pre ++ [x]) W'))
    (hBn : W.cell? ⟨Bn, 0, none⟩ = some (.slice A bs.length c)) (hr : Rb W W.heap.size A bs) (hC : C < W.heap.size) (h0 : J [] W) :
    CallsIn Fence.wide n Tryd.prog 200 #[.func (.yield l) #[] #[], .pointer (some ⟨Bn, 0, none⟩)] W fun e W' => (∃ v, e = .returned v) ∧
      ((∃ xs : List (Fin q), xs.map Fin.val = List.range q ∧ J xs W') ∨ (∃ pre : List (Fin q), True ∧ Jx pre W')) := by
  obtain ⟨p, hp⟩ : ∃ p, p = padL bs := ⟨_, rfl⟩
  rw [← hp] at hY hq
  have HR := hid hr
  have HJ := hid hJ
  have HY := hid hY
  have H0 := hid h0
  have HP := hid hp
  have HQ := hid hq
  have hq0 : 64 * q ≤ 140737488351400 := by have := padL_length bs; rw [← hp] at this; omega
  clear hr hJ hY h0 hp hq
  refine callsIn_of_wp Tryd.func200 rfl trivial ?_ rfl
  simp only [Tryd.ntmps200, List.size_toArray, List.length_cons, List.length_nil, Nat.reduceAdd, Nat.reduceSub, Array.replicate_succ, Array.replicate_zero, List.push_toArray, List.append_toArray, List.nil_append, List.cons_append]
  gi_wp2_with (refine ⟨trivial, (fun h => by cases h), ?_⟩; gi_at_call 201; refine (callsIn_wide.2 (pad_any bs A c W HR.out hlen)).mono ?_; rintro e W1 ⟨g, m, rfl, hm, hA, hg, hb⟩; have HM := hid hm; have HA := hid hA; have HB := hid hb; clear hm hA hb)
  have hgC : g ≠ C := by omega
  have hJ1 : J [] W1 := HJ.out _ _ _ none H0.out (grown_of_below HB.out) (fun r e => by cases e)
  have HJ1 := hid hJ1
  have HA1 := hid (show At W1 g (ubs p).toArray 5 by have := HA.out; rw [← HP.out] at this; exact this)
  have hm64 : m = 64 * q := by rw [HM.out, ← HP.out, HQ.out]
  clear hJ1 HJ H0 HA HB HR hBn HM
  subst hm64
  gi_loopw [3] (fun v wr => ∃ (k m' : Nat) (pre : List (Fin q)) (Ak : Option Addr), v = .slice Ak m' m' ∧ Hid (m' = 64 * (q - k)) ∧ k ≤ q ∧ Hid (k < q → Ak = some ⟨g, 64 * k, none⟩) ∧ Hid (pre.map Fin.val = List.range k) ∧ Hid (J pre wr) ∧ At wr g (ubs p).toArray 5)
    (fun v _ => lenS v)
  case atStart => exact ⟨0, 64 * q, [], some ⟨g, 0, none⟩, rfl, by show 64 * q = _; omega, by omega, fun _ => rfl, rfl, HJ1.out, HA1.out⟩
  case round =>
    clear HJ1 HA1
    obtain ⟨k, m', pre, Ak, rfl, HM, hk, HK, HPre, HJ, hA⟩ := hrel
    have HA := hid hA
    clear hA
    have hlenp : pre.length = k := by have := congrArg List.length HPre.out; simpa using this
    by_cases hlt : k < q
    · obtain rfl := HK.out hlt
      have hm1 : 64 ≤ m' := by have := HM.out; omega
      have hm2 : m' ≤ 140737488351400 := by have := HM.out; omega
      obtain ⟨fn, tmps, assign, body, hy, hR⟩ := HY.out pre ⟨k, hlt⟩ wr HJ.out (by omega)
      simp only [encB] at hy
      have HCH := hid (show (ubs (chunk p k)).length = 64 by rw [ubs_length, chunk_length HQ.out hlt])
      clear hlenp HK
      gi_wp2_with (first
        | (refine wpListIn_arrayAt rfl _ (.tmp 12) rfl (some ⟨g, 64 * k, none⟩) m' m' 64 _ rfl Tryd.underlying208 hm1 ?_)
        | (refine wpListIn_load_piece rfl _ (.tmp 13) rfl g (64 * k) rfl (ubs (chunk p k)) _ (fun j v hj => (HA.out.cell (64 * k + j)).trans (by rw [List.getElem?_toArray]; exact chunk_get hj)) Tryd.underlying208 rfl (by rw [sizeB64, HCH.out]) ?_))
      refine ⟨(fun h => by cases h), hR.mono ?_⟩
      clear hR hy
      rintro e W3 (⟨rfl, hJ3, hK3⟩ | ⟨rfl, hx3⟩)
      · have HJ3 := hid hJ3
        have HA3 := hid (hK3.at_ HA.out hgC)
        have HP3 := hid (show (pre ++ [(⟨k, hlt⟩ : Fin q)]).map Fin.val = List.range (k + 1) by rw [List.map_append, HPre.out, List.range_succ]; rfl)
        clear hJ3 hK3
        by_cases hm : m' = 64
        · subst hm
          have hkq : k + 1 = q := by have := HM.out; omega
          have HKQ := hid hkq
          clear hkq
          gi_wp2
          go_roundw
          case rel =>
            refine ⟨k + 1, 0, pre ++ [⟨k, hlt⟩], _, rfl, ?_, by omega, ?_, HP3, HJ3, HA3.out⟩
            · show 0 = 64 * (q - (k + 1)); have := HKQ.out; omega
            · intro h; have := HKQ.out; omega
          case measure => simp [lenS_slice]
        · have hm3 : 64 < m' := by omega
          gi_wp2
          go_roundw
          case rel =>
            refine ⟨k + 1, m' - 64, pre ++ [⟨k, hlt⟩], _, rfl, ?_, by omega, ?_, HP3, HJ3, HA3.out⟩
            · show m' - 64 = 64 * (q - (k + 1)); have := HM.out; omega
            · intro h; rw [show 64 * (k + 1) = 64 * k + 64 by omega]
          case measure => simp [lenS_slice]; omega
      · gi_wp2
        refine bodyPost_ret (results_none rfl _ _ _) rfl ?_
        exact ⟨⟨_, rfl⟩, .inr ⟨_, trivial, hx3⟩⟩
    · obtain rfl : k = q := by omega
      have hm0 : m' = 0 := by have := HM.out; omega
      subst hm0
      clear HK HY
      gi_wp2
      go_end0
      exact ⟨⟨_, rfl⟩, .inl ⟨pre, HPre.out, HJ.out⟩⟩
/-- The iterator, as the law for the loop wants it. -/
theorem blocks_stops (n Bn C q : Nat) (bs : List UInt8) (A : Option Addr) (c : Nat) (hq : (padL bs).length = 64 * q) (hlen : bs.length ≤ 140737488351232) (w : World) (hBn : Bn < w.heap.size) (hc : w.cell? ⟨Bn, 0, none⟩ = some (.slice A bs.length c)) (hr : Rb w w.heap.size A bs) (hC : C < w.heap.size) :
    SeqStopsK Fence.wide n Tryd.prog 200 #[.pointer (some ⟨Bn, 0, none⟩)] (encB (padL bs) q) (KeepsBut C) (fun xs => xs.map Fin.val = List.range q) (fun _ => True) q w := fun l J Jx W hW hJ _ hY h0 =>
  blocks1_in n l Bn C q bs A c hq hlen J Jx W hJ hY ((hW.cell (p := ⟨Bn, 0, none⟩) hBn).trans hc) ((hr.below hW).mono hW.size) (by have := hW.size; omega) h0
end Go.Proofs.YtfmbpdjcoopaeaaDoor

namespace Go.Proofs.YtfmbpdjcoopaeaaDoor
open Go.RowKit Go.Shelf

attribute [local go_sem] Oper.semAt_some

/-- The state behind some blocks. -/
def stX (p : List UInt8) (q : Nat) (pre : List (Fin q)) : S8 := pre.foldl (fun s x => comp s (chunk p x.val)) IV
theorem stX_snoc (p : List UInt8) (q : Nat) (pre : List (Fin q)) (x : Fin q) : stX p q (pre ++ [x]) = comp (stX p q pre) (chunk p x.val) := by simp [stX]
theorem stX_nil (p : List UInt8) (q : Nat) : stX p q [] = IV := rfl
theorem fold_range (p : List UInt8) (k : Nat) : (List.range k).foldl (fun s x => comp s (chunk p x)) IV = folds p k := by
  induction k with
  | zero => exact (folds_zero p).symm
  | succ k ih =>
    rw [List.range_succ, List.foldl_append, ih, folds_succ]
    unfold chunk
    rfl
theorem stX_all (p : List UInt8) (q : Nat) (xs : List (Fin q)) (h : xs.map Fin.val = List.range q) : stX p q xs = folds p q := by
  rw [← fold_range, ← h, List.foldl_map]
  rfl
attribute [irreducible] stX
set_option maxRecDepth 100000 in
theorem blocks_any (A : Option Addr) (n c : Nat) (w : World) :
    Calls Tryd.prog 182 #[.slice A n c] w fun e w' => e = .returned (.func (.func 200) #[] #[.pointer (some ⟨w.heap.size, 0, none⟩)]) ∧ w.alloc (.cells #[.slice A n c] 22) = w' := by
  go_enter Tryd.func182, Tryd.ntmps182
  go_wp2
  go_ret
  exact ⟨rfl, rfl⟩

set_option maxRecDepth 100000 in
set_option maxHeartbeats 8000000 in
theorem sum_any (bs : List UInt8) (A : Option Addr) (c : Nat) (w : World) (hr : Rb w w.heap.size A bs) (hlen : bs.length ≤ 140737488351232) (hT : Tabs w) :
    Calls Tryd.prog 152 #[.slice A bs.length c] w fun e w' => e = .returned (.agg (ubs (hashL bs)).toArray) ∧ Below w.heap.size w w' := by
  obtain ⟨p, hp⟩ : ∃ p, p = padL bs := ⟨_, rfl⟩
  obtain ⟨q, hq⟩ : ∃ q, q = (bs.length + 8) / 64 + 1 := ⟨_, rfl⟩
  have hq64 : (padL bs).length = 64 * q := by rw [padL_length, hq]; omega
  have HH := hid (show hashL bs = bytesOf (folds p q) by unfold hashL; rw [← hp, show p.length = 64 * q by rw [hp, hq64], Nat.mul_div_cancel_left _ (by omega)])
  obtain ⟨W0, hW0⟩ : ∃ W0, W0 = (((w.alloc (.cells (ubs n32).toArray 25)).alloc (.cells (us z8).toArray 214)).setRow (w.heap.size + 1) (us IV.l).toArray).alloc (.cells #[.slice A bs.length c] 22) := ⟨_, rfl⟩
  have hsz : W0.heap.size = w.heap.size + 3 := by rw [hW0]; simp
  have h1 : At W0 w.heap.size (ubs n32).toArray 25 := by rw [hW0]; exact (((At.new _ _ _).alloc _).setRow_far (by omega)).alloc _
  have h2 : At W0 (w.heap.size + 1) (us IV.l).toArray 214 := by rw [hW0]; exact At.alloc (setRow_heap _ _ (us z8).toArray _ _ _ (At.new_at (by simp))) _
  have h3 : W0.cell? ⟨w.heap.size + 1 + 1, 0, none⟩ = some (.slice A bs.length c) := by
    have h4 : At W0 (w.heap.size + 1 + 1) #[.slice A bs.length c] 22 := by rw [hW0]; exact At.new_at (by simp)
    exact h4.cell 0
  have hb0 : Below w.heap.size w W0 := by rw [hW0]; exact (below_setRow (((Below.refl _ _).alloc (Nat.le_refl _) _).alloc (by simp) _) (by omega) _).alloc (by simp; omega) _
  have hr0 : Rb W0 W0.heap.size A bs := (hr.below hb0).mono (by omega)
  have HT := hid hT
  have HTI := hid ((hT.below ((Below.refl w.heap.size w).alloc (Nat.le_refl _) (.cells (ubs n32).toArray 25))).i)
  have hz := zero8
  have hz2 := noughts32
  have HS := hid (show (Tryd.prog.info? 214).map (·.size) = some (us IV.l).toArray.size by rw [sizeSt]; simp [us_length, IV_length])
  subst hW0
  refine (callsIn_wide (n := 6)).1 ?_
  refine callsIn_of_wp_marks Tryd.func152 rfl trivial ?_ rfl
  refine wpIn_wide.2 ?_
  simp only [Tryd.ntmps152, List.size_toArray, List.length_cons, List.length_nil, Nat.reduceAdd, Nat.reduceSub, Array.replicate_succ, Array.replicate_zero, List.push_toArray, List.append_toArray, List.nil_append, List.cons_append]
  go_wp2_with (first
    | (refine wpList_load_tab rfl _ (.global 2) rfl 2 rfl IV.l _ HTI.out Tryd.underlying214 rfl sizeSt ?_)
    | (refine wpList_store_row rfl _ (.tmp 3) (.tmp 7) rfl (w.heap.size + 1) (us IV.l).toArray rfl rfl 214 (us z8).toArray (At.new_at (by simp)) HS.out ?e3 (us_all _) ?e4; rotate_right)
    | (go_at_call 182; refine (blocks_any _ _ _ _).mono ?_; rintro e w' ⟨rfl, rfl⟩))
  case e3 => simp [us_length, IV_length, z8_length]
  clear hz hz2 HTI HS
  obtain ⟨W0, hW0⟩ : ∃ W0, W0 = (((w.alloc (.cells (ubs n32).toArray 25)).alloc (.cells (us z8).toArray 214)).setRow (w.heap.size + 1) (us IV.l).toArray).alloc (.cells #[.slice A bs.length c] 22) := ⟨_, rfl⟩
  rw [← hW0] at hsz h1 h2 h3 hb0 hr0 ⊢
  clear hW0
  have hb5 := blocks_stops (6 - 1) (w.heap.size + 1 + 1) (w.heap.size + 1) q bs A c hq64 hlen W0 (by omega) h3 hr0 (by omega)
  rw [← hp] at hb5
  have HB5 := hid hb5
  have HP := hid hp
  have HQ := hid hq64
  clear hb5 hp hq64 hq
  refine (wpIn_wide (n := 6)).1 ?_
  refine wpIn_rangeFunc_ownH (F := Fence.wide) (n := 6) rfl (by omega) (gf := 200) (lb := #[.pointer (some ⟨w.heap.size + 1 + 1, 0, none⟩)]) rfl trivial (enters_of Tryd.func200 (by kernel_rfl) rfl)
    HB5.out (fun h k => h.trans k) (fun W l o o' _ h hc _ => KeepsBut.putObj W l o o' h hc) (Below.refl _ _) (fun _ => rfl)
    (fun pre W => (At W (w.heap.size + 1) (us (stX p q pre).l).toArray 214 ∧ At W w.heap.size (ubs n32).toArray 25) ∧ Below w.heap.size w W)
    (fun _ _ _ => False)
    (OwnFrom.and (OwnFrom.and (Own.from (at_own _ _ _) _) (Own.from (at_own _ _ (fun _ => (ubs n32).toArray)) _)) (ownFrom_below (Nat.le_refl _) (by omega)))
    (fun _ _ _ _ _ hs _ _ => hs)
    ⟨⟨by rw [stX_nil]; exact h2, h1⟩, hb0⟩
    (fun x a' W => ∃ Bx, At W Bx (ubs (chunk p x.val)).toArray 208 ∧ a' = { tmps := #[.slice A bs.length c, undef, .pointer (some ⟨w.heap.size, 0, none⟩), .pointer (some ⟨w.heap.size + 1, 0, none⟩), .pointer (some ⟨Bx, 0, none⟩), undef, undef, .agg (us IV.l).toArray, .slice A bs.length c, .func (.func 200) #[] #[.pointer (some ⟨w.heap.size + 1 + 1, 0, none⟩)], .agg (ubs (chunk p x.val)).toArray, undef, undef, undef, undef, undef, undef, undef, undef, undef, undef, undef, undef, undef, undef, undef, undef, undef, undef, undef, undef], defers := [] })
    (fun x a' _ X Y row hs hg hr => by obtain ⟨Bx, h2, h3⟩ := hs; exact ⟨Bx, at_own Bx _ (fun (_ : Unit) => (ubs (chunk p x.val)).toArray) () X Y row h2 hg (fun r e => (hr r e).2), h3⟩)
    ?assign ?body ?done ?stop
  case assign =>
    rintro l pre x W K ⟨⟨hS1, hZ1⟩, hB1⟩ hK
    have HLn := hid (show (ubs (chunk p x.val)).length = 64 by rw [ubs_length, chunk_length (by rw [HP.out]; exact HQ.out) x.isLt])
    have HS := hid (show (Tryd.prog.info? 208).map (·.size) = some (ubs (chunk p x.val)).toArray.size by rw [sizeB64]; simp [HLn.out])
    have hb2 : Below W.heap.size W ((W.alloc (.cells (ubs z64b).toArray 208)).setRow W.heap.size (ubs (chunk p x.val)).toArray) := below_setRow ((Below.refl _ _).alloc (Nat.le_refl _) _) (Nat.le_refl _) _
    have HK := hid (hK { tmps := #[.slice A bs.length c, undef, .pointer (some ⟨w.heap.size, 0, none⟩), .pointer (some ⟨w.heap.size + 1, 0, none⟩), .pointer (some ⟨W.heap.size, 0, none⟩), undef, undef, .agg (us IV.l).toArray, .slice A bs.length c, .func (.func 200) #[] #[.pointer (some ⟨w.heap.size + 1 + 1, 0, none⟩)], .agg (ubs (chunk p x.val)).toArray, undef, undef, undef, undef, undef, undef, undef, undef, undef, undef, undef, undef, undef, undef, undef, undef, undef, undef, undef, undef], defers := [] } _
      ((others_of_below hb2).from _) (KeepsBut.of_below hb2) ⟨⟨hS1.new_ hb2, hZ1.new_ hb2⟩, hB1.trans (hb2.mono hB1.size)⟩ ⟨W.heap.size, setRow_heap _ _ (ubs z64b).toArray _ _ _ (At.new _ _ _), rfl⟩)
    clear hK hb2
    have hz := zero64b
    simp only [encB]
    gi_wp2_with (refine wpListIn_store_row rfl _ (.tmp 4) (.tmp 10) rfl W.heap.size (ubs (chunk p x.val)).toArray rfl rfl 208 (ubs z64b).toArray (At.new _ _ _) HS.out ?e5 (ubs_all _) ?e6; rotate_right)
    case e5 => rw [HLn.out, ubs_length, z64b_length]
    exact HK.out
  case body =>
    rintro l pre x a' W hl ⟨r, hr⟩ ⟨⟨hS1, hZ1⟩, hB1⟩ ⟨Bx, hX, rfl⟩ hlt
    have HCL := hid (chunk_length (p := p) (q := q) (k := x.val) (by rw [HP.out]; exact HQ.out) x.isLt)
    have HS64 := hid (show (Tryd.prog.info? 208).map (·.size) = some (ubs (chunk p x.val)).toArray.size by rw [sizeB64]; simp [ubs_length, HCL.out])
    have HS8 := hid (show (Tryd.prog.info? 214).map (·.size) = some (us (stX p q pre).l).toArray.size by rw [sizeSt]; simp [us_length, l_length])
    have HS9 := hid (show (Tryd.prog.info? 214).map (·.size) = some (us (comp (stX p q pre) (chunk p x.val)).l).toArray.size by rw [sizeSt]; simp [us_length, l_length])
    have HS1 := hid hS1
    have HX := hid hX
    have HZ1 := hid hZ1
    have HB1 := hid hB1
    have HT1 := hid (HT.out.below hB1)
    clear hS1 hX hZ1 hB1 hr hlt
    gi_wp2_with (first
      | (refine wpListIn_load_row rfl _ (.tmp 3) rfl (w.heap.size + 1) rfl 214 (us (stX p q pre).l).toArray _ HS1.out Tryd.underlying214 rfl HS8.out ?_)
      | (refine wpListIn_load_row rfl _ (.tmp 4) rfl Bx rfl 208 (ubs (chunk p x.val)).toArray _ HX.out Tryd.underlying208 rfl HS64.out ?_)
      | (refine ⟨trivial, ?_⟩; gi_at_call 183; refine (CallsIn.inRound l (callsIn_wide.2 (compress_any (stX p q pre) (chunk p x.val) W HCL.out HT1.out))).mono ?_; rintro e w4 ⟨rfl, hb4⟩; have HB4 := hid hb4; have HS4 := hid (HS1.out.new_ hb4); clear hb4)
      | (refine wpListIn_store_row rfl _ (.tmp 3) (.tmp 13) rfl (w.heap.size + 1) (us (comp (stX p q pre) (chunk p x.val)).l).toArray rfl rfl 214 (us (stX p q pre).l).toArray HS4.out HS9.out ?f5 (us_all _) ?f6; rotate_right))
    case f5 => simp [us_length, l_length]
    refine ⟨((others_of_below HB4.out).trans (others_setRow HS4.out)).from _, (KeepsBut.of_below HB4.out).trans (KeepsBut.setRow _ _), ⟨⟨by rw [stX_snoc]; exact setRow_heap _ _ _ _ _ _ HS4.out, (HZ1.out.new_ HB4.out).setRow_far (by omega)⟩, below_setRow (HB1.out.trans (HB4.out.mono HB1.out.size)) (by omega) _⟩⟩
  case done =>
    rintro D xs W hD hxs ⟨⟨hS1, hZ1⟩, hB1⟩ hK
    rw [stX_all p q xs hxs] at hS1
    have hDs : w.heap.size + 1 < D := by omega
    have HS1 := hid hS1
    have HZ1 := hid hZ1
    have HB1 := hid hB1
    have HKD := hid hK
    have HE := hid (hb_all (folds p q))
    have HZ := hid (hb_start (folds p q))
    have hDl : D < W.heap.size := (Array.getElem?_eq_some_iff.1 hK).1
    clear hS1 hZ1 hB1 hK hxs HT
    obtain ⟨wo, rfl⟩ : ∃ wo : World, wo = W := ⟨_, rfl⟩
    have hz2 := noughts32
    go_wp2
    clear hz2
    go_loopw [14] (fun i w5 => ∃ j : Nat, j ≤ 32 ∧ i = .int .i64 j ∧ At w5 wo.heap.size (ubs (hb (folds p q) j)).toArray 25 ∧ At w5 w.heap.size (ubs n32).toArray 25 ∧ At w5 (w.heap.size + 1) (us (folds p q).l).toArray 214 ∧ w5.heap[D]? = some (.deferred (some [])) ∧ Below w.heap.size w w5) (fun i _ => 32 - (intOf i).toNat)
    case atStart => exact ⟨0, by omega, rfl, by rw [HZ.out]; exact At.new_at rfl, HZ1.out.alloc _, HS1.out.alloc _, (Below.heap_alloc wo _ D hDl).trans HKD.out, HB1.out.alloc HB1.out.size _⟩
    case round =>
      have hwl : w.heap.size + 1 < wo.heap.size := by omega
      clear HZ HS1 HZ1 HB1 HKD
      obtain ⟨j, hj, rfl, hA, hR, hS, hD5, hB⟩ := hrel
      have HA := hid hA
      have HR := hid hR
      have HS := hid hS
      have HB := hid hB
      have HD := hid hD5
      clear hA hR hS hB hD5
      by_cases hlt : j < 32
      · have cs := at_us_cell HS.out (i := j / 4) (by rw [l_length]; omega)
        have ca := at_ub_cell HA.out (i := j) (by rw [hb_length _ _ hj]; exact hlt)
        have fa := HA.out.frozen j
        have HN := hid (hb_succ (folds p q) j hlt)
        obtain ⟨xx, hxx⟩ : ∃ x, x = (folds p q).l.getD (j / 4) 0#32 := ⟨_, rfl⟩
        rw [← hxx] at cs HN
        clear hxx
        have hs := w_shr 213 xx (24 - ((j : Int) % 4) * 8) .i64 (by omega)
        rw [show (24 - ((j : Int) % 4) * 8).toNat = 24 - j % 4 * 8 by omega] at hs
        go_wp2
        go_roundw
        case rel =>
          refine ⟨j + 1, by omega, by go_num, ?_, HR.out.far (p := ⟨wo.heap.size, j, none⟩) (by simp; omega) _, HS.out.far (p := ⟨wo.heap.size, j, none⟩) (by simp; omega) _, (heap_setCell_other _ ⟨wo.heap.size, j, none⟩ D _ (by simp; omega)).trans HD.out, HB.out.setCell (by simp; omega) _⟩
          rw [HN.out]
          exact at_ub_put HA.out j _
        case measure => simp [intOf]; omega
      · obtain rfl : j = 32 := by omega
        have HL := hid (show (Tryd.prog.info? 25).map (·.size) = some (ubs (hb (folds p q) 32)).toArray.size by rw [sizeH]; simp [ubs_length, hb_length])
        go_wp2_with (first
          | (refine wpList_load_row rfl _ (.tmp 5) rfl wo.heap.size rfl 25 (ubs (hb (folds p q) 32)).toArray (0, 0) _ HA.out Tryd.underlying25 rfl HL.out ?_)
          | (refine wpList_store_row rfl _ (.tmp 2) (.tmp 30) rfl w.heap.size (ubs (hb (folds p q) 32)).toArray rfl rfl 25 (ubs n32).toArray HR.out HL.out ?e8 (ubs_all _) ?e9; rotate_right))
        case e8 => simp [ubs_length, hb_length, n32_length]
        have hSR : At (wr.setRow w.heap.size (ubs (hb (folds p q) 32)).toArray) w.heap.size (ubs (hb (folds p q) 32)).toArray 25 := setRow_heap _ _ _ _ _ _ HR.out
        have hDR : (wr.setRow w.heap.size (ubs (hb (folds p q) 32)).toArray).heap[D]? = some (.deferred (some [])) := (setRow_other _ _ D _ (by omega)).trans HD.out
        refine ⟨by simp, .inl ⟨_, _, rfl, run_takeDeferred hDR, ?_⟩⟩
        have hgr := grownBy_putObj' (wr.setRow w.heap.size (ubs (hb (folds p q) 32)).toArray) D (.deferred none)
        have hAt2 : At ((wr.setRow w.heap.size (ubs (hb (folds p q) 32)).toArray).putObj D (.deferred none)) w.heap.size (ubs (hb (folds p q) 32)).toArray 25 := (hgr.block _ hSR.lt (by simp; omega)).trans hSR
        refine ⟨_, results_cell_row rfl _ _ w.heap.size 25 (ubs (hb (folds p q) 32)).toArray (0, 0) _ rfl hAt2 Tryd.underlying25 rfl HL.out, by rw [HE.out, HH.out], ?_⟩
        exact (below_setRow HB.out (Nat.le_refl _) _).grown hgr (by have := HB.out.size; simp; omega) (fun k e => by cases e; omega)
  case stop =>
    rintro D c pre W _ _ h _
    exact h.elim
end Go.Proofs.YtfmbpdjcoopaeaaDoor

namespace Go.Proofs.YtfmbpdjcoopaeaaDoor
open Go.RowKit

end Go.Proofs.YtfmbpdjcoopaeaaDoor

namespace Go.Proofs.YtfmbpdjcoopaeaaDoor
open Go.RowKit

theorem run_loadH {o : Oper} {a : Go.Act} {W : World} (x : Operand) (ho : o.op = .load 25 x) (b off : Nat) (hx : a.eval x = .pointer (some ⟨b, off, none⟩)) (l : List UInt8) (hc : W.rangeAt b off (ubs l)) (hl : l.length = 32) : (execOp a.eval o).run Tryd.prog W = .ok (.value (.agg (ubs l).toArray)) W :=
  run_load_part _ x ho b off hx (ubs l) _ hc Tryd.underlying25 rfl (by rw [sizeH, ubs_length, hl])
theorem range_whole {W : World} {g : Nat} {l : List UInt8} {t : TypeId} (h : At W g (ubs l).toArray t) : W.rangeAt g 0 (ubs l) := range_at (a := []) (m := l) (z := []) h (by simp)
end Go.Proofs.YtfmbpdjcoopaeaaDoor
