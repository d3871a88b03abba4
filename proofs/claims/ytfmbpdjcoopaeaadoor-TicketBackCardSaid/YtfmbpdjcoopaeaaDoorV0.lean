/-
  Parts put together: the library's Grow and Concat, and the program's hash of parts.
  What a tag is, and its small parts in the program: masked block keys, single bytes, comparing bytes.
  The program's block key.
  The program's tag.
  The document's block key; comparing bytes as strings.
  The document's tag.
  The document's layer 6: labels, keys, sessions.
-/
import Derived.Test.YtfmbpdjcoopaeaaDoorY4
import Derived.Test.YtfmbpdjcoopaeaaDoorSr
import Derived.Test.YtfmbpdjcoopaeaaDoorY1
import Derived.ArgAppend
import Derived.Test.YtfmbpdjcoopaeaaDoorKa
import Derived.Lib.ConvBytes
import Derived.StillTailTactics
import Derived.Deep.Cut
namespace Go.Proofs.YtfmbpdjcoopaeaaDoor
open Go.RowKit

theorem run_append_made {P : Program} (w : World) (t u ty e : TypeId) (i : TypeInfo) (z : Value) (ht : P.underlying t = some (.slice e)) (hu : P.underlying u = some (.int .i64)) (hi : P.info? e = some i) (hz : i.zero = some z) (hs : i.size = 1) (hby : i.bytes = 1)
    (n : Nat) (h0 : 0 < n) (hn : n ≤ 140737488355328) :
    (Builtin.append_ #[t, u] ty #[.slice none 0 0, .int .i64 (n : Int)]).run P w =
      .ok (.slice (some ⟨w.heap.size, 0, none⟩) n (grownCap w n 0 e)) (w.drew.alloc (.cells (Builtin.zeroCells z.cells n ++ Builtin.zeroCells z.cells (grownCap w n 0 e - n)) e)) := by
  have hw : IntKind.i64.wrap (n : Int) = n := by rw [IntKind.wrap_i64]; omega
  have h1 : ¬ ((n : Int) < 0) := by omega
  have h2 : ¬ (281474976710656 < (n : Int)) := by omega
  have h3 : n ≠ 0 := by omega
  have h4 : ¬ (9223372036854775807 < (n : Int)) := by omega
  have h5 : ¬ (281474976710656 < Builtin.nextslicecap n 0) := by rw [nextslicecap_zero h0]; omega
  simp [Builtin.append_, run_underlying ht, run_underlying hu, sizeOf, typeInfo, zeroValue, hi, hz, hs, hby, asInt, asIntOf, hw, h2, h3, h4, h5, Question.forced, newRow, grownCap, Builtin.firstCells]
  exact fun h => absurd h h1
theorem wpList_append_made {P : Program} {w : World} {ops : Array Oper} {rest : List Oper} {o : Oper} {a : Go.Act} {Q : Exit → Go.Act → World → Prop} (hgd : o.guard = none) (s x : Operand) (t u : TypeId)
    (ho : o.op = .call { callee := .builtin .append, args := #[s, x], argTypes := #[t, u] }) (e : TypeId) (i : TypeInfo) (z : Value) (ht : P.underlying t = some (.slice e)) (hu : P.underlying u = some (.int .i64)) (hi : P.info? e = some i) (hz : i.zero = some z) (hs : i.size = 1) (hby : i.bytes = 1)
    (n : Nat) (hx : a.eval s = .slice none 0 0) (hy : a.eval x = .int .i64 (n : Int)) (h0 : 0 < n) (hn : n ≤ 140737488355328)
    (h : wpList P ops Q rest (a.put o.dst (.slice (some ⟨w.heap.size, 0, none⟩) n (grownCap w n 0 e))) (w.drew.alloc (.cells (Builtin.zeroCells z.cells n ++ Builtin.zeroCells z.cells (grownCap w n 0 e - n)) e))) : wpList P ops Q (o :: rest) a w := by
  refine wpList_plain hgd fun K hK => ?_
  unfold Oper.wp execOp
  simp only [ho, resolve, invoke, builtin, Sem.run_bind, Sem.run_pure, Result.andThen_ok, List.map_toArray, List.map_cons, List.map_nil, hx, hy, run_append_made (P := P) w t u o.type e i z ht hu hi hz hs hby n h0 hn]
  exact hK _ _ h

set_option maxRecDepth 100000 in
/-- Nothing of a slice's own yet, room perhaps. -/
theorem grow_any (n : Nat) (w : World) (hn : n ≤ 1000000000) :
    Calls Tryd.prog 191 #[.slice none 0 0, .int .i64 (n : Int)] w fun e w' => ∃ v, e = .returned v ∧ Own1 w 0 [] v w' := by
  obtain ⟨i0, hi, hz0, hz1, hz2⟩ := info_parts infoB
  rcases Nat.eq_zero_or_pos n with h0 | h0
  · subst h0
    go_enter Tryd.func191, Tryd.ntmps191
    go_wp2
    go_ret
    exact ⟨_, rfl, rfl, World.ownsRow_nil _ _ _ _, Below.refl _ _⟩
  · obtain ⟨m, hm⟩ : ∃ m, m = grownCap w n 0 5 := ⟨_, rfl⟩
    have hle : n ≤ m := by rw [hm]; exact grownCap_ge _ _ _ _
    have hmx : m ≤ maxLen := by rw [hm]; exact grownCap_le_maxLen _ _ _ _ (by simp only [maxLen]; omega)
    have hown : Own1 w 0 [] (.slice (some ⟨w.heap.size, 0, none⟩) 0 m) (w.drew.alloc (.cells (Builtin.zeroCells (Value.int .u8 0).cells n ++ Builtin.zeroCells (Value.int .u8 0).cells (m - n)) 5)) :=
      ⟨rfl, by
        have := World.ownsRow_made (base := w.heap.size) (e := 5) (size := 1) w.drew (Builtin.zeroCells (Value.int .u8 0).cells n ++ Builtin.zeroCells (Value.int .u8 0).cells (m - n)) m (Nat.le_refl _) hmx (by rw [Array.size_append, size_zeroCells, size_zeroCells]; show n * 1 + (m - n) * 1 = _; omega)
        exact this, (below_drewN (Below.refl _ w) 1).alloc (Nat.le_refl _) _⟩
    have HO := hid hown
    have HM := hid hm
    unfold maxLen at hmx
    clear hown hm
    have hd : decide ((0 : Int) < (n : Int)) = true := by simp; omega
    go_enter Tryd.func191, Tryd.ntmps191
    go_wp2_with (refine wpList_append_made rfl (.tmp 20) (.tmp 21) _ _ rfl 5 i0 (.int .u8 0) Tryd.underlying22 Tryd.underlying3 hi hz0 hz1 hz2 n rfl rfl h0 (by omega) ?_; rw [← HM.out])
    go_ret
    exact ⟨_, rfl, HO.out⟩

/-- A part: an address, bytes, a capacity. -/
structure Part where
  A : Option Addr
  bs : List UInt8
  c : Nat
def Part.v (p : Part) : Value := .slice p.A p.bs.length p.c
def joined (ps : List Part) : List UInt8 := ps.flatMap (·.bs)
theorem joined_take (ps : List Part) (k : Nat) (h : k < ps.length) : joined (ps.take (k + 1)) = joined (ps.take k) ++ ps[k].bs := by
  unfold joined
  rw [List.take_succ_eq_append_getElem h, List.flatMap_append]
  congr 1
  exact List.flatMap_singleton _ _
theorem joined_le (ps : List Part) (k : Nat) : (joined (ps.take k)).length ≤ (joined ps).length := by
  conv => rhs; rw [← List.take_append_drop k ps]
  simp only [joined, List.flatMap_append, List.length_append]
  omega
attribute [irreducible] joined
set_option maxRecDepth 100000 in
set_option maxHeartbeats 4000000 in
theorem concat_any (ps : List Part) (S : Option Addr) (cap : Nat) (w : World) (hS : Rd w w.heap.size S (ps.map Part.v)) (hP : ∀ p ∈ ps, Rb w w.heap.size p.A p.bs) (hlen : (joined ps).length ≤ 1000000000) (hps : ps.length ≤ 1000000000) :
    Calls Tryd.prog 175 #[.slice S ps.length cap] w fun e w' => ∃ v n, e = .returned v ∧ Own1 w n (joined ps) v w' := by
  obtain ⟨i0, hi, hz0, hz1, hz2⟩ := info_parts infoB
  have HS := hid hS
  have HP := hid hP
  obtain ⟨L, hL⟩ : ∃ L, L = ps.length := ⟨_, rfl⟩
  obtain ⟨M, hM⟩ : ∃ M, M = (joined ps).length := ⟨_, rfl⟩
  have HL := hid hL
  have HM := hid hM
  rw [← hL] at hps ⊢
  rw [← hM] at hlen
  clear hS hP hL hM
  go_enter Tryd.func175, Tryd.ntmps175
  go_wp2
  go_loop [3, 11] (fun n i => ∃ k m : Nat, k ≤ L ∧ i = .int .i64 k ∧ n = .int .i64 m ∧ m ≤ 1000000000 ∧ Hid (m = (joined (ps.take k)).length)) (fun _ i => L - (intOf i).toNat)
  case atStart => exact ⟨0, 0, by omega, rfl, rfl, by omega, by show 0 = _; rw [List.take_zero]; unfold joined; rfl⟩
  case round =>
    obtain ⟨k, m, hk, rfl, rfl, hm, HMk⟩ := hrel
    by_cases hlt : k < L
    · have hkp : k < ps.length := by rw [← HL.out]; exact hlt
      obtain ⟨b, o, hSe, hb, hc⟩ := HS.out.at_ (k := k) (u := ps[k].v) (by rw [List.getElem?_map, List.getElem?_eq_getElem hkp]; rfl)
      subst hSe
      have HJ := hid (joined_take ps k hkp)
      have HLe := hid (joined_le ps (k + 1))
      obtain ⟨p, hp⟩ : ∃ p, p = ps[k] := ⟨_, rfl⟩
      rw [← hp] at hc HJ
      clear hp
      unfold Part.v at hc
      obtain ⟨A, l, c⟩ := p
      have hl2 : m + l.length ≤ 1000000000 := by have h1 := HLe.out; have h2 := HMk.out; rw [HJ.out, List.length_append, ← h2, ← HM.out] at h1; exact Nat.le_trans h1 hlen
      have HK2 := hid (show m + l.length = (joined (ps.take (k + 1))).length by rw [HJ.out, List.length_append, ← HMk.out])
      clear HJ HLe
      go_wp2
      go_round
      case rel => exact ⟨k + 1, m + l.length, by omega, by go_num, by go_num, hl2, HK2.out⟩
      case measure => simp [intOf]; omega
    · obtain rfl : k = L := by omega
      go_wp2_with (go_at_call 191; refine (grow_any m w hm).mono ?_; rintro e w1 ⟨v, rfl, hO⟩; obtain ⟨A1, c1, rfl, -⟩ := own_form hO.own; have HO := hid hO; clear hO)
      go_loopw [6, 27] (fun v i wr => ∃ (j n : Nat) (A2 : Option Addr) (c2 : Nat), j ≤ k ∧ i = .int .i64 j ∧ v = .slice A2 n c2 ∧ Own1 w n (joined (ps.take j)) v wr) (fun _ i _ => k - (intOf i).toNat)
      case atStart => exact ⟨0, 0, A1, c1, by omega, rfl, rfl, by rw [List.take_zero, show joined [] = [] by unfold joined; rfl]; exact HO.out⟩
      case round =>
        clear HO
        obtain ⟨j, n, A2, c2, hj, rfl, rfl, hO⟩ := hrel
        have HO := hid hO
        clear hO
        by_cases hlt2 : j < k
        · have hkp : j < ps.length := by rw [← HL.out]; exact hlt2
          have HS2 := hid (((HS.out.below HO.out.below).mono HO.out.below.size))
          obtain ⟨b, o, hSe, hb, hc⟩ := HS2.out.at_ (k := j) (u := ps[j].v) (by rw [List.getElem?_map, List.getElem?_eq_getElem hkp]; rfl)
          subst hSe
          have HJ := hid (joined_take ps j hkp)
          have HLe := hid (joined_le ps (j + 1))
          have HPj := hid ((HP.out ps[j] (List.getElem_mem hkp)).below HO.out.below)
          obtain ⟨p, hp⟩ : ∃ p, p = ps[j] := ⟨_, rfl⟩
          rw [← hp] at hc HJ HPj
          clear hp
          unfold Part.v at hc
          obtain ⟨A, l, c⟩ := p
          have hl2 : n + l.length ≤ 1000000000 := by have h1 := HLe.out; have h2 := HO.out.len; rw [HJ.out, List.length_append, ← h2, ← HM.out] at h1; exact Nat.le_trans h1 hlen
          clear HLe HS2
          have hrb : Rb wr wr.heap.size A l := HPj.out.mono HO.out.below.size
          have HRB := hid hrb
          clear hrb
          obtain ⟨q, hq⟩ : ∃ q, q = l.length := ⟨_, rfl⟩
          have HQ := hid hq
          simp only [← hq] at hc hl2
          clear hq
          go_wp2_with (at_builtin; refine wpList_append_rd rfl (.tmp 31) (.tmp 32) _ rfl w.heap.size 5 i0 (.int .u8 0) 1 Tryd.underlying22 hi hz0 hz1 hz2 rfl (.slice A2 n c2) n (ubs (joined (ps.take j))) rfl HO.out.own wr.heap.size A q c (ubs l) rfl (by rw [ubs_length, HQ.out]) HRB.out (ubs_one _) (by unfold maxLen; omega) (by omega) HO.out.below.size ?_; intro v4 w4 hown4 hgr4 _; replace hown4 := hid (HO.out.more hown4 HQ.out hgr4); clear hgr4; obtain ⟨A4, c4, rfl, -⟩ := own_form hown4.out.own)
          go_roundw
          case rel => exact ⟨j + 1, n + q, A4, c4, by omega, by go_num, rfl, by rw [HJ.out]; exact hown4.out⟩
          case measure => simp [intOf]; omega
        · obtain rfl : j = k := by omega
          go_wp2
          go_ret
          refine ⟨_, n, rfl, ?_⟩
          have := HO.out
          rw [List.take_of_length_le (by rw [HL.out]; exact Nat.le_refl _)] at this
          exact this
set_option maxRecDepth 100000 in
set_option maxHeartbeats 4000000 in
theorem of_any (ps : List Part) (S : Option Addr) (cap : Nat) (w : World) (hS : Rd w w.heap.size S (ps.map Part.v)) (hP : ∀ p ∈ ps, Rb w w.heap.size p.A p.bs) (hlen : (joined ps).length ≤ 1000000000) (hps : ps.length ≤ 1000000000) (hT : Tabs w) :
    Calls Tryd.prog 135 #[.slice S ps.length cap] w fun e w' => e = .returned (.agg (ubs (hashL (joined ps))).toArray) ∧ Below w.heap.size w w' := by
  obtain ⟨W0, hW0⟩ : ∃ W0, W0 = w.alloc (.cells (ubs n32).toArray 25) := ⟨_, rfl⟩
  have hb0 : Below w.heap.size w W0 := by rw [hW0]; exact (Below.refl _ _).alloc (Nat.le_refl _) _
  have h0 : At W0 w.heap.size (ubs n32).toArray 25 := by rw [hW0]; exact At.new _ _ _
  have H0 := hid h0
  have HS := hid ((hS.below hb0).mono hb0.size)
  have HP := hid (fun p hp => ((hP p hp).below hb0).mono hb0.size)
  have HB := hid hb0
  have HT := hid hT
  have HL := hid (show (Tryd.prog.info? 25).map (·.size) = some (ubs (hashL (joined ps))).toArray.size by rw [sizeH]; simp [ubs_length, hashL_length])
  have HN := hid (hashL_length (joined ps))
  clear hS hP hT hb0 h0
  have hz2 := noughts32
  subst hW0
  go_enter Tryd.func135, Tryd.ntmps135
  go_wp2_with (first
    | (go_at_call 175; refine (concat_any ps S cap _ HS.out HP.out hlen hps).mono ?_; rintro e w1 ⟨v, n, rfl, hO⟩; obtain rfl := hO.len; obtain ⟨A1, c1, rfl, -⟩ := own_form hO.own; have HO := hid hO; have HB1 := hid (HB.out.trans (hO.below.mono HB.out.size)); clear hO)
    | (go_at_call 152; refine (sum_any (joined ps) A1 c1 w1 (Rd.of_own HO.out.own) (by omega) (HT.out.below HB1.out)).mono ?_; rintro e w2 ⟨rfl, hb2⟩; have H2 := hid (((H0.out.below HO.out.below (by simp)).below hb2 (by have := HB1.out.size; have := HO.out.below.size; simp at this; omega))); have HB2 := hid (HB1.out.trans (hb2.mono HB1.out.size)); clear hb2)
    | (refine wpList_store_row rfl _ (.tmp 2) (.tmp 5) rfl w.heap.size (ubs (hashL (joined ps))).toArray rfl rfl 25 (ubs n32).toArray H2.out HL.out ?e5 (ubs_all _) ?e6; rotate_right))
  case e5 => simp [ubs_length, n32_length, HN.out]
  refine bodyPost_ret (results_cell_row rfl _ _ w.heap.size 25 (ubs (hashL (joined ps))).toArray (0, 0) _ rfl (setRow_heap _ _ _ _ _ _ H2.out) Tryd.underlying25 rfl HL.out) rfl ?_
  exact ⟨rfl, below_setRow HB2.out (Nat.le_refl _) _⟩
end Go.Proofs.YtfmbpdjcoopaeaaDoor

namespace Go.Proofs.YtfmbpdjcoopaeaaDoor
open Go.RowKit

/-- Bytes XORed with one byte; the first k of them. -/
def maskL (b : List UInt8) (m : UInt8) : List UInt8 := b.map (· ^^^ m)
def maskk (b : List UInt8) (m : UInt8) (k : Nat) : List UInt8 := (b.take k).map (· ^^^ m) ++ b.drop k
theorem maskL_length (b : List UInt8) (m : UInt8) : (maskL b m).length = b.length := by simp [maskL]
theorem maskk_zero (b : List UInt8) (m : UInt8) : maskk b m 0 = b := by simp [maskk]
theorem maskk_all (b : List UInt8) (m : UInt8) (k : Nat) (h : b.length = k) : maskk b m k = maskL b m := by simp [maskk, maskL, ← h]
theorem maskk_length (b : List UInt8) (m : UInt8) (k : Nat) : (maskk b m k).length = b.length := by simp [maskk]; omega
theorem maskk_get (b : List UInt8) (m : UInt8) (k : Nat) (h : k < b.length) : (maskk b m k).getD k 0 = b.getD k 0 := by
  unfold maskk
  rw [List.getD_eq_getElem?_getD, List.getD_eq_getElem?_getD, List.getElem?_append_right (by simp; omega)]
  simp [Nat.min_eq_left (Nat.le_of_lt h)]
theorem maskk_succ (b : List UInt8) (m : UInt8) (k : Nat) (h : k < b.length) : maskk b m (k + 1) = (maskk b m k).set k (b.getD k 0 ^^^ m) := by
  have hg : b.getD k 0 = b[k] := by simp [h]
  unfold maskk
  have hl : ((b.take k).map (· ^^^ m)).length = k := by simp; omega
  rw [hg, List.set_append_right _ _ (by omega), List.take_succ_eq_append_getElem h, List.map_append, List.append_assoc, List.drop_eq_getElem_cons h, hl, Nat.sub_self]
  rfl
attribute [irreducible] maskk
/-- A key filled up to 64 bytes; the block key. -/
def padK (k : List UInt8) : List UInt8 := k ++ List.replicate (64 - k.length) 0
def blockL (k : List UInt8) : List UInt8 := padK (if 64 < k.length then hashL k else k)
theorem padK_length (k : List UInt8) (h : k.length ≤ 64) : (padK k).length = 64 := by simp [padK]; omega
theorem blockL_length (k : List UInt8) : (blockL k).length = 64 := by
  unfold blockL
  split
  · exact padK_length _ (by rw [hashL_length]; omega)
  · exact padK_length _ (by omega)
/-- The tag. -/
def macL (k t : List UInt8) : List UInt8 := hashL (maskL (blockL k) 92 ++ hashL (maskL (blockL k) 54 ++ t))
theorem macL_length (k t : List UInt8) : (macL k t).length = 32 := hashL_length _
theorem macL_eq (k t : List UInt8) : macL k t = hashL (maskL (blockL k) 92 ++ hashL (maskL (blockL k) 54 ++ t)) := rfl
theorem blockL_long (k : List UInt8) (h : 64 < k.length) : blockL k = padK (hashL k) := by unfold blockL; rw [if_pos h]
theorem blockL_short (k : List UInt8) (h : ¬ 64 < k.length) : blockL k = padK k := by unfold blockL; rw [if_neg h]

theorem n_xor (t : TypeId) (a b : Nat) (ha : a < 2 ^ 63) (hb : b < 2 ^ 63) : binOp .xor t (.int .i64 (a : Int)) (.int .i64 (b : Int)) = pure (.int .i64 ((a ^^^ b : Nat) : Int)) := by
  simp only [binOp_xor, Op.intBits]
  show (pure (.int .i64 (IntKind.i64.wrap ((BitVec.ofInt 64 (a : Int) ^^^ BitVec.ofInt 64 (b : Int)).toNat : Int))) : Sem Value) = _
  congr 2
  have h3 : a ^^^ b < 2 ^ 63 := Nat.xor_lt_two_pow ha hb
  rw [BitVec.ofInt_natCast, BitVec.ofInt_natCast, BitVec.toNat_xor, BitVec.toNat_ofNat, BitVec.toNat_ofNat, Nat.mod_eq_of_lt (by omega), Nat.mod_eq_of_lt (by omega), IntKind.wrap_i64]
  omega
theorem n_or (t : TypeId) (a b : Nat) (ha : a < 2 ^ 63) (hb : b < 2 ^ 63) : binOp .or t (.int .i64 (a : Int)) (.int .i64 (b : Int)) = pure (.int .i64 ((a ||| b : Nat) : Int)) := by
  simp only [binOp_or, Op.intBits]
  show (pure (.int .i64 (IntKind.i64.wrap ((BitVec.ofInt 64 (a : Int) ||| BitVec.ofInt 64 (b : Int)).toNat : Int))) : Sem Value) = _
  congr 2
  have h3 : a ||| b < 2 ^ 63 := Nat.or_lt_two_pow ha hb
  rw [BitVec.ofInt_natCast, BitVec.ofInt_natCast, BitVec.toNat_or, BitVec.toNat_ofNat, BitVec.toNat_ofNat, Nat.mod_eq_of_lt (by omega), Nat.mod_eq_of_lt (by omega), IntKind.wrap_i64]
  omega

set_option maxRecDepth 100000 in
/-- A block key masked: a copy in a block of its own. -/
theorem masked_any (b : List UInt8) (hb : b.length = 64) (m : UInt8) (w : World) :
    Calls Tryd.prog 136 #[.agg (ubs b).toArray, .int .u8 (m.toNat : Int)] w fun e w' => e = .returned (.slice (some ⟨w.heap.size, 0, none⟩) 64 64) ∧ At w' w.heap.size (ubs (maskL b m)).toArray 208 ∧ Below w.heap.size w w' := by
  have h0 := At.new w (ubs b).toArray 208
  have hb0 : Below w.heap.size w (w.alloc (.cells (ubs b).toArray 208)) := (Below.refl _ _).alloc (Nat.le_refl _) _
  have H0 := hid h0
  have HB := hid hb0
  have HL := hid hb
  clear h0 hb0 hb
  go_enter Tryd.func136, Tryd.ntmps136
  go_wp2
  go_loopw [6] (fun i wr => ∃ k : Nat, k ≤ 64 ∧ i = .int .i64 k ∧ At wr w.heap.size (ubs (maskk b m k)).toArray 208 ∧ Below w.heap.size w wr) (fun i _ => 64 - (intOf i).toNat)
  case atStart => exact ⟨0, by omega, rfl, by rw [maskk_zero]; exact H0.out, HB.out⟩
  case round =>
    clear H0 HB
    obtain ⟨k, hk, rfl, hA, hB⟩ := hrel
    have HA := hid hA
    have HB := hid hB
    clear hA hB
    by_cases hlt : k < 64
    · have c0 := at_ub_cell HA.out (i := k) (by rw [maskk_length, HL.out]; exact hlt)
      rw [maskk_get b m k (by rw [HL.out]; exact hlt)] at c0
      have f0 := HA.out.frozen k
      have HN := hid (maskk_succ b m k (by rw [HL.out]; exact hlt))
      obtain ⟨x, hx⟩ : ∃ x, x = b.getD k 0 := ⟨_, rfl⟩
      rw [← hx] at c0 HN
      clear hx
      have hx := b_xor 5 x m
      obtain ⟨y, hy⟩ : ∃ y, y = x ^^^ m := ⟨_, rfl⟩
      rw [← hy] at hx HN
      clear hy
      go_wp2
      go_roundw
      case rel => exact ⟨k + 1, by omega, by go_num, by rw [HN.out]; exact at_ub_put HA.out k _, HB.out.setCell (by simp) _⟩
      case measure => simp [intOf]; omega
    · obtain rfl : k = 64 := by omega
      have HN := hid (maskk_all b m 64 HL.out)
      go_wp2
      go_ret
      exact ⟨rfl, by rw [← HN.out]; exact HA.out, HB.out⟩
set_option maxRecDepth 100000 in
/-- A byte, or nought behind the end. -/
theorem at_any (a : List UInt8) (A : Option Addr) (c i : Nat) (w : World) (hr : Rb w w.heap.size A a) :
    Calls Tryd.prog 137 #[.slice A a.length c, .int .i64 (i : Int)] w fun e w' => e = .returned (.int .u8 ((a.getD i 0).toNat : Int)) ∧ w' = w := by
  by_cases h : i < a.length
  · obtain ⟨b, o, rfl, -, hc⟩ := hr.at_ (k := i) (ubs_at h)
    have hg : a.getD i 0 = a[i] := by simp [h]
    rw [hg]
    obtain ⟨x, hx⟩ : ∃ x, x = a[i] := ⟨_, rfl⟩
    rw [← hx] at hc ⊢
    obtain ⟨n, hn⟩ : ∃ n, n = a.length := ⟨_, rfl⟩
    rw [← hn] at h ⊢
    clear hr hx hg hn
    go_enter Tryd.func137, Tryd.ntmps137
    go_wp2
    go_ret
    exact ⟨rfl, rfl⟩
  · have hg : a.getD i 0 = 0 := by simp [List.getElem?_eq_none (Nat.le_of_not_lt h)]
    rw [hg]
    obtain ⟨n, hn⟩ : ∃ n, n = a.length := ⟨_, rfl⟩
    rw [← hn] at h ⊢
    clear hr hg hn
    go_enter Tryd.func137, Tryd.ntmps137
    go_wp2
    go_ret
    exact ⟨rfl, rfl⟩
end Go.Proofs.YtfmbpdjcoopaeaaDoor

namespace Go.Proofs.YtfmbpdjcoopaeaaDoor
open Go.RowKit

def n64 : List UInt8 := List.replicate 64 0
theorem n64_length : n64.length = 64 := by simp [n64]
theorem noughts64 : #[Value.int .u8 0, .int .u8 0, .int .u8 0, .int .u8 0, .int .u8 0, .int .u8 0, .int .u8 0, .int .u8 0, .int .u8 0, .int .u8 0, .int .u8 0, .int .u8 0, .int .u8 0, .int .u8 0, .int .u8 0, .int .u8 0, .int .u8 0, .int .u8 0, .int .u8 0, .int .u8 0, .int .u8 0, .int .u8 0, .int .u8 0, .int .u8 0, .int .u8 0, .int .u8 0, .int .u8 0, .int .u8 0, .int .u8 0, .int .u8 0, .int .u8 0, .int .u8 0, .int .u8 0, .int .u8 0, .int .u8 0, .int .u8 0, .int .u8 0, .int .u8 0, .int .u8 0, .int .u8 0, .int .u8 0, .int .u8 0, .int .u8 0, .int .u8 0, .int .u8 0, .int .u8 0, .int .u8 0, .int .u8 0, .int .u8 0, .int .u8 0, .int .u8 0, .int .u8 0, .int .u8 0, .int .u8 0, .int .u8 0, .int .u8 0, .int .u8 0, .int .u8 0, .int .u8 0, .int .u8 0, .int .u8 0, .int .u8 0, .int .u8 0, .int .u8 0] = (ubs n64).toArray := rfl
theorem sizeB64' : (Tryd.prog.info? 208).map (·.size) = some 64 := by kernel_rfl
theorem padK_splice (k : List UInt8) (h : k.length ≤ 64) : splice (ubs n64) 0 ((ubs k).take 64) = ubs (padK k) := by
  rw [List.take_of_length_le (by rw [ubs_length]; exact h)]
  simp only [splice, List.take_zero, List.nil_append, ubs_length, Nat.zero_add, ubs_drop, ← ubs_append, n64, List.drop_replicate, padK]
/-- What holds while a block key is made: its result, the block, the rest below. -/
structure BkW (w : World) (xs : List UInt8) (W : World) : Prop where
  res : At W w.heap.size (ubs n64).toArray 208
  blk : At W (w.heap.size + 1) (ubs xs).toArray 208
  below : Below w.heap.size w W
theorem BkW.next {w W W' : World} {xs : List UInt8} (h : BkW w xs W) (hb : Below W.heap.size W W') : BkW w xs W' :=
  ⟨h.res.new_ hb, h.blk.new_ hb, h.below.trans (hb.mono h.below.size)⟩
theorem BkW.fill {w W W' : World} {xs ys : List UInt8} (h : BkW w xs W) (hf : Fr (fun k => k = w.heap.size + 1) W W') (ha : At W' (w.heap.size + 1) (ubs ys).toArray 208) : BkW w ys W' :=
  ⟨h.res.fr hf (by omega), ha, h.below.trans (hf.below (fun k hk => by omega) h.below.size)⟩
theorem BkW.start (w : World) : BkW w n64 ((w.alloc (.cells (ubs n64).toArray 208)).alloc (.cells (ubs n64).toArray 208)) :=
  ⟨(At.new w _ _).alloc _, At.new_at (by simp), ((Below.refl _ _).alloc (Nat.le_refl _) _).alloc (by simp) _⟩
/-- A hash put into a block of its own. -/
theorem stored_below (w : World) (h : List UInt8) : Below w.heap.size w ((w.alloc (.cells (ubs n32).toArray 25)).setRow w.heap.size (ubs h).toArray) := below_setRow ((Below.refl _ _).alloc (Nat.le_refl _) _) (Nat.le_refl _) _
theorem stored_at (w : World) (h : List UInt8) : At ((w.alloc (.cells (ubs n32).toArray 25)).setRow w.heap.size (ubs h).toArray) w.heap.size (ubs h).toArray 25 := setRow_heap _ _ (ubs n32).toArray _ _ _ (At.new _ _ _)
theorem stored_rb (w : World) (h : List UInt8) : Rb ((w.alloc (.cells (ubs n32).toArray 25)).setRow w.heap.size (ubs h).toArray) ((w.alloc (.cells (ubs n32).toArray 25)).setRow w.heap.size (ubs h).toArray).heap.size (some ⟨w.heap.size, 0, none⟩) h := rb_at (stored_at w h)
set_option maxRecDepth 100000 in
set_option maxHeartbeats 4000000 in
theorem block_any (k : List UInt8) (A : Option Addr) (c : Nat) (w : World) (hr : Rb w w.heap.size A k) (hlen : k.length ≤ 1000000000) (hT : Tabs w) :
    Calls Tryd.prog 134 #[.slice A k.length c] w fun e w' => e = .returned (.agg (ubs (blockL k)).toArray) ∧ Below w.heap.size w w' := by
  obtain ⟨W0, hW0⟩ : ∃ W0, W0 = (w.alloc (.cells (ubs n64).toArray 208)).alloc (.cells (ubs n64).toArray 208) := ⟨_, rfl⟩
  have h0 : BkW w n64 W0 := hW0 ▸ BkW.start w
  have H0 := hid h0
  have HR := hid ((hr.below h0.below).mono h0.below.size)
  have HT := hid (hT.below h0.below)
  have hz := noughts64
  have hz2 := noughts32
  have HZ := hid (show (Tryd.prog.info? 208).map (·.size) = some (ubs (blockL k)).toArray.size by rw [sizeB64']; simp [ubs_length, blockL_length])
  have HN := hid (blockL_length k)
  have HS := hid (show (Tryd.prog.info? 25).map (·.size) = some (ubs (hashL k)).toArray.size by rw [sizeH]; simp [ubs_length, hashL_length])
  have HK := hid (hashL_length k)
  clear hr hT h0
  by_cases hbig : 64 < k.length
  · have HB := hid (blockL_long k hbig)
    have HP := hid (padK_splice (hashL k) (by rw [hashL_length]; omega))
    have hsum := fun c => sum_any k A c W0 HR.out (by omega) HT.out
    obtain ⟨n, hn⟩ : ∃ n, n = k.length := ⟨_, rfl⟩
    rw [← hn] at hsum hbig hlen ⊢
    have HU := hid hsum
    clear hn hsum HR HT
    subst hW0
    go_enter Tryd.func134, Tryd.ntmps134
    go_wp2_with (first
      | (go_at_call 152; refine (HU.out _).mono ?_; rintro e w1 ⟨rfl, hb1⟩; have H1 := hid (H0.out.next hb1); clear hb1)
      | (refine wpList_store_row rfl _ (.tmp 4) (.tmp 9) rfl w1.heap.size (ubs (hashL k)).toArray rfl rfl 25 (ubs n32).toArray (heap_alloc_new _ _) HS.out ?e3 (ubs_all _) ?e4; rotate_right; have H2 := hid (H1.out.next (stored_below w1 (hashL k))); have K2 := hid (stored_rb w1 (hashL k)); generalize ((w1.alloc (.cells (ubs n32).toArray 25)).setRow w1.heap.size (ubs (hashL k)).toArray) = W2 at H2 K2 ⊢)
      | (refine wpList_copy_rd rfl (.tmp 11) (.tmp 12) _ _ rfl 5 Tryd.underlying22 sizeU8 (w.heap.size + 1) 0 64 64 W2.heap.size (some ⟨w1.heap.size, 0, none⟩) 32 32 rfl rfl (ubs n64) 208 H2.out.blk (ubs (hashL k)) K2.out (by rw [ubs_length]; exact HK.out) (by rw [ubs_length, n64_length]; omega) (ubs_one _) ?_; intro w3 hA3 hF3; rw [HP.out, ← HB.out] at hA3; have H3 := hid (H2.out.fill hF3 hA3); clear hA3 hF3)
      | (refine wpList_load_row rfl _ (.tmp 3) rfl (w.heap.size + 1) rfl 208 (ubs (blockL k)).toArray (0, 0) _ H3.out.blk Tryd.underlying208 rfl HZ.out ?_)
      | (refine wpList_store_row rfl _ (.tmp 2) (.tmp 14) rfl w.heap.size (ubs (blockL k)).toArray rfl rfl 208 (ubs n64).toArray H3.out.res HZ.out ?e5 (ubs_all _) ?e6; rotate_right))
    case e3 => simp [ubs_length, n32_length, HK.out]
    case e5 => simp [ubs_length, n64_length, HN.out]
    refine bodyPost_ret (results_cell_row rfl _ _ w.heap.size 208 (ubs (blockL k)).toArray (0, 0) _ rfl (setRow_heap _ _ _ _ _ _ H3.out.res) Tryd.underlying208 rfl HZ.out) rfl ?_
    exact ⟨rfl, below_setRow H3.out.below (Nat.le_refl _) _⟩
  · have HB := hid (blockL_short k hbig)
    have HP := hid (padK_splice k (by omega))
    obtain ⟨n, hn⟩ : ∃ n, n = k.length := ⟨_, rfl⟩
    have HL := hid hn
    rw [← hn] at hbig hlen ⊢
    clear hn HT HS HK hz2
    subst hW0
    go_enter Tryd.func134, Tryd.ntmps134
    go_wp2_with (first
      | (refine wpList_copy_rd rfl (.tmp 11) (.tmp 12) _ _ rfl 5 Tryd.underlying22 sizeU8 (w.heap.size + 1) 0 64 64 _ A n c rfl rfl (ubs n64) 208 H0.out.blk (ubs k) HR.out (by rw [ubs_length]; exact HL.out.symm) (by rw [ubs_length, n64_length]; omega) (ubs_one _) ?_; intro w3 hA3 hF3; rw [HP.out, ← HB.out] at hA3; have H3 := hid (H0.out.fill hF3 hA3); clear hA3 hF3)
      | (refine wpList_load_row rfl _ (.tmp 3) rfl (w.heap.size + 1) rfl 208 (ubs (blockL k)).toArray (0, 0) _ H3.out.blk Tryd.underlying208 rfl HZ.out ?_)
      | (refine wpList_store_row rfl _ (.tmp 2) (.tmp 14) rfl w.heap.size (ubs (blockL k)).toArray rfl rfl 208 (ubs n64).toArray H3.out.res HZ.out ?e7 (ubs_all _) ?e8; rotate_right))
    case e7 => simp [ubs_length, n64_length, HN.out]
    refine bodyPost_ret (results_cell_row rfl _ _ w.heap.size 208 (ubs (blockL k)).toArray (0, 0) _ rfl (setRow_heap _ _ _ _ _ _ H3.out.res) Tryd.underlying208 rfl HZ.out) rfl ?_
    exact ⟨rfl, below_setRow H3.out.below (Nat.le_refl _) _⟩
end Go.Proofs.YtfmbpdjcoopaeaaDoor

namespace Go.Proofs.YtfmbpdjcoopaeaaDoor
open Go.RowKit

theorem infoS : (Tryd.prog.info? 22).map (fun i => (i.zero, i.size, i.bytes)) = some (some (.slice none 0 0), 1, 24) := by kernel_rfl
theorem joined_cons (p : Part) (ps : List Part) : joined (p :: ps) = p.bs ++ joined ps := by unfold joined; simp
theorem joined_two (p q : Part) : joined [p, q] = p.bs ++ q.bs := by unfold joined; simp
theorem parts_one (ps : List Part) : ∀ u ∈ ps.map Part.v, u.oneCell' = true := by
  intro u hu
  obtain ⟨p, _, rfl⟩ := List.mem_map.1 hu
  rfl
/-- A literal of one element is the call's own. -/
theorem own_lit (w : World) (v : Value) (t : TypeId) : (w.alloc (.cells #[v] t)).ownsRow w.heap.size t 1 (.slice (some ⟨w.heap.size, 0, none⟩) 1 1) 1 [v] :=
  ⟨rfl, .inr ⟨w.heap.size, 1, #[v], rfl, Nat.le_refl _, heap_alloc_new w _, Nat.le_refl _, by simp [maxLen], rfl, rfl⟩⟩
theorem masked54 (b : List UInt8) (hb : b.length = 64) (w : World) :
    Calls Tryd.prog 136 #[.agg (ubs b).toArray, .int .u8 54] w fun e w' => e = .returned (.slice (some ⟨w.heap.size, 0, none⟩) 64 64) ∧ At w' w.heap.size (ubs (maskL b 54)).toArray 208 ∧ Below w.heap.size w w' := masked_any b hb 54 w
theorem masked92 (b : List UInt8) (hb : b.length = 64) (w : World) :
    Calls Tryd.prog 136 #[.agg (ubs b).toArray, .int .u8 92] w fun e w' => e = .returned (.slice (some ⟨w.heap.size, 0, none⟩) 64 64) ∧ At w' w.heap.size (ubs (maskL b 92)).toArray 208 ∧ Below w.heap.size w w' := masked_any b hb 92 w
/-- What holds while a tag is made: its result, the parts. -/
structure MaW (w : World) (S : Option Addr) (ps : List Part) (W : World) : Prop where
  res : At W w.heap.size (ubs n32).toArray 25
  rs : Rd W W.heap.size S (ps.map Part.v)
  rp : ∀ p ∈ ps, Rb W W.heap.size p.A p.bs
  below : Below w.heap.size w W
theorem MaW.next {w W W' : World} {S : Option Addr} {ps : List Part} (h : MaW w S ps W) (hb : Below W.heap.size W W') : MaW w S ps W' :=
  ⟨h.res.new_ hb, (h.rs.below hb).mono hb.size, fun p hp => ((h.rp p hp).below hb).mono hb.size, h.below.trans (hb.mono h.below.size)⟩
/-- Beside: the block key in a block of its own. -/
structure MbW (w : World) (S : Option Addr) (ps : List Part) (b : List UInt8) (C : Nat) (W : World) : Prop where
  ma : MaW w S ps W
  blk : At W C (ubs b).toArray 208
theorem MbW.next {w W W' : World} {S : Option Addr} {ps : List Part} {b : List UInt8} {C : Nat} (h : MbW w S ps b C W) (hb : Below W.heap.size W W') : MbW w S ps b C W' :=
  ⟨h.ma.next hb, h.blk.new_ hb⟩
theorem MbW.start {w W : World} {S : Option Addr} {ps : List Part} (h : MaW w S ps W) (b : List UInt8) : MbW w S ps b W.heap.size ((W.alloc (.cells (ubs n64).toArray 208)).setRow W.heap.size (ubs b).toArray) :=
  ⟨h.next (below_setRow ((Below.refl _ _).alloc (Nat.le_refl _) _) (Nat.le_refl _) _), setRow_heap _ _ (ubs n64).toArray _ _ _ (At.new _ _ _)⟩
/-- Beside: a hash in a block of its own. -/
structure McW (w : World) (S : Option Addr) (ps : List Part) (b : List UInt8) (C : Nat) (h : List UInt8) (D : Nat) (W : World) : Prop where
  mb : MbW w S ps b C W
  hsh : At W D (ubs h).toArray 25
theorem McW.next {w W W' : World} {S : Option Addr} {ps : List Part} {b h : List UInt8} {C D : Nat} (k : McW w S ps b C h D W) (hb : Below W.heap.size W W') : McW w S ps b C h D W' :=
  ⟨k.mb.next hb, k.hsh.new_ hb⟩
theorem McW.drew {w W : World} {S : Option Addr} {ps : List Part} {b h : List UInt8} {C D : Nat} (k : McW w S ps b C h D W) : McW w S ps b C h D W.drew :=
  ⟨⟨⟨k.mb.ma.res, k.mb.ma.rs, k.mb.ma.rp, k.mb.ma.below.os, k.mb.ma.below.tape, k.mb.ma.below.output, k.mb.ma.below.size, k.mb.ma.below.block⟩, k.mb.blk⟩, k.hsh⟩
theorem McW.start {w W : World} {S : Option Addr} {ps : List Part} {b : List UInt8} {C : Nat} (k : MbW w S ps b C W) (h : List UInt8) : McW w S ps b C h W.heap.size ((W.alloc (.cells (ubs n32).toArray 25)).setRow W.heap.size (ubs h).toArray) :=
  ⟨k.next (stored_below W h), stored_at W h⟩
/-- One part ahead of others, in a row of its own. -/
theorem MbW.lit {w W : World} {S : Option Addr} {ps : List Part} {b : List UInt8} {C : Nat} (h : MbW w S ps b C W) (v : Value) : MbW w S ps b C (W.alloc (.cells #[v] 22)) :=
  h.next ((Below.refl _ _).alloc (Nat.le_refl _) _)
/-- A literal of parts as it lies. -/
theorem rd_parts (w : World) (ps : List Part) : Rd (w.alloc (.cells (ps.map Part.v).toArray 22)) (w.alloc (.cells (ps.map Part.v).toArray 22)).heap.size (some ⟨w.heap.size, 0, none⟩) (ps.map Part.v) :=
  Rd.of_at (At.new w _ 22) 0 (fun j u hj => by rw [Nat.zero_add, List.getElem?_toArray]; exact hj) (by simp)
theorem lit_grown {w w' : World} {v : Value} {t : TypeId} (hg : (w.alloc (.cells #[v] t)).grownBy w' (Value.ownBlock (.slice (some ⟨w.heap.size, 0, none⟩) 1 1))) : Below w.heap.size w w' :=
  ((Below.refl _ _).alloc (Nat.le_refl _) _).grown hg (by simp) (fun k hk => by simp [Value.ownBlock] at hk; omega)
/-- The block key's copy as a part. -/
def kp (g : Nat) (b : List UInt8) (m : UInt8) : Part := ⟨some ⟨g, 0, none⟩, maskL b m, 64⟩
theorem kp_v (g : Nat) (b : List UInt8) (m : UInt8) (h : b.length = 64) : (kp g b m).v = .slice (some ⟨g, 0, none⟩) 64 64 := by
  unfold kp Part.v
  rw [maskL_length, h]
set_option maxRecDepth 100000 in
set_option maxHeartbeats 8000000 in
theorem mac_any (k : List UInt8) (K : Option Addr) (ck : Nat) (ps : List Part) (S : Option Addr) (cap : Nat) (w : World) (hk : Rb w w.heap.size K k) (hS : Rd w w.heap.size S (ps.map Part.v)) (hP : ∀ p ∈ ps, Rb w w.heap.size p.A p.bs)
    (lk : k.length ≤ 1000000000) (hlen : (joined ps).length ≤ 900000000) (hps : ps.length ≤ 900000000) (hT : Tabs w) :
    Calls Tryd.prog 74 #[.slice K k.length ck, .slice S ps.length cap] w fun e w' => e = .returned (.agg (ubs (macL k (joined ps))).toArray) ∧ Below w.heap.size w w' := by
  obtain ⟨i0, hi, hz0, hz1, hz2⟩ := info_parts infoS
  obtain ⟨W0, hW0⟩ : ∃ W0, W0 = w.alloc (.cells (ubs n32).toArray 25) := ⟨_, rfl⟩
  have hb0 : Below w.heap.size w W0 := by rw [hW0]; exact (Below.refl _ _).alloc (Nat.le_refl _) _
  have h0 : MaW w S ps W0 := ⟨by rw [hW0]; exact At.new _ _ _, (hS.below hb0).mono hb0.size, fun p hp => ((hP p hp).below hb0).mono hb0.size, hb0⟩
  have hbk := block_any k K ck W0 ((hk.below hb0).mono hb0.size) lk (hT.below hb0)
  have HT := hid hT
  have H0 := hid h0
  obtain ⟨b, hb⟩ : ∃ b, b = blockL k := ⟨_, rfl⟩
  have HBL := hid (show b.length = 64 by rw [hb, blockL_length])
  have HM := hid (macL_eq k (joined ps))
  rw [← hb] at hbk HM
  have HBK := hid hbk
  have hzz := noughts64
  have hz32 := noughts32
  have HZ := hid (show (Tryd.prog.info? 208).map (·.size) = some (ubs b).toArray.size by rw [sizeB64']; simp [ubs_length, HBL.out])
  have HS := hid (fun h => show (Tryd.prog.info? 25).map (·.size) = some (ubs (hashL h)).toArray.size by rw [sizeH]; simp [ubs_length, hashL_length])
  have HK := hid (fun h => hashL_length h)
  obtain ⟨n, hn⟩ : ∃ n, n = ps.length := ⟨_, rfl⟩
  obtain ⟨l, hl⟩ : ∃ l, l = k.length := ⟨_, rfl⟩
  have HN := hid hn
  have HLN := hid hlen
  rw [← hn] at hps ⊢
  rw [← hl] at HBK ⊢
  clear hb0 h0 hbk hk hS hP hT hb hn hl hlen lk
  have tok : Hid True := trivial
  subst hW0
  go_enter Tryd.func74, Tryd.ntmps74
  go_wp2_with (first
    | (go_at_call 134; refine HBK.out.mono ?_; rintro e w1 ⟨rfl, hb1⟩; have H1 := hid (H0.out.next hb1); clear hb1)
    | (refine wpList_store_row rfl _ (.tmp 5) (.tmp 8) rfl w1.heap.size (ubs b).toArray rfl rfl 208 (ubs n64).toArray (heap_alloc_new _ _) HZ.out ?e1 (ubs_all _) ?e2; rotate_right; have H2 := hid (MbW.start H1.out b); generalize ((w1.alloc (.cells (ubs n64).toArray 208)).setRow w1.heap.size (ubs b).toArray) = W2 at H2 ⊢)
    | (refine wpList_load_row rfl _ (.tmp 5) rfl w1.heap.size rfl 208 (ubs b).toArray (0, 0) _ H2.out.blk Tryd.underlying208 rfl HZ.out ?_)
    | (go_at_call 136; refine (masked54 b HBL.out W2).mono ?_; rintro e w3 ⟨rfl, hA3, hb3⟩; have H3 := hid (H2.out.next hb3); have L3 := hid ((H2.out.next hb3).lit (.slice (some ⟨W2.heap.size, 0, none⟩) 64 64)); have A3 := hid (rb_at hA3); clear hA3 hb3; have O3 := hid (own_lit w3 (.slice (some ⟨W2.heap.size, 0, none⟩) 64 64) 22))
    | (at_builtin; refine wpList_append_rd rfl (.tmp 11) (.tmp 12) _ rfl w3.heap.size 22 i0 (.slice none 0 0) 24 Tryd.underlying135 hi hz0 hz1 hz2 rfl (.slice (some ⟨w3.heap.size, 0, none⟩) 1 1) 1 [.slice (some ⟨W2.heap.size, 0, none⟩) 64 64] rfl O3.out _ S n cap (ps.map Part.v) rfl (by rw [List.length_map, HN.out]) L3.out.ma.rs (parts_one ps) (by unfold maxLen; omega) (by omega) (by simp) ?_; intro v4 w4 hown4 hgr4 _; (have b4 := lit_grown hgr4); have H4 := hid (H3.out.next b4); have A4 := hid ((A3.out.below b4).mono b4.size); clear hgr4 b4 L3 O3; obtain ⟨S4, c4, rfl, -⟩ := own_form hown4; have R4 := hid (Rd.of_own hown4); clear hown4)
    | (go_at_call 135; have _t := tok; clear tok _t; (have cq := of_any (kp W2.heap.size b 54 :: ps) S4 c4 w4 (by rw [List.map_cons, kp_v _ _ _ HBL.out]; exact R4.out) (by intro p hp; rcases List.mem_cons.1 hp with rfl | hp; exact A4.out; exact H4.out.ma.rp p hp) (by rw [joined_cons, List.length_append]; show (maskL b 54).length + _ ≤ _; rw [maskL_length, HBL.out]; have := HLN.out; omega) (by rw [List.length_cons, ← HN.out]; omega) (HT.out.below H4.out.ma.below)); rw [joined_cons, List.length_cons, ← HN.out, Nat.add_comm n 1] at cq; refine cq.mono ?_; clear cq; rintro e w5 ⟨rfl, hb5⟩; have H5 := hid (H4.out.next hb5); clear hb5)
    | (refine wpList_store_row rfl _ (.tmp 6) (.tmp 14) rfl w5.heap.size (ubs (hashL (maskL b 54 ++ joined ps))).toArray rfl rfl 25 (ubs n32).toArray (heap_alloc_new _ _) (HS.out _) ?e3 (ubs_all _) ?e4; rotate_right; have H6 := hid (McW.start H5.out (hashL (maskL b 54 ++ joined ps))); generalize ((w5.alloc (.cells (ubs n32).toArray 25)).setRow w5.heap.size (ubs (hashL (maskL b 54 ++ joined ps))).toArray) = W6 at H6 ⊢))
  case e1 => simp [ubs_length, n64_length, HBL.out]
  case e3 => simp [ubs_length, n32_length, HK.out]
  have H6d := hid H6.out.drew
  clear H6 H5 H4 A4 R4 A3 H3 H2 H1 HBK H0
  refine wp_region_upto (McW w S ps b w1.heap.size (hashL (maskL b 54 ++ joined ps)) w5.heap.size) 5 6 (by kernel_rfl) (by kernel_rfl) ?_
  generalize W6.drew = V0 at H6d ⊢
  refine wpUpto_take (i := 0) (v := .agg (ubs b).toArray) rfl (by kernel_rfl) (by kernel_rfl) (by kernel_rfl) (by kernel_rfl) (by decide) (fun _ _ _ h => h) (Or.inl ⟨by rfl, ?_⟩) H6d.out ?_
  · (intro W hSW; refine run_load_row _ (.tmp 5) ?_ w1.heap.size ?_ 208 (ubs b).toArray _ hSW.mb.blk Tryd.underlying208 rfl HZ.out <;> rfl)
  refine wpUpto_take (i := 2) (v := .slice (some ⟨w5.heap.size, 0, none⟩) 32 32) rfl (by kernel_rfl) (by kernel_rfl) (by kernel_rfl) (by kernel_rfl) (by decide) (fun _ _ _ h => h) (Or.inl ⟨by rfl, ?_⟩) H6d.out ?_
  · (intro W hSW; go_simp)
  simp only [Act.put, List.setIfInBounds_toArray]
  refine wpUpto_one (i := 1) rfl (by kernel_rfl) rfl ?_
  intro K0 hK0
  go_simp
  go_at_call 136
  refine (masked92 b HBL.out V0).mono ?_
  rintro e w7 ⟨rfl, hA7, hb7⟩
  have H7 := hid (H6d.out.next hb7)
  have A7 := hid (rb_at hA7)
  clear hA7 hb7
  refine hK0.out _ _ (fun _ => H7.out) ?_
  clear hK0 K0
  refine wpUpto_one (i := 3) rfl (by kernel_rfl) rfl ?_
  intro K0 hK0
  go_simp
  have b8 : Below w7.heap.size w7 (w7.alloc (.cells #[.slice (some ⟨V0.heap.size, 0, none⟩) 64 64, .slice (some ⟨w5.heap.size, 0, none⟩) 32 32] 22)) := (Below.refl _ _).alloc (Nat.le_refl _) _
  have H8 := hid (H7.out.next b8)
  have A8 := hid ((A7.out.below b8).mono b8.size)
  have P8 := hid (show (#[.slice (some ⟨V0.heap.size, 0, none⟩) 64 64, .slice (some ⟨w5.heap.size, 0, none⟩) 32 32] : Array Value) = ([kp V0.heap.size b 92, ⟨some ⟨w5.heap.size, 0, none⟩, hashL (maskL b 54 ++ joined ps), 32⟩].map Part.v).toArray by
    simp only [List.map_cons, List.map_nil, kp_v _ _ _ HBL.out]
    unfold Part.v
    rw [HK.out])
  refine hK0.out _ _ (fun _ => H8.out) ?_
  clear hK0 K0 b8
  refine wpUpto_one (i := 4) rfl (by kernel_rfl) rfl ?_
  intro K0 hK0
  go_simp
  go_at_call 135
  have cq := of_any [kp V0.heap.size b 92, ⟨some ⟨w5.heap.size, 0, none⟩, hashL (maskL b 54 ++ joined ps), 32⟩] (some ⟨w7.heap.size, 0, none⟩) 2 (w7.alloc (.cells #[.slice (some ⟨V0.heap.size, 0, none⟩) 64 64, .slice (some ⟨w5.heap.size, 0, none⟩) 32 32] 22))
    (by rw [P8.out]; exact rd_parts w7 _) (by intro p hp; simp only [List.mem_cons, List.not_mem_nil, or_false] at hp; rcases hp with rfl | rfl; exact A8.out; exact rb_at H8.out.hsh)
    (by rw [joined_two, List.length_append]; show (maskL b 92).length + (hashL _).length ≤ _; rw [maskL_length, HBL.out, HK.out]; omega) (by simp) (HT.out.below H8.out.mb.ma.below)
  rw [joined_two] at cq
  refine cq.mono ?_
  clear cq
  rintro e w9 ⟨rfl, hb9⟩
  have H9 := hid (H8.out.next hb9)
  clear hb9
  refine hK0.out _ _ (fun _ => H9.out) ?_
  clear hK0 K0
  refine wpUpto_one (i := 5) rfl (by kernel_rfl) rfl ?_
  intro K0 hK0
  refine wp_store_row _ (.tmp 4) (.tmp 19) rfl w.heap.size (ubs (macL k (joined ps))).toArray ?_ ?_ 25 (ubs n32).toArray H9.out.mb.ma.res ?_ ?_ (ubs_all _) ?_
  · rfl
  · rw [HM.out]; rfl
  · rw [HM.out]; exact HS.out _
  · simp [ubs_length, n32_length, macL_length]
  refine hK0.out _ _ (fun h => absurd rfl h) ?_
  clear hK0 K0
  refine wpUpto_done (by kernel_rfl) ?_ _
  go_simp
  go_wp2
  refine bodyPost_ret (results_cell_row rfl _ _ w.heap.size 25 (ubs (macL k (joined ps))).toArray (0, 0) _ rfl (setRow_heap _ _ _ _ _ _ H9.out.mb.ma.res) Tryd.underlying25 rfl (by rw [HM.out]; exact HS.out _)) rfl ?_
  exact ⟨rfl, below_setRow H9.out.mb.ma.below (Nat.le_refl _) _⟩
end Go.Proofs.YtfmbpdjcoopaeaaDoor

namespace Go.Proofs.YtfmbpdjcoopaeaaDoor
open Go.RowKit

/-- A key with j noughts behind. -/
def padk (k : List UInt8) (j : Nat) : List UInt8 := k ++ List.replicate j 0
theorem padk_zero (k : List UInt8) : padk k 0 = k := by simp [padk]
theorem padk_succ (k : List UInt8) (j : Nat) : padk k (j + 1) = padk k j ++ [0] := by simp [padk, List.replicate_succ']
theorem padk_all (k : List UInt8) (j : Nat) (h : k.length + j = 64) : padk k j = padK k := by unfold padk padK; rw [show 64 - k.length = j by omega]
attribute [irreducible] padk
/-- How long a slice is. -/
def lenV : Value → Nat
  | .slice _ n _ => n
  | _ => 0
theorem lenV_slice (A : Option Addr) (n c : Nat) : lenV (.slice A n c) = n := rfl
theorem one_cells (w : World) (b : UInt8) (j : Nat) (u : Value) (hj : (ubs [b])[j]? = some u) : (w.alloc (.cells #[.int .u8 (b.toNat : Int)] 5)).cell? ((⟨w.heap.size, 0, none⟩ : Addr).add j) = some u := by
  obtain ⟨ad, e, h⟩ := (rb_one w b).src (by simp [ubs])
  cases e
  exact h j u hj
theorem rb_cells {w : World} {B : Nat} {a : Addr} {bs : List UInt8} (h : Rb w B (some a) bs) (j : Nat) (u : Value) (hj : (ubs bs)[j]? = some u) : w.cell? (a.add j) = some u := by
  obtain ⟨ad, e, h2⟩ := h.src (by have := (List.getElem?_eq_some_iff.1 hj).1; omega)
  cases e
  exact h2 j u hj
/-- The first byte appended to a full slice of an array. -/
theorem Own1.first {w W w4 : World} {h : List UInt8} {v : Value} {n : Nat} (B : Below w.heap.size w W) (hn : n = h.length) (hv : w4.ownsRow (W.alloc (.cells #[.int .u8 0] 5)).heap.size 5 1 v (n + 1) (ubs h ++ ubs [0])) (hg : (W.alloc (.cells #[.int .u8 0] 5)).grownBy w4 none) : Own1 w (n + 1) (h ++ [0]) v w4 :=
  ⟨by rw [List.length_append, hn]; rfl, by
    rw [ubs_append]
    exact own_mono hv (fun k hk => by have h1 := (World.ownsRow.lt hv k hk).1; have h2 := B.size; simp at h1; omega), (B.alloc B.size _).grown hg (by have := B.size; simp; omega) (fun k hk => by cases hk)⟩
set_option maxRecDepth 100000 in
set_option maxHeartbeats 8000000 in
theorem blockR_any (k : List UInt8) (A : Option Addr) (c : Nat) (w : World) (hr : Rb w w.heap.size A k) (hlen : k.length ≤ 1000000000) (hT : Tabr w) (hI : Tab w 0 IV.l) :
    Calls Tryd.prog 76 #[.slice A k.length c] w fun e w' => ∃ v, e = .returned v ∧ Own1 w 64 (blockL k) v w' := by
  obtain ⟨i0, hi, hz0, hz1, hz2⟩ := info_parts infoB
  have HO := hid (own_start w)
  have HR := hid (hr.alloc (.cells #[] 5))
  have HR0 := hid hr
  have HT := hid hT
  have HI := hid hI
  obtain ⟨n, hn⟩ : ∃ n, n = k.length := ⟨_, rfl⟩
  have HN := hid hn
  clear hr hT hI
  by_cases hbig : 64 < k.length
  · have HB := hid (blockL_long k hbig)
    obtain ⟨h, hh⟩ : ∃ h, h = hashL k := ⟨_, rfl⟩
    have HH := hid (show h.length = 32 by rw [hh, hashL_length])
    have HS := hid (show (Tryd.prog.info? 25).map (·.size) = some (ubs h).toArray.size by rw [sizeH]; simp [ubs_length, HH.out])
    have HE := hid hh
    rw [← hn] at hbig hlen ⊢
    have hz32 := noughts32
    clear hn hh
    go_enter Tryd.func76, Tryd.ntmps76
    go_wp2_with (first
      | (at_builtin; refine wpList_append_rd rfl (.tmp 5) (.tmp 6) _ rfl w.heap.size 5 i0 (.int .u8 0) 1 Tryd.underlying22 hi hz0 hz1 hz2 rfl (.slice (some ⟨w.heap.size, 0, none⟩) 0 0) 0 (ubs []) rfl HO.out.own w.heap.size A n c (ubs k) rfl (by rw [ubs_length, HN.out]) HR.out (ubs_one _) (by unfold maxLen; omega) (by omega) (by simp) ?_; intro v1 w1 hown hgr _; replace hown := hid (HO.out.more hown HN.out hgr); clear hgr; rw [List.nil_append, Nat.zero_add] at hown; obtain ⟨A1, c1, rfl, -⟩ := own_form hown.out.own)
      | (go_at_call 77; (have cq := sumR_any k A c w1 ((HR0.out.below hown.out.below).mono hown.out.below.size) (by rw [← HN.out]; omega) (HT.out.below hown.out.below) (Tab.below (x := IV.a) (xs := [IV.b, IV.c, IV.d, IV.e, IV.f, IV.g, IV.h]) HI.out hown.out.below)); rw [← HN.out, ← HE.out] at cq; refine cq.mono ?_; clear cq; rintro e w2 ⟨rfl, hb2⟩; have B2 := hid (hown.out.below.trans (hb2.mono hown.out.below.size)); clear hb2)
      | (refine wpList_store_row rfl _ (.tmp 4) (.tmp 12) rfl w2.heap.size (ubs h).toArray rfl rfl 25 (ubs n32).toArray (heap_alloc_new _ _) HS.out ?e1 (ubs_all _) ?e2; rotate_right; have B3 := hid (B2.out.trans ((stored_below w2 h).mono B2.out.size)); have A3 := hid (stored_rb w2 h); generalize ((w2.alloc (.cells (ubs n32).toArray 25)).setRow w2.heap.size (ubs h).toArray) = W3 at B3 A3 ⊢))
    case e1 => simp [ubs_length, n32_length, HH.out]
    clear HO HR HR0 HT HI hown B2
    have P0 := hid (padk_zero h)
    have PE := hid (show padk h 32 = blockL k by rw [padk_all h 32 (by rw [HH.out]), HE.out, HB.out])
    go_loopw [3] (fun v wr => ∃ (j : Nat) (A5 : Option Addr) (c5 : Nat), j ≤ 32 ∧ v = .slice A5 (32 + j) c5 ∧ Hid ((j = 0 ∧ A5 = some ⟨w2.heap.size, 0, none⟩ ∧ c5 = 32 ∧ wr = W3) ∨ Own1 w (32 + j) (padk h j) v wr)) (fun v _ => 64 - lenV v)
    case atStart => exact ⟨0, _, _, by omega, rfl, .inl ⟨rfl, rfl, rfl, rfl⟩⟩
    case round =>
      obtain ⟨j, A5, c5, hj, rfl, hO⟩ := hrel
      by_cases hlt : j < 32
      · rcases hO.out with ⟨rfl, rfl, rfl, rfl⟩ | ho
        · clear hO
          have RC := hid (fun j u hj => rb_cells (Rd.alloc A3.out (.cells #[.int .u8 0] 5)) j u hj)
          have OC := hid (one_cells wr 0)
          go_wp2_with (at_builtin; go_loud (refine wpList_append_grows _ rfl (.tmp 17) (.tmp 18) _ rfl 5 i0 (.int .u8 0) 1 1 Tryd.underlying22 hi hz0 hz1 hz2 rfl (by decide) (some ⟨w2.heap.size, 0, none⟩) 32 32 (ubs h) rfl (fun e => by cases e) (by rw [ubs_length, HH.out]) (by intro b e; cases e; exact RC.out) ⟨wr.heap.size, 0, none⟩ 1 1 (ubs [0]) rfl rfl OC.out (ubs_one _) (by omega) (by unfold maxLen; omega) (by omega) ?_); intro v4 w4 hown4 hgr4; obtain ⟨A4, c4, rfl, -⟩ := own_form hown4; have O4 := hid (Own1.first B3.out HH.out.symm hown4 hgr4); clear hown4 hgr4)
          go_roundw
          case rel => exact ⟨1, A4, c4, by omega, rfl, .inr (by rw [padk_succ, padk_zero]; exact O4.out)⟩
          case measure => simp [lenV_slice]
        · have HO := hid ho
          clear hO ho
          have HQ := hid (padk_succ h j)
          have LX := hid (show ∀ n m c : Nat, ∀ A B : Option Addr, n < m → m ≤ 64 → 64 - lenV (.slice A m c) < 64 - lenV (.slice B n c5) from fun n m c A B h1 h2 => by rw [lenV_slice, lenV_slice]; omega)
          go_wp2_with (at_builtin; refine wpList_append_rd rfl (.tmp 17) (.tmp 18) _ rfl w.heap.size 5 i0 (.int .u8 0) 1 Tryd.underlying22 hi hz0 hz1 hz2 rfl (.slice A5 (32 + j) c5) (32 + j) (ubs (padk h j)) rfl (HO.out.own.alloc _) (wr.heap.size + 1) (some ⟨wr.heap.size, 0, none⟩) 1 1 (ubs [0]) rfl rfl (rb_one wr 0) (ubs_one _) (by unfold maxLen; omega) (by omega) (by have := HO.out.below.size; simp; omega) ?_; intro v4 w4 hown4 hgr4 _; replace hown4 := hid (HO.out.next hown4 hgr4); clear hgr4; obtain ⟨A4, c4, rfl, -⟩ := own_form hown4.out.own)
          go_roundw
          case rel => exact ⟨j + 1, A4, c4, by omega, rfl, .inr (by rw [HQ.out]; exact hown4.out)⟩
          case measure => exact LX.out _ _ _ _ _ (by omega) (by omega)
      · obtain rfl : j = 32 := by omega
        rcases hO.out with ⟨h0, -⟩ | ho
        · omega
        · have HO := hid ho
          clear hO ho
          go_wp2
          go_ret
          exact ⟨_, rfl, by rw [← PE.out]; exact HO.out⟩
  · have HB := hid (blockL_short k hbig)
    have PE := hid (padk_all k (64 - k.length) (by omega))
    have P0 := hid (padk_zero k)
    rw [← hn] at hbig hlen PE ⊢
    clear hn HR0 HT HI
    go_enter Tryd.func76, Tryd.ntmps76
    go_wp2_with (at_builtin; refine wpList_append_rd rfl (.tmp 5) (.tmp 6) _ rfl w.heap.size 5 i0 (.int .u8 0) 1 Tryd.underlying22 hi hz0 hz1 hz2 rfl (.slice (some ⟨w.heap.size, 0, none⟩) 0 0) 0 (ubs []) rfl HO.out.own w.heap.size A n c (ubs k) rfl (by rw [ubs_length, HN.out]) HR.out (ubs_one _) (by unfold maxLen; omega) (by omega) (by simp) ?_; intro v1 w1 hown hgr _; replace hown := hid (HO.out.more hown HN.out hgr); clear hgr; rw [List.nil_append, Nat.zero_add] at hown; obtain ⟨A1, c1, rfl, -⟩ := own_form hown.out.own)
    go_loopw [3] (fun v wr => ∃ (m : Nat) (A5 : Option Addr) (c5 : Nat), n ≤ m ∧ m ≤ 64 ∧ v = .slice A5 m c5 ∧ Own1 w m (padk k (m - n)) v wr) (fun v _ => 64 - lenV v)
    case atStart => exact ⟨n, _, _, by omega, by omega, rfl, by rw [Nat.sub_self, P0.out]; exact hown.out⟩
    case round =>
      clear hown HO HR
      obtain ⟨m, A5, c5, hm, hj, rfl, hO⟩ := hrel
      have HO := hid hO
      clear hO
      by_cases hlt : m < 64
      · have HQ := hid (show padk k (m + 1 - n) = padk k (m - n) ++ [0] by rw [show m + 1 - n = (m - n) + 1 by omega, padk_succ])
        have LX := hid (show ∀ n m c : Nat, ∀ A B : Option Addr, n < m → m ≤ 64 → 64 - lenV (.slice A m c) < 64 - lenV (.slice B n c5) from fun n m c A B h1 h2 => by rw [lenV_slice, lenV_slice]; omega)
        go_wp2_with (at_builtin; refine wpList_append_rd rfl (.tmp 17) (.tmp 18) _ rfl w.heap.size 5 i0 (.int .u8 0) 1 Tryd.underlying22 hi hz0 hz1 hz2 rfl (.slice A5 m c5) m (ubs (padk k (m - n))) rfl (HO.out.own.alloc _) (wr.heap.size + 1) (some ⟨wr.heap.size, 0, none⟩) 1 1 (ubs [0]) rfl rfl (rb_one wr 0) (ubs_one _) (by unfold maxLen; omega) (by omega) (by have := HO.out.below.size; simp; omega) ?_; intro v4 w4 hown4 hgr4 _; replace hown4 := hid (HO.out.next hown4 hgr4); clear hgr4; obtain ⟨A4, c4, rfl, -⟩ := own_form hown4.out.own)
        go_roundw
        case rel => exact ⟨m + 1, A4, c4, by omega, by omega, rfl, by rw [HQ.out]; exact hown4.out⟩
        case measure => exact LX.out _ _ _ _ _ (by omega) (by omega)
      · obtain rfl : m = 64 := by omega
        go_wp2
        go_ret
        exact ⟨_, rfl, by rw [HB.out, ← PE.out]; exact HO.out⟩
end Go.Proofs.YtfmbpdjcoopaeaaDoor

namespace Go.Proofs.YtfmbpdjcoopaeaaDoor
open Go.RowKit

/-- Two slices of the call's own, in blocks of their own. -/
structure TwoW (w : World) (n : Nat) (vi vo : Value) (xs ys : List UInt8) (W : World) : Prop where
  i : W.ownsRow w.heap.size 5 1 vi n (ubs xs)
  o : W.ownsRow w.heap.size 5 1 vo n (ubs ys)
  apart : ∀ g, vi.ownBlock = some g → vo.ownBlock ≠ some g
  below : Below w.heap.size w W
theorem TwoW.start (w : World) : TwoW w 0 (.slice none 0 0) (.slice none 0 0) [] [] w :=
  ⟨World.ownsRow_nil _ _ _ _, World.ownsRow_nil _ _ _ _, fun g h => by simp [Value.ownBlock] at h, Below.refl _ _⟩
/-- The first grows by one byte; then the second does. -/
structure MidW (w : World) (n : Nat) (vi vo : Value) (xs ys : List UInt8) (W : World) : Prop where
  i : W.ownsRow w.heap.size 5 1 vi (n + 1) (ubs xs)
  o : W.ownsRow w.heap.size 5 1 vo n (ubs ys)
  apart : ∀ g, vi.ownBlock = some g → vo.ownBlock ≠ some g
  below : Below w.heap.size w W
theorem TwoW.mid {w W W2 : World} {n : Nat} {vi vo v : Value} {xs ys : List UInt8} {b : UInt8} {o : Obj} (h : TwoW w n vi vo xs ys W) (h2 : W2.ownsRow w.heap.size 5 1 v (n + 1) (ubs xs ++ ubs [b])) (hg : (W.alloc o).grownBy W2 vi.ownBlock)
    (hb : v.ownBlock = vi.ownBlock ∨ v.ownBlock = some (W.alloc o).heap.size) : MidW w n v vo (xs ++ [b]) ys W2 :=
  ⟨by rw [ubs_append]; exact h2, own_grown (h.o.alloc _) hg (fun g hg' e => h.apart g e hg'), fun g hv ho => by
    rcases hb with hb | hb
    · exact h.apart g (hb ▸ hv) ho
    · rw [hb] at hv
      have := (World.ownsRow.lt h.o g ho).2
      simp at hv
      omega, (h.below.alloc h.below.size o).grown hg (by have := h.below.size; simp; omega) (fun k hk => (World.ownsRow.lt h.i k hk).1)⟩
theorem MidW.two {w W W2 : World} {n : Nat} {vi vo v : Value} {xs ys : List UInt8} {b : UInt8} {o : Obj} (h : MidW w n vi vo xs ys W) (h2 : W2.ownsRow w.heap.size 5 1 v (n + 1) (ubs ys ++ ubs [b])) (hg : (W.alloc o).grownBy W2 vo.ownBlock)
    (hb : v.ownBlock = vo.ownBlock ∨ v.ownBlock = some (W.alloc o).heap.size) : TwoW w (n + 1) vi v xs (ys ++ [b]) W2 :=
  ⟨own_grown (h.i.alloc _) hg (fun g hg' e => h.apart g hg' e), by rw [ubs_append]; exact h2, fun g hv ho => by
    rcases hb with hb | hb
    · exact h.apart g hv (hb ▸ ho)
    · rw [hb] at ho
      have := (World.ownsRow.lt h.i g hv).2
      simp at ho
      omega, (h.below.alloc h.below.size o).grown hg (by have := h.below.size; simp; omega) (fun k hk => (World.ownsRow.lt h.o k hk).1)⟩
/-- A text appended to the first. -/
theorem TwoW.more {w W W2 : World} {n m : Nat} {vi vo v : Value} {xs ys : List UInt8} (h : TwoW w n vi vo xs ys W) {zs : List UInt8} (h2 : W2.ownsRow w.heap.size 5 1 v (n + m) (ubs xs ++ ubs zs)) (hg : W.grownBy W2 vi.ownBlock) :
    W2.ownsRow w.heap.size 5 1 v (n + m) (ubs (xs ++ zs)) ∧ W2.ownsRow w.heap.size 5 1 vo n (ubs ys) ∧ Below w.heap.size w W2 :=
  ⟨by rw [ubs_append]; exact h2, own_grown h.o hg (fun g hg' e => h.apart g e hg'), h.below.grown hg h.below.size (fun k hk => (World.ownsRow.lt h.i k hk).1)⟩
/-- The first k bytes of a masked block key. -/
def mk (b : List UInt8) (m : UInt8) (k : Nat) : List UInt8 := (maskL b m).take k
theorem mk_zero (b : List UInt8) (m : UInt8) : mk b m 0 = [] := rfl
theorem mk_succ (b : List UInt8) (m : UInt8) (k : Nat) (h : k < b.length) : mk b m (k + 1) = mk b m k ++ [b.getD k 0 ^^^ m] := by
  unfold mk maskL
  rw [List.take_succ_eq_append_getElem (by simpa using h)]
  simp [h]
theorem mk_all (b : List UInt8) (m : UInt8) (k : Nat) (h : b.length = k) : mk b m k = maskL b m := by
  unfold mk
  rw [List.take_of_length_le (by rw [maskL_length, h]; exact Nat.le_refl _)]
attribute [irreducible] mk
set_option maxRecDepth 100000 in
set_option maxHeartbeats 8000000 in
theorem macR_any (k t : List UInt8) (K T : Option Addr) (ck ct : Nat) (w : World) (hk : Rb w w.heap.size K k) (ht : Rb w w.heap.size T t) (lk : k.length ≤ 1000000000) (lt : t.length ≤ 1000000000) (hT : Tabr w) (hI : Tab w 0 IV.l) :
    Calls Tryd.prog 14 #[.slice K k.length ck, .slice T t.length ct] w fun e w' => e = .returned (.agg (ubs (macL k t)).toArray) ∧ Below w.heap.size w w' := by
  obtain ⟨i0, hi, hz0, hz1, hz2⟩ := info_parts infoB
  obtain ⟨W0, hW0⟩ : ∃ W0, W0 = w.alloc (.cells (ubs n32).toArray 25) := ⟨_, rfl⟩
  have hb0 : Below w.heap.size w W0 := by rw [hW0]; exact (Below.refl _ _).alloc (Nat.le_refl _) _
  have h0 : At W0 w.heap.size (ubs n32).toArray 25 := by rw [hW0]; exact At.new _ _ _
  have hbk := blockR_any k K ck W0 ((hk.below hb0).mono hb0.size) lk (hT.below hb0) (Tab.below (x := IV.a) (xs := [IV.b, IV.c, IV.d, IV.e, IV.f, IV.g, IV.h]) hI hb0)
  have HT := hid hT
  have HI := hid hI
  have HR := hid ((ht.below hb0).mono hb0.size)
  have HB0 := hid hb0
  have H0 := hid h0
  obtain ⟨b, hb⟩ : ∃ b, b = blockL k := ⟨_, rfl⟩
  have HBL := hid (show b.length = 64 by rw [hb, blockL_length])
  have HM := hid (macL_eq k t)
  rw [← hb] at hbk HM
  have HBK := hid hbk
  have hz32 := noughts32
  have HS := hid (fun h => show (Tryd.prog.info? 25).map (·.size) = some (ubs (hashL h)).toArray.size by rw [sizeH]; simp [ubs_length, hashL_length])
  have HK := hid (fun h => hashL_length h)
  obtain ⟨n, hn⟩ : ∃ n, n = t.length := ⟨_, rfl⟩
  obtain ⟨l, hl⟩ : ∃ l, l = k.length := ⟨_, rfl⟩
  have HN := hid hn
  rw [← hn] at lt ⊢
  rw [← hl] at HBK ⊢
  clear hb0 h0 hbk hk ht hT hI hb hn hl lk
  subst hW0
  go_enter Tryd.func14, Tryd.ntmps14
  go_wp2_with (go_at_call 76; refine HBK.out.mono ?_; rintro e w1 ⟨v, rfl, hO⟩; obtain ⟨A5, c5, rfl, -⟩ := own_form hO.own; have R1 := hid (Rd.of_own hO.own); have B1 := hid (HB0.out.trans (hO.below.mono HB0.out.size)); have T1 := hid ((HR.out.below hO.below).mono hO.below.size); have A1 := hid (H0.out.new_ hO.below); clear hO)
  clear HBK HR H0 HB0
  go_loopw [6, 7, 8] (fun vi vo i wr => ∃ (j : Nat) (A2 A3 : Option Addr) (c2 c3 : Nat), j ≤ 64 ∧ i = .int .i64 j ∧ vi = .slice A2 j c2 ∧ vo = .slice A3 j c3 ∧ TwoW w1 j (.slice A2 j c2) (.slice A3 j c3) (mk b 54 j) (mk b 92 j) wr) (fun _ _ i _ => 64 - (intOf i).toNat)
  case atStart => exact ⟨0, none, none, 0, 0, by omega, rfl, rfl, rfl, by rw [mk_zero, mk_zero]; exact TwoW.start w1⟩
  case round =>
    obtain ⟨j, A2, A3, c2, c3, hj, rfl, rfl, rfl, hW⟩ := hrel
    have HW := hid hW
    clear hW
    by_cases hlt : j < 64
    · have hjb : j < b.length := by rw [HBL.out]; exact hlt
      have HQ1 := hid (mk_succ b 54 j hjb)
      have HQ2 := hid (mk_succ b 92 j hjb)
      have hg : (ubs b)[j]? = some (.int .u8 ((b.getD j 0).toNat : Int)) := by rw [ubs_at hjb]; simp [hjb]
      have hx1 := b_xor 5 (b.getD j 0) 54
      have hx2 := b_xor 5 (b.getD j 0) 92
      obtain ⟨x, hx⟩ : ∃ x, x = b.getD j 0 := ⟨_, rfl⟩
      rw [← hx] at hg hx1 hx2 HQ1 HQ2
      clear hx
      obtain ⟨y1, hy1⟩ : ∃ y, y = x ^^^ 54 := ⟨_, rfl⟩
      obtain ⟨y2, hy2⟩ : ∃ y, y = x ^^^ 92 := ⟨_, rfl⟩
      rw [← hy1] at hx1 HQ1
      rw [← hy2] at hx2 HQ2
      replace hx1 : binOp .xor 5 (.int .u8 (x.toNat : Int)) (.int .u8 54) = pure (.int .u8 (y1.toNat : Int)) := hx1
      replace hx2 : binOp .xor 5 (.int .u8 (x.toNat : Int)) (.int .u8 92) = pure (.int .u8 (y2.toNat : Int)) := hx2
      clear hy1 hy2
      obtain ⟨g5, o5, rfl, hg5, -⟩ := R1.out.at_ hg
      have HC := hid (fun (W : World) (hb : Below w1.heap.size w1 W) => ((R1.out.below hb).at_ hg))
      have hc0 : wr.cell? ⟨g5, o5 + j, none⟩ = some (.int .u8 (x.toNat : Int)) := by
        obtain ⟨b', o', e, -, hc⟩ := HC.out wr HW.out.below
        cases e
        exact hc
      go_wp2_with (first
        | (at_builtin; refine wpList_append_rd rfl (.tmp 16) (.tmp 22) _ rfl w1.heap.size 5 i0 (.int .u8 0) 1 Tryd.underlying22 hi hz0 hz1 hz2 rfl (.slice A2 j c2) j (ubs (mk b 54 j)) rfl (HW.out.i.alloc _) (wr.heap.size + 1) (some ⟨wr.heap.size, 0, none⟩) 1 1 (ubs [y1]) rfl rfl (rb_one wr y1) (ubs_one _) (by unfold maxLen; omega) (by omega) (by have := HW.out.below.size; simp; omega) ?_; intro v4 w4 hown4 hgr4 hb4; (have hm4 := HW.out.mid hown4 hgr4 hb4); obtain ⟨A4, c4, rfl, -⟩ := own_form hm4.i; have M4 := hid hm4; have hc4 : w4.cell? ⟨g5, o5 + j, none⟩ = some (.int .u8 (x.toNat : Int)) := (by obtain ⟨b', o', e, -, hc⟩ := HC.out w4 hm4.below; cases e; exact hc); clear hown4 hgr4 hb4 hm4)
        | (at_builtin; refine wpList_append_rd rfl (.tmp 24) (.tmp 30) _ rfl w1.heap.size 5 i0 (.int .u8 0) 1 Tryd.underlying22 hi hz0 hz1 hz2 rfl (.slice A3 j c3) j (ubs (mk b 92 j)) rfl (M4.out.o.alloc _) (w4.heap.size + 1) (some ⟨w4.heap.size, 0, none⟩) 1 1 (ubs [y2]) rfl rfl (rb_one w4 y2) (ubs_one _) (by unfold maxLen; omega) (by omega) (by have := M4.out.below.size; simp; omega) ?_; intro v6 w6 hown6 hgr6 hb6; (have hm6 := M4.out.two hown6 hgr6 hb6); obtain ⟨A6, c6, rfl, -⟩ := own_form hm6.o; have M6 := hid hm6; clear hown6 hgr6 hb6 hm6))
      go_roundw
      case rel => exact ⟨j + 1, A4, A6, c4, c6, by omega, by go_num, rfl, rfl, by rw [HQ1.out, HQ2.out]; exact M6.out⟩
      case measure => simp [intOf]; omega
    · obtain rfl : j = 64 := by omega
      have hw := HW.out
      rw [mk_all b 54 64 HBL.out, mk_all b 92 64 HBL.out] at hw
      have HW := hid hw
      obtain ⟨p, hp⟩ : ∃ p, p = maskL b 54 := ⟨_, rfl⟩
      obtain ⟨q, hq⟩ : ∃ q, q = maskL b 92 := ⟨_, rfl⟩
      have HPL := hid (show p.length = 64 by rw [hp, maskL_length, HBL.out])
      have HQL := hid (show q.length = 64 by rw [hq, maskL_length, HBL.out])
      rw [← hp, ← hq] at HM HW
      have HT2 := hid ((HT.out.below B1.out))
      have HI2 := hid (Tab.below (x := IV.a) (xs := [IV.b, IV.c, IV.d, IV.e, IV.f, IV.g, IV.h]) HI.out B1.out)
      have TW := hid ((T1.out.below HW.out.below).mono HW.out.below.size)
      clear hw hp hq HT HI R1
      go_wp2_with (first
        | (at_builtin; refine wpList_append_rd rfl (.tmp 32) (.tmp 33) _ rfl w1.heap.size 5 i0 (.int .u8 0) 1 Tryd.underlying22 hi hz0 hz1 hz2 rfl (.slice A2 64 c2) 64 (ubs p) rfl HW.out.i _ T n ct (ubs t) rfl (by rw [ubs_length, HN.out]) TW.out (ubs_one _) (by unfold maxLen; omega) (by omega) HW.out.below.size ?_; intro v4 w4 hown4 hgr4 _; (have hm4 := HW.out.more hown4 hgr4); obtain ⟨A4, c4, rfl, -⟩ := own_form hm4.1; have R4 := hid (Rd.of_own hm4.1); have O4 := hid hm4.2.1; have B4 := hid hm4.2.2; clear hown4 hgr4 hm4)
        | (go_at_call 77; (have cq := sumR_any (p ++ t) A4 c4 w4 R4.out (by rw [List.length_append, HPL.out, ← HN.out]; omega) (HT2.out.below B4.out) (Tab.below (x := IV.a) (xs := [IV.b, IV.c, IV.d, IV.e, IV.f, IV.g, IV.h]) HI2.out B4.out)); rw [List.length_append, HPL.out, ← HN.out] at cq; refine cq.mono ?_; clear cq; rintro e w5 ⟨rfl, hb5⟩; have B5 := hid (B4.out.trans (hb5.mono B4.out.size)); have O5 := hid (own_fr O4.out (Fr.of_new (S := fun _ => False) hb5) (fun _ _ h => h)); clear hb5 R4)
        | (refine wpList_store_row rfl _ (.tmp 9) (.tmp 35) rfl w5.heap.size (ubs (hashL (p ++ t))).toArray rfl rfl 25 (ubs n32).toArray (heap_alloc_new _ _) (HS.out _) ?e3 (ubs_all _) ?e4; rotate_right; have B6 := hid (B5.out.trans ((stored_below w5 (hashL (p ++ t))).mono B5.out.size)); have A6 := hid (stored_rb w5 (hashL (p ++ t))); have O6 := hid (own_fr O5.out (Fr.of_new (S := fun _ => False) (stored_below w5 (hashL (p ++ t)))) (fun _ _ h => h)); generalize ((w5.alloc (.cells (ubs n32).toArray 25)).setRow w5.heap.size (ubs (hashL (p ++ t))).toArray) = W6 at B6 A6 O6 ⊢)
        | (at_builtin; refine wpList_append_rd rfl (.tmp 36) (.tmp 37) _ rfl w1.heap.size 5 i0 (.int .u8 0) 1 Tryd.underlying22 hi hz0 hz1 hz2 rfl (.slice A3 64 c3) 64 (ubs q) rfl O6.out W6.heap.size (some ⟨w5.heap.size, 0, none⟩) 32 32 (ubs (hashL (p ++ t))) rfl (by rw [ubs_length, HK.out]) A6.out (ubs_one _) (by unfold maxLen; omega) (by omega) B6.out.size ?_; intro v7 w7 hown7 hgr7 _; rw [← ubs_append] at hown7; obtain ⟨A7, c7, rfl, -⟩ := own_form hown7; have R7 := hid (Rd.of_own hown7); have B7 := hid (B6.out.grown hgr7 B6.out.size (fun k hk => (World.ownsRow.lt O6.out k hk).1)); clear hown7 hgr7)
        | (go_at_call 77; (have cq := sumR_any (q ++ hashL (p ++ t)) A7 c7 w7 R7.out (by rw [List.length_append, HQL.out, HK.out]; omega) (HT2.out.below B7.out) (Tab.below (x := IV.a) (xs := [IV.b, IV.c, IV.d, IV.e, IV.f, IV.g, IV.h]) HI2.out B7.out)); rw [List.length_append, HQL.out, HK.out] at cq; refine cq.mono ?_; clear cq; rintro e w8 ⟨rfl, hb8⟩; have B8 := hid (B7.out.trans (hb8.mono B7.out.size)); have A8 := hid (A1.out.new_ B8.out); clear hb8)
        | (refine wpList_store_row rfl _ (.tmp 4) (.tmp 39) rfl w.heap.size (ubs (hashL (q ++ hashL (p ++ t)))).toArray rfl rfl 25 (ubs n32).toArray A8.out (HS.out _) ?e5 (ubs_all _) ?e6; rotate_right))
      case e3 => simp [ubs_length, n32_length, HK.out]
      case e5 => simp [ubs_length, n32_length, HK.out]
      refine bodyPost_ret (results_cell_row rfl _ _ w.heap.size 25 (ubs (hashL (q ++ hashL (p ++ t)))).toArray (0, 0) _ rfl (setRow_heap _ _ _ _ _ _ A8.out) Tryd.underlying25 rfl (HS.out _)) rfl ?_
      exact ⟨by rw [HM.out], below_setRow (B1.out.trans (B8.out.mono B1.out.size)) (Nat.le_refl _) _⟩
end Go.Proofs.YtfmbpdjcoopaeaaDoor

namespace Go.Proofs.YtfmbpdjcoopaeaaDoor
open Go.RowKit

theorem sizeH_of {l : List UInt8} (h : l.length = 32) : (Tryd.prog.info? 25).map (·.size) = some (ubs l).toArray.size := by rw [sizeH]; simp [ubs_length, h]
def labTag : List UInt8 := [101, 110, 116, 114, 117, 115, 116, 32, 116, 97, 103]
def keyTag (key : List UInt8) : List UInt8 := macL key labTag
/-- What holds in Session. -/
structure SsW (w : World) (l : List UInt8) (W : World) : Prop where
  a0 : At W w.heap.size (ubs l).toArray 25
  a1 : At W (w.heap.size + 1) (ubs n32).toArray 25
  below : Below w.heap.size w W
theorem SsW.new {w W W' : World} {l : List UInt8} (h : SsW w l W) (hb : Below W.heap.size W W') : SsW w l W' := ⟨h.a0.new_ hb, h.a1.new_ hb, h.below.trans (hb.mono h.below.size)⟩
theorem SsW.start (w : World) (l : List UInt8) : SsW w l ((w.alloc (.cells (ubs l).toArray 25)).alloc (.cells (ubs n32).toArray 25)).drew :=
  ⟨((At.new _ _ _).alloc _ : At ((w.alloc _).alloc _) _ _ _), (At.new_at (by simp) : At ((w.alloc _).alloc _) _ _ _), below_drewN (((Below.refl w.heap.size w).alloc (Nat.le_refl _) _).alloc (by simp) _) 1⟩
def labSeal : List UInt8 := [101, 110, 116, 114, 117, 115, 116, 32, 115, 101, 97, 108]
def keyEnc (key : List UInt8) : List UInt8 := (macL key labSeal).take 16
/-- What holds in Enc: the key, the result, the label's tag, the key in the making. -/
structure EkW (w : World) (key h k : List UInt8) (D E : Nat) (W : World) : Prop where
  a1 : At W (w.heap.size + 1) (ubs n16).toArray 31
  d : At W D (ubs h).toArray 25
  e : At W E (ubs k).toArray 31
  far : E ≠ w.heap.size + 1
  hi : w.heap.size ≤ E
  below : Below w.heap.size w W
theorem EkW.drew {w W : World} {key h k : List UInt8} {D E : Nat} (x : EkW w key h k D E W) (n : Nat) : EkW w key h k D E (W.drewN n) := ⟨x.a1, x.d, x.e, x.far, x.hi, below_drewN x.below n⟩
theorem splice_take (h : List UInt8) (hl : h.length = 32) : splice (ubs n16) 0 ((ubs h).take 16) = ubs (h.take 16) := by
  unfold splice
  rw [List.take_zero, List.nil_append, List.drop_eq_nil_of_le (by rw [ubs_length, n16_length]; simp [ubs_length, hl]), List.append_nil]
  simp [ubs, List.map_take]
theorem EkW.fill {w W W' : World} {key h : List UInt8} {D E : Nat} (x : EkW w key h n16 D E W) (hl : h.length = 32) (hA : At W' E (splice (ubs n16) 0 ((ubs h).take 16)).toArray 31) (hF : Fr (fun k => k = E) W W') : EkW w key h (h.take 16) D E W' := by
  rw [splice_take h hl] at hA
  exact ⟨x.a1.fr hF (fun e => x.far e.symm), x.d.fr hF (At.ne x.d x.e (by decide)), hA, x.far, x.hi, ((Fr.of_below (S := fun k => w.heap.size ≤ k) x.below (fun _ _ h => h)).next hF (fun g hg e => by have := x.hi; omega)).below (fun _ h => h) (Nat.le_refl _)⟩
end Go.Proofs.YtfmbpdjcoopaeaaDoor
