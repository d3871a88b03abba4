/-
  Parts put together: the library's Grow and Concat, and the program's hash of parts.
-/
import Derived.Test.YtnaihcoafgigcaaDoorY4
import Derived.Test.YtnaihcoafgigcaaDoorSr
namespace Go.Proofs.YtnaihcoafgigcaaDoor
open Go.RowKit

theorem run_append_made {P : Program} (w : World) (t u ty e : TypeId) (i : TypeInfo) (z : Value) (ht : P.underlying t = some (.slice e)) (hu : P.underlying u = some (.int .i64)) (hi : P.info? e = some i) (hz : i.zero = some z) (hs : i.size = 1) (hby : i.bytes = 1)
    (n : Nat) (h0 : 0 < n) (hn : n ≤ 140737488355328) :
    (Builtin.append_ #[t, u] ty #[.slice none 0 0, .int .i64 (n : Int)]).run P w =
      .ok (.slice (some ⟨w.heap.size, 0, none⟩) n (grownCap w n 0 e)) (w.drew.alloc (.cells (Builtin.zeroCells z.cells n ++ Builtin.zeroCells z.cells (grownCap w n 0 e - n)) e)) := by
  have hw : IntKind.i64.wrap (n : Int) = n := by rw [IntKind.wrap_i64]; omega
  have h1 : ¬ ((n : Int) < 0) := by omega
  have h2 : ¬ (281474976710656 < (n : Int)) := by omega
  have h3 : n ≠ 0 := by omega
  have h4 : ¬ (9223372036854775807 < (n : Int)) := by omega
  have h5 : ¬ (281474976710656 < Builtin.nextslicecap n 0) := by rw [nextslicecap_zero h0]; omega
  simp [Builtin.append_, run_underlying ht, run_underlying hu, sizeOf, typeInfo, zeroValue, hi, hz, hs, hby, asInt, asIntOf, hw, h2, h3, h4, h5, Question.forced, newRow, grownCap, Builtin.firstCells]
  exact fun h => absurd h h1
theorem wpList_append_made {P : Program} {w : World} {ops : Array Oper} {rest : List Oper} {o : Oper} {a : Go.Act} {Q : Exit → Go.Act → World → Prop} (hgd : o.guard = none) (s x : Operand) (t u : TypeId)
    (ho : o.op = .call { callee := .builtin .append, args := #[s, x], argTypes := #[t, u] }) (e : TypeId) (i : TypeInfo) (z : Value) (ht : P.underlying t = some (.slice e)) (hu : P.underlying u = some (.int .i64)) (hi : P.info? e = some i) (hz : i.zero = some z) (hs : i.size = 1) (hby : i.bytes = 1)
    (n : Nat) (hx : a.eval s = .slice none 0 0) (hy : a.eval x = .int .i64 (n : Int)) (h0 : 0 < n) (hn : n ≤ 140737488355328)
    (h : wpList P ops Q rest (a.put o.dst (.slice (some ⟨w.heap.size, 0, none⟩) n (grownCap w n 0 e))) (w.drew.alloc (.cells (Builtin.zeroCells z.cells n ++ Builtin.zeroCells z.cells (grownCap w n 0 e - n)) e))) : wpList P ops Q (o :: rest) a w := by
  refine wpList_plain hgd fun K hK => ?_
  unfold Oper.wp execOp
  simp only [ho, resolve, invoke, builtin, Sem.run_bind, Sem.run_pure, Result.andThen_ok, List.map_toArray, List.map_cons, List.map_nil, hx, hy, run_append_made (P := P) w t u o.type e i z ht hu hi hz hs hby n h0 hn]
  exact hK _ _ h

set_option maxRecDepth 100000 in
/-- Nothing of a slice's own yet, room perhaps. -/
theorem grow_any (n : Nat) (w : World) (hn : n ≤ 1000000000) :
    Calls Tryd.prog 88 #[.slice none 0 0, .int .i64 (n : Int)] w fun e w' => ∃ v, e = .returned v ∧ Own1 w 0 [] v w' := by
  obtain ⟨i0, hi, hz0, hz1, hz2⟩ := info_parts infoB
  rcases Nat.eq_zero_or_pos n with h0 | h0
  · subst h0
    go_enter Tryd.func88, Tryd.ntmps88
    go_wp2
    go_ret
    exact ⟨_, rfl, rfl, World.ownsRow_nil _ _ _ _, Below.refl _ _⟩
  · obtain ⟨m, hm⟩ : ∃ m, m = grownCap w n 0 5 := ⟨_, rfl⟩
    have hle : n ≤ m := by rw [hm]; exact grownCap_ge _ _ _ _
    have hmx : m ≤ maxLen := by rw [hm]; exact grownCap_le_maxLen _ _ _ _ (by simp only [maxLen]; omega)
    have hown : Own1 w 0 [] (.slice (some ⟨w.heap.size, 0, none⟩) 0 m) (w.drew.alloc (.cells (Builtin.zeroCells (Value.int .u8 0).cells n ++ Builtin.zeroCells (Value.int .u8 0).cells (m - n)) 5)) :=
      ⟨rfl, by
        have := World.ownsRow_made (base := w.heap.size) (e := 5) (size := 1) w.drew (Builtin.zeroCells (Value.int .u8 0).cells n ++ Builtin.zeroCells (Value.int .u8 0).cells (m - n)) m (Nat.le_refl _) hmx (by rw [Array.size_append, size_zeroCells, size_zeroCells]; show n * 1 + (m - n) * 1 = _; omega)
        exact this, (below_drewN (Below.refl _ w) 1).alloc (Nat.le_refl _) _⟩
    have HO := hid hown
    have HM := hid hm
    unfold maxLen at hmx
    clear hown hm
    have hd : decide ((0 : Int) < (n : Int)) = true := by simp; omega
    go_enter Tryd.func88, Tryd.ntmps88
    go_wp2_with (refine wpList_append_made rfl (.tmp 20) (.tmp 21) _ _ rfl 5 i0 (.int .u8 0) Tryd.underlying55 Tryd.underlying3 hi hz0 hz1 hz2 n rfl rfl h0 (by omega) ?_; rw [← HM.out])
    go_ret
    exact ⟨_, rfl, HO.out⟩

/-- A part: an address, bytes, a capacity. -/
structure Part where
  A : Option Addr
  bs : List UInt8
  c : Nat
def Part.v (p : Part) : Value := .slice p.A p.bs.length p.c
def joined (ps : List Part) : List UInt8 := ps.flatMap (·.bs)
theorem joined_take (ps : List Part) (k : Nat) (h : k < ps.length) : joined (ps.take (k + 1)) = joined (ps.take k) ++ ps[k].bs := by
  unfold joined
  rw [List.take_succ_eq_append_getElem h, List.flatMap_append]
  congr 1
  exact List.flatMap_singleton _ _
theorem joined_le (ps : List Part) (k : Nat) : (joined (ps.take k)).length ≤ (joined ps).length := by
  conv => rhs; rw [← List.take_append_drop k ps]
  simp only [joined, List.flatMap_append, List.length_append]
  omega
attribute [irreducible] joined
set_option maxRecDepth 100000 in
set_option maxHeartbeats 4000000 in
theorem concat_any (ps : List Part) (S : Option Addr) (cap : Nat) (w : World) (hS : Rd w w.heap.size S (ps.map Part.v)) (hP : ∀ p ∈ ps, Rb w w.heap.size p.A p.bs) (hlen : (joined ps).length ≤ 1000000000) (hps : ps.length ≤ 1000000000) :
    Calls Tryd.prog 76 #[.slice S ps.length cap] w fun e w' => ∃ v n, e = .returned v ∧ Own1 w n (joined ps) v w' := by
  obtain ⟨i0, hi, hz0, hz1, hz2⟩ := info_parts infoB
  have HS := hid hS
  have HP := hid hP
  obtain ⟨L, hL⟩ : ∃ L, L = ps.length := ⟨_, rfl⟩
  obtain ⟨M, hM⟩ : ∃ M, M = (joined ps).length := ⟨_, rfl⟩
  have HL := hid hL
  have HM := hid hM
  rw [← hL] at hps ⊢
  rw [← hM] at hlen
  clear hS hP hL hM
  go_enter Tryd.func76, Tryd.ntmps76
  go_wp2
  go_loop [3, 11] (fun n i => ∃ k m : Nat, k ≤ L ∧ i = .int .i64 k ∧ n = .int .i64 m ∧ m ≤ 1000000000 ∧ Hid (m = (joined (ps.take k)).length)) (fun _ i => L - (intOf i).toNat)
  case atStart => exact ⟨0, 0, by omega, rfl, rfl, by omega, by show 0 = _; rw [List.take_zero]; unfold joined; rfl⟩
  case round =>
    obtain ⟨k, m, hk, rfl, rfl, hm, HMk⟩ := hrel
    by_cases hlt : k < L
    · have hkp : k < ps.length := by rw [← HL.out]; exact hlt
      obtain ⟨b, o, hSe, hb, hc⟩ := HS.out.at_ (k := k) (u := ps[k].v) (by rw [List.getElem?_map, List.getElem?_eq_getElem hkp]; rfl)
      subst hSe
      have HJ := hid (joined_take ps k hkp)
      have HLe := hid (joined_le ps (k + 1))
      obtain ⟨p, hp⟩ : ∃ p, p = ps[k] := ⟨_, rfl⟩
      rw [← hp] at hc HJ
      clear hp
      unfold Part.v at hc
      obtain ⟨A, l, c⟩ := p
      have hl2 : m + l.length ≤ 1000000000 := by have h1 := HLe.out; have h2 := HMk.out; rw [HJ.out, List.length_append, ← h2, ← HM.out] at h1; exact Nat.le_trans h1 hlen
      have HK2 := hid (show m + l.length = (joined (ps.take (k + 1))).length by rw [HJ.out, List.length_append, ← HMk.out])
      clear HJ HLe
      go_wp2
      go_round
      case rel => exact ⟨k + 1, m + l.length, by omega, by go_num, by go_num, hl2, HK2.out⟩
      case measure => simp [intOf]; omega
    · obtain rfl : k = L := by omega
      go_wp2_with (go_at_call 88; refine (grow_any m w hm).mono ?_; rintro e w1 ⟨v, rfl, hO⟩; obtain ⟨A1, c1, rfl, -⟩ := own_form hO.own; have HO := hid hO; clear hO)
      go_loopw [6, 27] (fun v i wr => ∃ (j n : Nat) (A2 : Option Addr) (c2 : Nat), j ≤ k ∧ i = .int .i64 j ∧ v = .slice A2 n c2 ∧ Own1 w n (joined (ps.take j)) v wr) (fun _ i _ => k - (intOf i).toNat)
      case atStart => exact ⟨0, 0, A1, c1, by omega, rfl, rfl, by rw [List.take_zero, show joined [] = [] by unfold joined; rfl]; exact HO.out⟩
      case round =>
        clear HO
        obtain ⟨j, n, A2, c2, hj, rfl, rfl, hO⟩ := hrel
        have HO := hid hO
        clear hO
        by_cases hlt2 : j < k
        · have hkp : j < ps.length := by rw [← HL.out]; exact hlt2
          have HS2 := hid (((HS.out.below HO.out.below).mono HO.out.below.size))
          obtain ⟨b, o, hSe, hb, hc⟩ := HS2.out.at_ (k := j) (u := ps[j].v) (by rw [List.getElem?_map, List.getElem?_eq_getElem hkp]; rfl)
          subst hSe
          have HJ := hid (joined_take ps j hkp)
          have HLe := hid (joined_le ps (j + 1))
          have HPj := hid ((HP.out ps[j] (List.getElem_mem hkp)).below HO.out.below)
          obtain ⟨p, hp⟩ : ∃ p, p = ps[j] := ⟨_, rfl⟩
          rw [← hp] at hc HJ HPj
          clear hp
          unfold Part.v at hc
          obtain ⟨A, l, c⟩ := p
          have hl2 : n + l.length ≤ 1000000000 := by have h1 := HLe.out; have h2 := HO.out.len; rw [HJ.out, List.length_append, ← h2, ← HM.out] at h1; exact Nat.le_trans h1 hlen
          clear HLe HS2
          have hrb : Rb wr wr.heap.size A l := HPj.out.mono HO.out.below.size
          have HRB := hid hrb
          clear hrb
          obtain ⟨q, hq⟩ : ∃ q, q = l.length := ⟨_, rfl⟩
          have HQ := hid hq
          simp only [← hq] at hc hl2
          clear hq
          go_wp2_with (at_builtin; refine wpList_append_rd rfl (.tmp 31) (.tmp 32) _ rfl w.heap.size 5 i0 (.int .u8 0) 1 Tryd.underlying55 hi hz0 hz1 hz2 rfl (.slice A2 n c2) n (ubs (joined (ps.take j))) rfl HO.out.own wr.heap.size A q c (ubs l) rfl (by rw [ubs_length, HQ.out]) HRB.out (ubs_one _) (by unfold maxLen; omega) (by omega) HO.out.below.size ?_; intro v4 w4 hown4 hgr4 _; replace hown4 := hid (HO.out.more hown4 HQ.out hgr4); clear hgr4; obtain ⟨A4, c4, rfl, -⟩ := own_form hown4.out.own)
          go_roundw
          case rel => exact ⟨j + 1, n + q, A4, c4, by omega, by go_num, rfl, by rw [HJ.out]; exact hown4.out⟩
          case measure => simp [intOf]; omega
        · obtain rfl : j = k := by omega
          go_wp2
          go_ret
          refine ⟨_, n, rfl, ?_⟩
          have := HO.out
          rw [List.take_of_length_le (by rw [HL.out]; exact Nat.le_refl _)] at this
          exact this
set_option maxRecDepth 100000 in
set_option maxHeartbeats 4000000 in
theorem of_any (ps : List Part) (S : Option Addr) (cap : Nat) (w : World) (hS : Rd w w.heap.size S (ps.map Part.v)) (hP : ∀ p ∈ ps, Rb w w.heap.size p.A p.bs) (hlen : (joined ps).length ≤ 1000000000) (hps : ps.length ≤ 1000000000) (hT : Tabs w) :
    Calls Tryd.prog 60 #[.slice S ps.length cap] w fun e w' => e = .returned (.agg (ubs (hashL (joined ps))).toArray) ∧ Below w.heap.size w w' := by
  obtain ⟨W0, hW0⟩ : ∃ W0, W0 = w.alloc (.cells (ubs n32).toArray 61) := ⟨_, rfl⟩
  have hb0 : Below w.heap.size w W0 := by rw [hW0]; exact (Below.refl _ _).alloc (Nat.le_refl _) _
  have h0 : At W0 w.heap.size (ubs n32).toArray 61 := by rw [hW0]; exact At.new _ _ _
  have H0 := hid h0
  have HS := hid ((hS.below hb0).mono hb0.size)
  have HP := hid (fun p hp => ((hP p hp).below hb0).mono hb0.size)
  have HB := hid hb0
  have HT := hid hT
  have HL := hid (show (Tryd.prog.info? 61).map (·.size) = some (ubs (hashL (joined ps))).toArray.size by rw [sizeH]; simp [ubs_length, hashL_length])
  have HN := hid (hashL_length (joined ps))
  clear hS hP hT hb0 h0
  have hz2 := noughts32
  subst hW0
  go_enter Tryd.func60, Tryd.ntmps60
  go_wp2_with (first
    | (go_at_call 76; refine (concat_any ps S cap _ HS.out HP.out hlen hps).mono ?_; rintro e w1 ⟨v, n, rfl, hO⟩; obtain rfl := hO.len; obtain ⟨A1, c1, rfl, -⟩ := own_form hO.own; have HO := hid hO; have HB1 := hid (HB.out.trans (hO.below.mono HB.out.size)); clear hO)
    | (go_at_call 75; refine (sum_any (joined ps) A1 c1 w1 (Rd.of_own HO.out.own) (by omega) (HT.out.below HB1.out)).mono ?_; rintro e w2 ⟨rfl, hb2⟩; have H2 := hid (((H0.out.below HO.out.below (by simp)).below hb2 (by have := HB1.out.size; have := HO.out.below.size; simp at this; omega))); have HB2 := hid (HB1.out.trans (hb2.mono HB1.out.size)); clear hb2)
    | (refine wpList_store_row rfl _ (.tmp 2) (.tmp 5) rfl w.heap.size (ubs (hashL (joined ps))).toArray rfl rfl 61 (ubs n32).toArray H2.out HL.out ?e5 (ubs_all _) ?e6; rotate_right))
  case e5 => simp [ubs_length, n32_length, HN.out]
  refine bodyPost_ret (results_cell_row rfl _ _ w.heap.size 61 (ubs (hashL (joined ps))).toArray (0, 0) _ rfl (setRow_heap _ _ _ _ _ _ H2.out) Tryd.underlying61 rfl HL.out) rfl ?_
  exact ⟨rfl, below_setRow HB2.out (Nat.le_refl _) _⟩
end Go.Proofs.YtnaihcoafgigcaaDoor
