/-
  Layer 10, the program's side: the numbers of a slice, one by one, collected and sorted.
  Layer 10, the program's side: the numbers of a slice collected, sorted.
  Layer 10, the program's side: numbers of which each that is as the one ahead of it goes away.
  Layer 10, the program's side: Sort.
-/
import Derived.Test.YtdegmcfcbndelaaDoorS4
import Derived.Test.YtdegmcfcbndelaaDoorY1
import Derived.Shelf.Abstract
import Derived.Test.YtdegmcfcbndelaaDoorS1
import Derived.Lib.SliceRun
import Derived.BigQuiet
import Derived.BigRegion
namespace Go.Proofs.YtdegmcfcbndelaaDoor
open Go.RowKit Go.Sort Go.Shelf

attribute [local go_sem] Oper.semAt_some

/-- Whatever lies below block B lies as it lay. -/
structure LowK (B : Nat) (X Y : World) : Prop where
  size : X.heap.size ≤ Y.heap.size
  same : ∀ k, k < B → Y.heap[k]? = X.heap[k]?
theorem LowK.trans {B : Nat} {X Y Z : World} (h : LowK B X Y) (k : LowK B Y Z) : LowK B X Z := ⟨Nat.le_trans h.size k.size, fun i hi => (k.same i hi).trans (h.same i hi)⟩
theorem LowK.putObj {B : Nat} (W : World) (l : Nat) (o : Obj) (hl : B ≤ l) : LowK B W (W.putObj l o) := ⟨(grownBy_putObj' W l o).size, fun k hk => World.putObj_heap_other (by omega)⟩
theorem LowK.rd {B : Nat} {X Y : World} {A : Option Addr} {xs : List Value} (h : Rd X B A xs) (k : LowK B X Y) : Rd Y B A xs := fun hx => by
  obtain ⟨b, o, e, hb, hc⟩ := h hx
  exact ⟨b, o, e, hb, fun j u hu => (World.cell?_of_block (w := X) (a := ⟨b, o + j, none⟩) (k.same b hb)).trans (hc j u hu)⟩
set_option maxRecDepth 100000 in
theorem values_any (A : Option Addr) (n c : Nat) (w : World) :
    Calls Tryd.prog 77 #[.slice A n c] w fun e w' => e = .returned (.func (.func 101) #[] #[.pointer (some ⟨w.heap.size, 0, none⟩)]) ∧ w.alloc (.cells #[.slice A n c] 58) = w' := by
  go_enter Tryd.func77, Tryd.ntmps77
  go_wp2
  go_ret
  exact ⟨rfl, rfl⟩
/-- A number as it is handed to the body. -/
def encN (L : List Nat) (x : Fin L.length) : Array Value := #[.int .u64 ((L[x.val] : Nat) : Int)]
set_option maxRecDepth 100000 in
set_option maxHeartbeats 2000000 in
theorem values1_in (n l Bn B : Nat) (L : List Nat) (A : Option Addr) (c : Nat) (hlen : L.length ≤ 1000000) (J Jx : List (Fin L.length) → World → Prop) (W : World)
    (hY : ∀ pre x W1, J pre W1 → pre.length < L.length → YieldAt Fence.wide (n - 1) Tryd.prog l (encN L x) W1 fun e W' =>
      (e = .returned (.bool true) ∧ J (pre ++ [x]) W' ∧ LowK B W1 W') ∨ (e = .returned (.bool false) ∧ Jx (pre ++ [x]) W'))
    (hBn : W.cell? ⟨Bn, 0, none⟩ = some (.slice A L.length c)) (hr : Nu W B A L) (h0 : J [] W) :
    CallsIn Fence.wide n Tryd.prog 101 #[.func (.yield l) #[] #[], .pointer (some ⟨Bn, 0, none⟩)] W fun e W' => (∃ v, e = .returned v) ∧
      ((∃ xs : List (Fin L.length), xs.map Fin.val = List.range L.length ∧ J xs W') ∨ (∃ pre : List (Fin L.length), True ∧ Jx pre W')) := by
  obtain ⟨m, hm⟩ : ∃ m, m = L.length := ⟨_, rfl⟩
  have HR := hid hr
  have HY := hid hY
  have H0 := hid h0
  have HM := hid hm
  have HLN := hid (show m ≤ 1000000 by omega)
  rw [← hm] at hBn
  clear hr hY h0 hm hlen
  refine callsIn_of_wp Tryd.func101 rfl trivial ?_ rfl
  simp only [Tryd.ntmps101, List.size_toArray, List.length_cons, List.length_nil, Nat.reduceAdd, Nat.reduceSub, Array.replicate_succ, Array.replicate_zero, List.push_toArray, List.append_toArray, List.nil_append, List.cons_append]
  gi_wp2
  gi_loopw [7] (fun v wr => ∃ (k : Nat) (pre : List (Fin L.length)), v = .int .i64 (k : Int) ∧ k ≤ m ∧ Hid (pre.map Fin.val = List.range k ∧ J pre wr ∧ Nu wr B A L)) (fun v _ => m - (intOf v).toNat)
  case atStart => exact ⟨0, [], rfl, by omega, hid ⟨rfl, H0.out, HR.out⟩⟩
  case round =>
    obtain ⟨k, pre, rfl, hk, HK⟩ := hrel
    by_cases hlt : k < m
    · have d1 : decide ((k : Int) < (m : Int)) = true := by simp; omega
      have ik : (k : Int) < (m : Int) := by omega
      have hkl : k < L.length := by rw [← HM.out]; exact hlt
      obtain ⟨g, o, rfl, -, c0⟩ := HK.out.2.2.at hkl
      have hlenp : pre.length = k := by have := congrArg List.length HK.out.1; simpa using this
      obtain ⟨fn, tmps, assign, body, hy, hR⟩ := HY.out pre ⟨k, hkl⟩ wr HK.out.2.1 (by omega)
      simp only [encN] at hy
      obtain ⟨x, hx⟩ : ∃ x, x = L[k] := ⟨_, rfl⟩
      rw [← hx] at c0 hy
      obtain ⟨q, hq⟩ : ∃ q, q = o + k := ⟨_, rfl⟩
      rw [← hq] at c0
      have eq := hq.symm
      obtain ⟨k1, hk1⟩ : ∃ x, x = k + 1 := ⟨_, rfl⟩
      have e2 : (k : Int) + 1 = (k1 : Int) := by omega
      have ew2 : IntKind.i64.wrap (k1 : Int) = (k1 : Int) := by rw [IntKind.wrap_i64] <;> have := HLN.out <;> omega
      have HP3 := hid (show (pre ++ [(⟨k, hkl⟩ : Fin L.length)]).map Fin.val = List.range k1 by rw [List.map_append, HK.out.1, hk1, List.range_succ]; rfl)
      have HMS := hid (show k1 ≤ m ∧ m - k1 < m - k by omega)
      have HN := hid HK.out.2.2
      clear hx hq hk1 hlenp hlt hk HK
      gi_wp2
      refine ⟨(fun h => by cases h), hR.mono ?_⟩
      clear hR hy
      rintro e W3 (⟨rfl, hJ3, hK3⟩ | ⟨rfl, hx3⟩)
      · have HJ3 := hid (show (pre ++ [(⟨k, hkl⟩ : Fin L.length)]).map Fin.val = List.range k1 ∧ J (pre ++ [(⟨k, hkl⟩ : Fin L.length)]) W3 ∧ Nu W3 B (some ⟨g, o, none⟩) L from ⟨HP3.out, hJ3, LowK.rd HN.out hK3⟩)
        clear hJ3 hK3 c0
        gi_wp2
        go_roundw
        case rel => exact ⟨k1, _, rfl, HMS.out.1, HJ3⟩
        case measure =>
          show m - ((k1 : Int)).toNat < m - ((k : Int)).toNat
          rw [Int.toNat_natCast, Int.toNat_natCast]
          exact HMS.out.2
      · gi_wp2
        refine bodyPost_ret (results_none rfl _ _ _) rfl ?_
        exact ⟨⟨_, rfl⟩, .inr ⟨_, trivial, hx3⟩⟩
    · obtain rfl : k = m := by omega
      have d1 : decide ((k : Int) < (k : Int)) = false := by simp
      have HE := hid (show pre.map Fin.val = List.range L.length ∧ J pre wr from ⟨by rw [HK.out.1, HM.out], HK.out.2.1⟩)
      clear HY hlt hk HK
      gi_wp2
      go_end0
      exact ⟨⟨_, rfl⟩, .inl ⟨pre, HE.out⟩⟩
theorem values_stops (n Bn B : Nat) (L : List Nat) (A : Option Addr) (c : Nat) (hlen : L.length ≤ 1000000) (w : World) (hB : B ≤ w.heap.size) (hBn : Bn < w.heap.size) (hc : w.cell? ⟨Bn, 0, none⟩ = some (.slice A L.length c)) (hr : Nu w B A L) :
    SeqStopsK Fence.wide n Tryd.prog 101 #[.pointer (some ⟨Bn, 0, none⟩)] (encN L) (LowK B) (fun xs => xs.map Fin.val = List.range L.length) (fun _ => True) L.length w := fun l J Jx W hW _ _ hY h0 =>
  values1_in n l Bn B L A c hlen J Jx W hY ((hW.cell (p := ⟨Bn, 0, none⟩) hBn).trans hc) (Rd.below hr (hW.mono hB)) h0
/-- The numbers that have come. -/
def valsN (L : List Nat) (xs : List (Fin L.length)) : List Nat := xs.map fun x => L[x.val]
theorem valsN_snoc (L : List Nat) (xs : List (Fin L.length)) (x : Fin L.length) : valsN L (xs ++ [x]) = valsN L xs ++ [L[x.val]] := by simp [valsN]
theorem valsN_length (L : List Nat) (xs : List (Fin L.length)) : (valsN L xs).length = xs.length := by simp [valsN]
theorem valsN_all (L : List Nat) (xs : List (Fin L.length)) (h : xs.map Fin.val = List.range L.length) : valsN L xs = L := by
  have hl : xs.length = L.length := by simpa using congrArg List.length h
  refine List.ext_getElem (by rw [valsN_length, hl]) fun i h1 h2 => ?_
  simp only [valsN, List.getElem_map]
  have h3 : i < xs.length := by rw [valsN_length] at h1; exact h1
  have h4 : (xs.map Fin.val)[i]'(by simpa using h3) = i := by simp [h]
  simp only [List.getElem_map] at h4
  simp only [h4]
/-- What holds between the rounds: the slice in its cell, whose row is the call's own. -/
def ApI (W0 : World) (L : List Nat) (pre : List (Fin L.length)) (V : World) : Prop := (∃ v, At V W0.heap.size #[v] 58 ∧ Aun V W0.heap.size v (valsN L pre)) ∧ Below W0.heap.size W0 V
theorem Aun.other {V V' : World} {base : Nat} {v : Value} {M : List Nat} {row : Option Nat} (h : Aun V base v M) (hg : V.grownBy V' row) (hr : ∀ r, row = some r → ∃ o : Obj, V.heap[r]? = some o ∧ o.isCells = false) : Aun V' base v M := by
  refine ⟨h.1, ?_⟩
  rcases h.2 with h | ⟨g, cap, cur, rfl, hb, hh, r⟩
  · exact .inl h
  · exact .inr ⟨g, cap, cur, rfl, hb, (at_own g _ (fun (_ : Unit) => cur)) () V V' row hh hg hr, r⟩
theorem ApI.own (W0 : World) (L : List Nat) (B : Nat) (hB : W0.heap.size ≤ B) : OwnFrom B (ApI W0 L) := fun pre V V' row hs hg hr => by
  obtain ⟨⟨v, h1, h2⟩, h3⟩ := hs
  refine ⟨⟨v, (at_own _ _ (fun (_ : Unit) => #[v])) () V V' row h1 hg (fun r e => (hr r e).2), ?_⟩, h3.trans ?_⟩
  · exact h2.other hg (fun r e => (hr r e).2)
  · exact (Below.refl _ V).grown hg h3.size (fun k hk => by have := (hr k hk).1; omega)
theorem ApI.more {W' : World} {base : Nat} {v : Value} {M : List Nat} {y : Nat} (h : W'.ownsRow base 23 1 v (M.length + 1) (nus M ++ [Value.int .u64 (y : Int)])) : Aun W' base v (M ++ [y]) := by
  unfold Aun
  rw [nus_append, List.length_append]
  exact h
theorem Aun.cells {W : World} {base : Nat} {v : Value} {M : List Nat} (h : Aun W base v M) (k : Nat) (e : v.ownBlock = some k) : ∃ cs t fr, W.heap[k]? = some (.cells cs t fr) := by
  rcases h.2 with ⟨rfl, -⟩ | ⟨g, cap, cur, rfl, -, hh, -⟩
  · cases e
  · cases e
    exact ⟨_, _, _, hh⟩
theorem keeps_row {W W' : World} {row : Option Nat} (hg : W.grownBy W' row) (hc : ∀ k, row = some k → ∃ cs t fr, W.heap[k]? = some (.cells cs t fr)) (B : Nat) : KeepsFrom B W W' :=
  ⟨hg.size, fun k o _ hk ho => (hg.block k (Array.getElem?_eq_some_iff.1 hk).1 (fun e => by
    obtain ⟨cs, t, fr, h⟩ := hc k e.symm
    rw [h] at hk
    cases hk
    cases ho)).trans hk⟩
set_option maxRecDepth 100000 in
set_option maxHeartbeats 2000000 in
theorem appendSeq_any (Bn B c : Nat) (L : List Nat) (A : Option Addr) (w : World) (hlen : L.length ≤ 1000000) (hB : B ≤ w.heap.size) (hBn : Bn < w.heap.size) (hc : w.cell? ⟨Bn, 0, none⟩ = some (.slice A L.length c)) (hr : Nu w B A L) :
    Calls Tryd.prog 116 #[.slice none 0 0, .func (.func 101) #[] #[.pointer (some ⟨Bn, 0, none⟩)]] w fun e w' => ∃ v, e = .returned v ∧ Aun w' w.heap.size v L ∧ Below w.heap.size w w' := by
  obtain ⟨W0, hW0⟩ : ∃ W0, W0 = w.alloc (.cells #[.slice none 0 0] 58) := ⟨_, rfl⟩
  have hb0 : Below w.heap.size w W0 := by rw [hW0]; exact (Below.refl _ _).alloc (Nat.le_refl _) _
  have hI0 : ApI w L [] W0 := ⟨⟨.slice none 0 0, by rw [hW0]; exact At.new _ _ _, Aun.nil _ _⟩, hb0⟩
  have hsz : W0.heap.size = w.heap.size + 1 := by rw [hW0]; simp
  have HSQ := hid (values_stops (6 - 1) Bn B L A c hlen W0 (by omega) (by omega) ((hb0.cell (p := ⟨Bn, 0, none⟩) hBn).trans hc) (Rd.below hr (hb0.mono hB)))
  have HI0 := hid hI0
  have HBW := hid (show B ≤ w.heap.size ∧ W0.heap.size = w.heap.size + 1 from ⟨hB, hsz⟩)
  have HLN := hid hlen
  clear hlen hB hBn hc hr hI0 hsz hb0
  refine (callsIn_wide (n := 6)).1 ?_
  refine callsIn_of_wp_marks Tryd.func116 rfl trivial ?_ rfl
  refine wpIn_wide.2 ?_
  simp only [Tryd.ntmps116, List.size_toArray, List.length_cons, List.length_nil, Nat.reduceAdd, Nat.reduceSub, Array.replicate_succ, Array.replicate_zero, List.push_toArray, List.append_toArray, List.nil_append, List.cons_append]
  go_wp2
  rw [← hW0]
  clear hW0
  refine (wpIn_wide (n := 6)).1 ?_
  refine wpIn_rangeFunc_ownH (F := Fence.wide) (n := 6) rfl (by omega) (gf := 101) (lb := #[.pointer (some ⟨Bn, 0, none⟩)]) rfl trivial (enters_of Tryd.func101 (by kernel_rfl) rfl)
    HSQ.out (fun h k => h.trans k) (fun W l o o' hl _ _ _ => LowK.putObj W l o' (by have := HBW.out; omega)) (Below.refl _ _) (fun _ => rfl)
    (ApI w L) (fun _ _ _ => False) (ApI.own w L _ (by have := HBW.out; omega)) (fun _ _ _ _ _ hs _ _ => hs) HI0.out
    (fun x a' _ => a' = { tmps := #[.slice none 0 0, .func (.func 101) #[] #[.pointer (some ⟨Bn, 0, none⟩)], .pointer (some ⟨w.heap.size, 0, none⟩), undef, .slice none 0 0, .int .u64 ((L[x.val] : Nat) : Int), .func (.func 101) #[] #[.pointer (some ⟨Bn, 0, none⟩)], .int .u64 ((L[x.val] : Nat) : Int), undef, undef, undef, undef, undef], defers := [] })
    (fun x a' _ X Y row hs _ _ => hs) ?assign ?body ?done ?stop
  case assign =>
    rintro l pre x W K hI hK
    have HK := hid (hK _ W (KeepsFrom.refl _ _) ⟨Nat.le_refl _, fun _ _ => rfl⟩ hI rfl)
    clear hK
    simp only [encN]
    gi_wp2
    exact HK.out
  case body =>
    rintro l pre x a' W hl ⟨r, hr⟩ ⟨⟨v, h1, h2⟩, h3⟩ rfl hlt
    obtain ⟨ii, hi, hz, hsz, hby⟩ := infoU_parts
    obtain ⟨A0, c0, rfl⟩ := h2.form
    have cc := h1.cell 0
    have H1 := hid h1
    have H2 := hid h2
    have H3 := hid h3
    have HPL := hid (show (valsN L pre).length < L.length by rw [valsN_length]; exact hlt)
    have HPN := hid (valsN_snoc L pre x)
    obtain ⟨y, hy⟩ : ∃ y, y = L[x.val] := ⟨_, rfl⟩
    rw [← hy] at HPN
    rw [← hy]
    obtain ⟨M, hM⟩ : ∃ M, M = valsN L pre := ⟨_, rfl⟩
    rw [← hM] at HPL HPN H2 cc H1
    obtain ⟨N1, hN1⟩ : ∃ k, k = (M ++ [y]).length := ⟨_, rfl⟩
    have HN1 := hid hN1.symm
    clear hN1
    clear h1 h2 h3 hr hlt hy hM hi hz hsz hby hl
    gi_wp2_with (first
      | (refine wpListIn_append_own (W.alloc (.cells #[.int .u64 (y : Int)] 23)) rfl (.tmp 8) (.tmp 10) 58 rfl w.heap.size 23 _ (.int .u64 0) 1 8 Tryd.underlying58 infoU_parts.choose_spec.1 infoU_parts.choose_spec.2.1 infoU_parts.choose_spec.2.2.1 infoU_parts.choose_spec.2.2.2 rfl (by omega) (.slice A0 M.length c0) M.length (nus M) rfl (H2.out.kept ((Below.refl _ _).alloc (Nat.le_refl _) _)) ⟨W.heap.size, 0, none⟩ 1 1 [.int .u64 (y : Int)] rfl rfl (fun j u hu => by rw [add_plain]; exact (At.new W #[.int .u64 (y : Int)] 23).cell (0 + j) |>.trans (by rw [Nat.zero_add]; simpa using hu)) (by simp [Value.oneCell']) (by have := HPL.out; have := HLN.out; unfold maxLen; omega) (by have := HPL.out; have := HLN.out; omega) (by have := H3.out.size; simp; omega) ?_; intro v1 w1 hown hgr _; have ha1 := hid (ApI.more hown); obtain ⟨A1, c1, e1⟩ := ha1.out.form; rw [HN1.out] at e1; subst e1; have H4 := hid (at_grown (H1.out.alloc (.cells #[.int .u64 (y : Int)] 23)) (H2.out.kept ((Below.refl _ _).alloc (Nat.le_refl _) _)) (by decide) hgr); have cc1 := H4.out.cell 0; have ff1 := H4.out.frozen 0; have HGR := hid hgr; clear hgr hown cc))
    have hb1 : Below w.heap.size W w1 := (((Below.refl w.heap.size W).alloc H3.out.size _).grown HGR.out (by have := H3.out.size; simp; omega) (fun k hk => (H2.out.lt k hk).1))
    have HZ := hid (hb1.setCell (p := ⟨w.heap.size, 0, none⟩) (Nat.le_refl _) (.slice A1 N1 c1))
    have hne := own_ne_at (t := 58) ha1.out H4.out (by decide)
    refine ⟨?_, ⟨HZ.out.size, fun k hk => HZ.out.block k (by have := HBW.out; omega)⟩, ⟨⟨_, H4.out.put 0 _, ?_⟩, H3.out.trans HZ.out⟩⟩
    · exact ((keeps_row (World.grownBy_alloc W _ none) (fun k e => nomatch e) _).trans (keeps_row HGR.out (fun k e => (H2.out.kept ((Below.refl _ _).alloc (Nat.le_refl _) _)).cells k e) _)).trans (keeps_row (grownBy_setCell' w1 w.heap.size _) (fun k e => by cases e; exact ⟨_, _, _, H4.out⟩) _)
    · rw [HPN.out]
      exact own_far ha1.out hne _
  case done =>
    rintro D xs W hD hxs ⟨⟨v, h1, h2⟩, h3⟩ hK
    rw [valsN_all L xs hxs] at h2
    have cc := h1.cell 0
    have H2 := hid h2
    have H3 := hid h3
    have HKD := hid hK
    clear hxs h1 h2 h3 hK
    go_wp2
    refine ⟨by simp, .inl ⟨_, _, rfl, run_takeDeferred HKD.out, ?_⟩⟩
    have hgr := grownBy_putObj' W D (.deferred none)
    refine ⟨_, results_tmp rfl _ _ _, ⟨v, rfl, ?_, ?_⟩⟩
    · exact H2.out.other hgr (fun k e => by cases e; exact ⟨_, HKD.out, rfl⟩)
    · exact H3.out.grown hgr H3.out.size (fun k e => by cases e; have := HBW.out; omega)
  case stop =>
    rintro D c0 pre W hD _ hF _
    exact hF.elim
end Go.Proofs.YtdegmcfcbndelaaDoor

namespace Go.Proofs.YtdegmcfcbndelaaDoor
open Go.RowKit Go.Sort

set_option maxRecDepth 100000 in
theorem collect_any (Bn B c : Nat) (L : List Nat) (A : Option Addr) (w : World) (hlen : L.length ≤ 1000000) (hB : B ≤ w.heap.size) (hBn : Bn < w.heap.size) (hc : w.cell? ⟨Bn, 0, none⟩ = some (.slice A L.length c)) (hr : Nu w B A L) :
    Calls Tryd.prog 99 #[.func (.func 101) #[] #[.pointer (some ⟨Bn, 0, none⟩)]] w fun e w' => ∃ v, e = .returned v ∧ Aun w' w.heap.size v L ∧ Below w.heap.size w w' := by
  have HC := hid (appendSeq_any Bn B c L A w hlen hB hBn hc hr)
  clear hlen hB hBn hc hr
  go_enter Tryd.func99, Tryd.ntmps99
  go_wp2_with (first
    | (go_at_call 116; refine HC.out.mono ?_; rintro r1 w1 ⟨v, rfl, h1, h2⟩))
  go_ret
  exact ⟨v, rfl, h1, h2⟩
theorem enU_list (L : List Nat) : (L.toArray.map enU).toList = nus L := by simp [nus, enU]
/-- A row of the call's own, as the sort wants it. -/
theorem Aun.asCel {W : World} {base : Nat} {v : Value} {L : List Nat} (h : Aun W base v L) : (v = .slice none 0 0 ∧ L = []) ∨ ∃ g cap sp, v = .slice (some ⟨g, 0, none⟩) L.length cap ∧ base ≤ g ∧ At W g (cel L.toArray sp) 23 ∧ L.length ≤ cap ∧ L.length + sp.size = cap := by
  rcases h.2 with ⟨h1, h2⟩ | ⟨g, cap, cur, rfl, hb, hh, hc, -, hs, ht⟩
  · exact .inl ⟨h1, List.eq_nil_of_length_eq_zero h2⟩
  · refine .inr ⟨g, cap, cur.extract L.length cur.size, rfl, hb, ?_, hc, by simp; omega⟩
    have e : cel L.toArray (cur.extract L.length cur.size) = cur := by
      apply Array.ext'
      unfold cel
      rw [Array.toList_append, enU_list, ← ht, Array.toList_extract]
      simp only [Nat.mul_one, List.extract_eq_take_drop]
      rw [List.take_of_length_le (i := cur.size - L.length) (by simp), List.take_append_drop]
    rw [e]
    exact hh
set_option maxRecDepth 100000 in
theorem psorted_any (Bn B c : Nat) (L : List Nat) (A : Option Addr) (w : World) (hlen : L.length ≤ 40) (hB : B ≤ w.heap.size) (hBn : Bn < w.heap.size) (hc : w.cell? ⟨Bn, 0, none⟩ = some (.slice A L.length c)) (hr : Nu w B A L) :
    Calls Tryd.prog 76 #[.func (.func 101) #[] #[.pointer (some ⟨Bn, 0, none⟩)]] w fun e w' => ((e = .returned (.slice none 0 0) ∧ L = []) ∨ ∃ g cap sp d', e = .returned (.slice (some ⟨g, 0, none⟩) L.length cap) ∧ w.heap.size ≤ g ∧ At w' g (cel d' sp) 23 ∧ L.length ≤ cap ∧ L.length + sp.size = cap ∧ Hid (d'.toList = L.mergeSort (fun x y => decide (x ≤ y)))) ∧ Below w.heap.size w w' := by
  have HC := hid (collect_any Bn B c L A w (by omega) hB hBn hc hr)
  have HLN := hid hlen
  have HSN := hid (fun V => psort_nil V)
  clear hlen hB hBn hc hr
  go_enter Tryd.func76, Tryd.ntmps76
  go_upto_region 2 with (first
    | (go_at_call 99; refine HC.out.mono ?_; rintro r1 w1 ⟨v, rfl, h1, h2⟩))
  rcases h1.asCel with ⟨rfl, hL⟩ | ⟨g, cap, sp, rfl, hg, ha, hcap, hsp⟩
  · have HL := hid hL
    clear h1 hL
    go_wp2_with (first
      | (go_at_call 100; refine (HSN.out w1).mono ?_; rintro r2 w2 ⟨rfl, hw⟩; rw [hw]; clear hw))
    go_ret
    exact ⟨.inl ⟨rfl, HL.out⟩, h2⟩
  · have HS := hid (psort_any g cap L.length L.toArray sp w1 ha (by simp) HLN.out)
    have HX := hid (show w.heap.size ≤ g ∧ L.length ≤ cap ∧ L.length + sp.size = cap from ⟨hg, hcap, hsp⟩)
    have HB := hid h2
    clear h1 h2 hg ha hcap hsp
    go_wp2_with (first
      | (go_at_call 100; refine HS.out.mono ?_; rintro r2 w2 ⟨rfl, d', hw, hd⟩))
    go_ret
    exact ⟨.inr ⟨g, cap, sp, d', rfl, HX.out.1, hw.at_, HX.out.2.1, HX.out.2.2, hid (by simpa using hd)⟩, HB.out.trans (hw.fr.below (fun k e => by rw [e]; exact HX.out.1) HB.out.size)⟩
end Go.Proofs.YtdegmcfcbndelaaDoor

namespace Go.Proofs.YtdegmcfcbndelaaDoor
open Go.RowKit Go.Sort

/-- The row, and all else as it was. -/
structure Crw (W : World) (B g : Nat) (sp : Array Value) (d : Array Nat) (V : World) : Prop where
  row : At V g (cel d sp) 23
  below : Below B W V
section
variable {W V : World} {B g : Nat} {sp : Array Value} {d : Array Nat}
theorem Crw.drewN (h : Crw W B g sp d V) (q : Nat) : Crw W B g sp d (V.drewN q) := ⟨h.row, below_drewN h.below q⟩
theorem Crw.cell (h : Crw W B g sp d V) {o : Nat} (ho : o = 0) {i : Nat} (hi : i < d.size) : V.cell? ⟨g, o + i, none⟩ = some (.int .u64 ((d[i]! : Nat) : Int)) := by
  rw [ho, Nat.zero_add, h.row.cell, cel_get d sp hi]
theorem Crw.put (h : Crw W B g sp d V) (hg : B ≤ g) {o : Nat} (ho : o = 0) {i : Nat} (x : Nat) (hi : i < d.size) : Crw W B g sp (d.setIfInBounds i x) (V.setCell ⟨g, o + i, none⟩ (.int .u64 (x : Int))) := by
  subst ho
  rw [Nat.zero_add]
  refine ⟨?_, h.below.setCell hg _⟩
  have h1 := h.row.put i (.int .u64 (x : Int))
  rwa [cel_set d sp _ hi] at h1
theorem Crw.nu (h : Crw W B g sp d V) {o : Nat} (ho : o = 0) {m : Nat} {l : List Nat} (hm : m ≤ d.size) (hl : d.toList.take m = l) : Nu V V.heap.size (some ⟨g, o, none⟩) l := fun _ => by
  refine ⟨g, o, rfl, h.row.lt, fun j u hu => ?_⟩
  have hj : j < l.length := by
    rcases Nat.lt_or_ge j l.length with q | q
    · exact q
    · rw [List.getElem?_eq_none (by rw [nus_length]; exact q)] at hu
      cases hu
  have hjd : j < d.size := by
    rw [← hl, List.length_take] at hj
    simp at hj
    omega
  rw [h.cell ho hjd, ← hu]
  unfold nus
  rw [List.getElem?_map, ← hl, List.getElem?_take]
  have hjm : j < m := by
    rw [← hl, List.length_take] at hj
    omega
  rw [if_pos hjm, List.getElem?_eq_getElem (by simpa using hjd), arr_get d hjd]
  rfl
theorem Crw.clear (h : Crw W B g sp d V) (hg : B ≤ g) {o q m : Nat} (ho : o = 0) (hq : m ≤ q) {l : List Nat} (hm : m ≤ d.size) (hl : d.toList.take m = l) (vs : List Value) : Nu (V.setCells g (o + q) vs) (V.setCells g (o + q) vs).heap.size (some ⟨g, o, none⟩) l ∧ Below B W (V.setCells g (o + q) vs) := by
  refine ⟨fun hne => ?_, below_setVals h.below hg _ _⟩
  obtain ⟨g', o', e, hlt, hc⟩ := h.nu ho hm hl hne
  cases e
  refine ⟨g, o, rfl, Nat.lt_of_lt_of_le hlt (below_setVals (Below.refl B V) hg _ _).size, fun j u hu => ?_⟩
  rw [World.cell?_setCells_out]
  · exact hc j u hu
  · intro _ _
    left
    show o + j < o + q
    have hj : j < l.length := by
      rcases Nat.lt_or_ge j l.length with p | p
      · exact p
      · rw [List.getElem?_eq_none (by rw [nus_length]; exact p)] at hu
        cases hu
    rw [← hl, List.length_take] at hj
    omega
end
theorem run_from {g o n c k : Nat} (hk : k ≤ n) (hc : k < c) : ∀ V, (Instr.slice 58 (.slice (some ⟨g, o, none⟩) n c) (some (.int .i64 (k : Int))) none none).run Tryd.prog V = .ok (.slice (some ⟨g, o + k, none⟩) (n - k) (c - k)) V := fun V => by
  obtain ⟨i, hi, hz, hsz, hby⟩ := infoU_parts
  have h1 : ((k : Nat) : Int) ≤ (n : Int) := by omega
  have h2 : (Addr.mk g o none).add (k * i.size) = ⟨g, o + k, none⟩ := by rw [add_plain, hsz]; simp
  have e : ¬ c = k := by omega
  simp [Instr.slice, Instr.sliceBounds, run_underlying Tryd.underlying58, run_sliceBound, sizeOf, typeInfo, hi, h1, h2, e]
theorem run_to {g o n c k : Nat} (hc : k ≤ c) : ∀ V, (Instr.slice 58 (.slice (some ⟨g, o, none⟩) n c) none (some (.int .i64 (k : Int))) none).run Tryd.prog V = .ok (.slice (some ⟨g, o, none⟩) k c) V := fun V => by
  obtain ⟨i, hi, hz, hsz, hby⟩ := infoU_parts
  have h1 : ((k : Nat) : Int) ≤ (c : Int) := by omega
  have h2 : (Addr.mk g o none).add 0 = ⟨g, o, none⟩ := by rw [add_plain]; rfl
  simp [Instr.slice, Instr.sliceBounds, run_underlying Tryd.underlying58, run_sliceBound, sizeOf, typeInfo, hi, h1, h2]
theorem zeroU : ∀ W, (zeroValue 23).run Tryd.prog W = .ok (.int .u64 0) W := fun W => by
  obtain ⟨i, hi, hz, -, -⟩ := infoU_parts
  simp [zeroValue, typeInfo, hi, hz]
end Go.Proofs.YtdegmcfcbndelaaDoor

namespace Go.Proofs.YtdegmcfcbndelaaDoor
open Go.RowKit Go.Sort

set_option maxRecDepth 100000 in
theorem pcompact_nil (W : World) : Calls Tryd.prog 75 #[.slice none 0 0] W fun e w' => e = .returned (.slice none 0 0) ∧ w' = W := by
  go_enter Tryd.func75, Tryd.ntmps75
  go_wp2
  go_ret
  exact ⟨rfl, rfl⟩
theorem merge_sorted (L : List Nat) : (L.mergeSort fun x y => decide (x ≤ y)).Pairwise (· ≤ ·) := by
  have := List.pairwise_mergeSort (le := fun (x y : Nat) => decide (x ≤ y)) (fun a b c h k => by simp at *; omega) (fun a b => by simp; omega) L
  exact this.imp fun h => by simpa using h
end Go.Proofs.YtdegmcfcbndelaaDoor
