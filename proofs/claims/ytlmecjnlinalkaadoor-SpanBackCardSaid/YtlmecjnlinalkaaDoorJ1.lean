/-
  Layer 10, the program's side: Leaves, of trees of whatever memory.
  Layer 10: a tree's leaves and its proof come to its nodes; how many spots there are. Nothing here walks.
-/
import Derived.Test.YtlmecjnlinalkaaDoorK8
import Derived.Test.YtlmecjnlinalkaaDoorZ2
import Derived.Test.YtlmecjnlinalkaaDoorK9
namespace Go.Proofs.YtlmecjnlinalkaaDoor
open Go.RowKit

theorem leavesS_length {L : List (Nat × List UInt8)} (ho : okL L) (l : List Nat) : (leavesS L l).length = 32 * l.length := by
  have key : ∀ j, j ≤ l.length → (leavesS L (l.take j)).length = 32 * j := by
    intro j
    induction j with
    | zero => intro _; rw [leavesS_zero]; rfl
    | succ j ih =>
      intro hj
      rw [leavesS_next L l j (by omega), List.length_append, ih (by omega), nodeS_length _ _ _ ho]
      omega
  have := key l.length (Nat.le_refl _)
  rwa [List.take_length] at this
/-- The first m leaves, and noughts behind them. -/
def lvTo (L : List (Nat × List UInt8)) (l : List Nat) (m : Nat) : List UInt8 := leavesS L (l.take m) ++ List.replicate (32 * (l.length - m)) 0
theorem lvTo_zero (L : List (Nat × List UInt8)) (l : List Nat) : lvTo L l 0 = List.replicate (32 * l.length) 0 := by
  unfold lvTo
  rw [leavesS_zero, List.nil_append, Nat.sub_zero]
theorem lvTo_all (L : List (Nat × List UInt8)) (l : List Nat) : lvTo L l l.length = leavesS L l := by
  unfold lvTo
  rw [List.take_length, Nat.sub_self, Nat.mul_zero, List.replicate_zero, List.append_nil]
theorem lvTo_length {L : List (Nat × List UInt8)} (ho : okL L) (l : List Nat) (m : Nat) (hm : m ≤ l.length) : (lvTo L l m).length = 32 * l.length := by
  rw [lvTo, List.length_append, leavesS_length ho, List.length_replicate, List.length_take]
  omega
theorem lvTo_next {L : List (Nat × List UInt8)} (ho : okL L) (l : List Nat) (m : Nat) (hm : m < l.length) : spl (lvTo L l m) (32 * m) (nodeS 0 l[m] L) = lvTo L l (m + 1) := by
  have h1 : List.replicate (32 * (l.length - m)) (0 : UInt8) = List.replicate 32 0 ++ List.replicate (32 * (l.length - (m + 1))) 0 := by
    rw [List.replicate_append_replicate]
    congr 1
    omega
  have := spl_at (leavesS L (l.take m)) (List.replicate 32 0) (List.replicate (32 * (l.length - (m + 1))) 0) (nodeS 0 l[m] L) (by rw [nodeS_length _ _ _ ho, List.length_replicate])
  rw [leavesS_length ho, List.length_take, Nat.min_eq_left (by omega)] at this
  rw [lvTo, h1, this, lvTo, leavesS_next L l m hm, List.append_assoc]
/-- What holds while leaves are written. -/
structure LqW (Pt : PtT) (S : Nat → Prop) (w : World) (b h : Nat) (L : List (Nat × List UInt8)) (l : List Nat) (D m : Nat) (V : World) : Prop where
  t : Pt S V b h L
  r : At V D (ubs (lvTo L l m)).toArray 25
  lo : w.heap.size ≤ D
  below : Below w.heap.size w V
section
variable {Pt : PtT} {w0 : World}
theorem LqW.new (t : T9c Pt w0) {S : Nat → Prop} {w V V' : World} {b h D m : Nat} {L : List (Nat × List UInt8)} {l : List Nat} (x : LqW Pt S w b h L l D m V) (hb : Below V.heap.size V V') : LqW Pt S w b h L l D m V' :=
  ⟨t.new x.t hb, x.r.new_ hb, x.lo, x.below.trans (hb.mono x.below.size)⟩
theorem LqW.store (t : T9c Pt w0) {S : Nat → Prop} {w V : World} {b h D m : Nat} {L : List (Nat × List UInt8)} {l : List Nat} (x : LqW Pt S w b h L l D m V) (ho : okL L) (hm : m < l.length) (hS : ∀ j, S j → j < w.heap.size) : LqW Pt S w b h L l D (m + 1) (V.setCells D (32 * m) (ubs (nodeS 0 l[m] L))) := by
  have hb : Below D V (V.setCells D (32 * m) (ubs (nodeS 0 l[m] L))) := below_setCells (Below.refl _ _) (Nat.le_refl _) _ _
  refine ⟨t.keep x.t hb.size (KeepsS.of_below hb fun j hj => Nat.lt_of_lt_of_le (hS j hj) x.lo), ?_, x.lo, x.below.trans (hb.mono x.lo)⟩
  have := at_setCells x.r (32 * m) (nodeS 0 l[m] L)
  rwa [lvTo_next ho l m hm] at this
theorem LqW.there {S : Nat → Prop} {w V : World} {b h D m : Nat} {L : List (Nat × List UInt8)} {l : List Nat} (x : LqW Pt S w b h L l D m V) (ho : okL L) (hm : m < l.length) : V.there D (32 * m) 32 := there_at x.r _ _ (by rw [lvTo_length ho l m (by omega)]; omega)
set_option maxRecDepth 100000 in
set_option maxHeartbeats 2000000 in
theorem pleaves_ok (t : T9c Pt w0) {S : Nat → Prop} {W : World} {b h : Nat} {L : List (Nat × List UInt8)} (hw0 : Below w0.heap.size w0 W) (hp : Pt S W b h L) (hL : L.length ≤ 1000) (l : List Nat) (A : Option Addr) (c : Nat) (hr : Nu W W.heap.size A l) (hg : rgtB (h : Int) l = true) :
    Calls Tryd.prog 28 #[.pointer (some ⟨b, 0, none⟩), .slice A l.length c] W fun r W' => ∃ A1 c1, r = .returned (.tuple #[.slice A1 l.length c1, .nilIface]) ∧ Rd W' W'.heap.size A1 (ubs (leavesS L l)) ∧ Below W.heap.size W W' ∧ l.length ≤ c1 := by
  obtain ⟨hh, hne, hlen, hs, hfit⟩ := rgtB_parts hg
  have hS : ∀ j, S j → j < W.heap.size := fun j hj => (t.inn hp j hj).2
  have ho := (t.good hp).ok
  obtain ⟨n, hn⟩ : ∃ n, n = l.length := ⟨_, rfl⟩
  have HCT := hid (pchecktree_any t hw0 hp l A c hr)
  rw [hg, show eB true = .nilIface from rfl, ← hn] at HCT
  have hmk : ∀ V : World, (Instr.makeSlice 31 (.int .i64 (n : Int)) (.int .i64 (n : Int))).run Tryd.prog V = .ok (.slice (some ⟨V.heap.size, 0, none⟩) n n) (V.alloc (.cells (ubs (lvTo L l 0)).toArray 25)) := fun V => by
    obtain ⟨i0, hi0, hz0, hz1, hz2⟩ := info_parts infoH
    have := run_make (P := Tryd.prog) V 31 25 i0 _ Tryd.underlying31 hi0 hz0 .i64 .i64 n n (by omega) (by omega) (by rw [hz2]; omega) (by omega)
    rw [hz1, Int.toNat_natCast, madeH, hn, ← lvTo_zero L l, ← hn] at this
    exact this
  have HTT := hid t
  have HPT := hid hp
  have HHL := hid hh
  have HN := hid hn
  have HNL := hid hlen
  have HR := hid (fun (V : World) (q : Below W.heap.size W V) => (hr.later q : Nu V V.heap.size A l))
  have HLF := hid (fun (j : Nat) (hj : j < l.length) (V : World) (q : LqW Pt S W b h L l W.heap.size 0 V ∨ True) => hj)
  have HLE := hid (fun (x : Nat) (hx : x ∈ l) (V : World) (hb : Below W.heap.size W V) (hv : Pt S V b h L) => show Calls Tryd.prog 18 #[.pointer (some ⟨b, 0, none⟩), .int .u64 (x : Int)] V (fun r W' => r = .returned (.tuple #[.agg (ubs (nodeS 0 x L)).toArray, .nilIface]) ∧ Below V.heap.size V W') from by
    have h1 : (2 : Nat) ^ h ≤ 4294967296 := pow_le32 hh
    have h2 := hfit x hx
    have := t.leafOk x (hw0.trans (hb.mono hw0.size)) hv hL (by omega)
    rw [show hasB h 0 x = true by unfold hasB; simp; exact h2, if_pos rfl] at this
    exact this)
  have HOK := hid ho
  have HSS := hid hS
  rw [← hn]
  clear hr hg hh hne hlen hs hfit hS hw0 hp hL t hn ho HLF
  go_enter Tryd.func28, Tryd.ntmps28
  go_wp2_with (first
    | (go_at_call 64; refine HCT.out.mono ?_; rintro r1 w1 ⟨rfl, hb1⟩; have HB1 := hid hb1; clear hb1))
  obtain ⟨D, hD⟩ : ∃ D, D = w1.heap.size := ⟨_, rfl⟩
  have H0 := hid (show LqW Pt S W b h L l D 0 (w1.alloc (.cells (ubs (lvTo L l 0)).toArray 25)) from
    ⟨HTT.out.new HPT.out (HB1.out.alloc HB1.out.size _), by rw [hD]; exact At.new _ _ _, by rw [hD]; exact HB1.out.size, HB1.out.alloc HB1.out.size _⟩)
  rw [← hD]
  generalize (w1.alloc (.cells (ubs (lvTo L l 0)).toArray 25)) = w2 at H0 ⊢
  clear hmk hD HB1
  go_loopw [21] (fun v wr => ∃ j : Nat, j ≤ n ∧ v = .int .i64 (j : Int) ∧ LqW Pt S W b h L l D j wr) (fun v _ => n - (intOf v).toNat)
  case atStart => exact ⟨0, by omega, rfl, H0.out⟩
  case round =>
    clear H0
    obtain ⟨j, hj, rfl, hX⟩ := hrel
    have HX := hid hX
    clear hX
    by_cases hlt : j < n
    · have hd : decide ((j : Int) < (n : Int)) = true := by simp; omega
      have ik : (j : Int) < (n : Int) := by omega
      have hjl : j < l.length := by rw [← HN.out]; exact hlt
      obtain ⟨g, o, rfl, -, c0⟩ := (HR.out wr HX.out.below).at hjl
      obtain ⟨x, hx⟩ : ∃ x, x = l[j] := ⟨_, rfl⟩
      rw [← hx] at c0
      obtain ⟨q, hq⟩ : ∃ q, q = o + j := ⟨_, rfl⟩
      rw [← hq] at c0
      have eq := hq.symm
      obtain ⟨j1, hj1⟩ : ∃ m, m = j + 1 := ⟨_, rfl⟩
      have e2 : (j : Int) + 1 = (j1 : Int) := by omega
      have ew2 : IntKind.i64.wrap (j1 : Int) = (j1 : Int) := by rw [IntKind.wrap_i64] <;> have := HNL.out <;> omega
      have HST := hid (fun (V : World) (q : LqW Pt S W b h L l D j V) => q.store HTT.out HOK.out hjl HSS.out)
      have HTH := hid (fun (V : World) (q : LqW Pt S W b h L l D j V) => q.there HOK.out hjl)
      have HLE2 := hid (HLE.out x (by rw [hx]; exact List.getElem_mem _) wr HX.out.below HX.out.t)
      obtain ⟨nv, hnv⟩ : ∃ v, v = nodeS 0 x L := ⟨_, rfl⟩
      have HNV := hid (show nv.length = 32 by rw [hnv]; exact nodeS_length _ _ _ HOK.out)
      rw [← hx, ← hnv] at HST
      rw [← hnv] at HLE2
      obtain ⟨oo, hoo⟩ : ∃ o, o = 32 * j := ⟨_, rfl⟩
      have eo : j * 32 = oo := by omega
      rw [← hoo] at HST HTH
      rw [← hj1] at HST
      have HJL := hid (show j1 ≤ n by omega)
      have HMS := hid (show n - j1 < n - j by omega)
      clear hlt hj hjl hx hq hj1 hnv hoo
      go_wp2_with (first
        | (go_at_call 18; refine HLE2.out.mono ?_; rintro r4 w4 ⟨rfl, hb4⟩; have X4 := hid (HX.out.new HTT.out hb4); clear hb4)
        | (refine wpList_store_mid rfl 25 (.tmp 34) (.tmp 32) rfl D oo (ubs nv).toArray rfl rfl ?t1 (sizeH_of HNV.out) (ubs_all _) ?_; rotate_right; have X5 := hid (HST.out w4 X4.out); rw [List.toList_toArray]; generalize (w4.setCells D oo (ubs nv)) = w5 at X5 ⊢))
      case t1 => have := HTH.out w4 X4.out; simpa [ubs_length, HNV.out] using this
      exact ⟨⟨j1, HJL.out, rfl, X5.out⟩, by
        show n - ((j1 : Int)).toNat < n - ((j : Int)).toNat
        rw [Int.toNat_natCast, Int.toNat_natCast]
        exact HMS.out⟩
    · obtain rfl : j = n := by omega
      have hd : decide ((j : Int) < (j : Int)) = false := by simp
      clear hlt hj
      go_wp2
      go_ret2
      refine ⟨some ⟨D, 0, none⟩, j, rfl, ?_, HX.out.below, Nat.le_refl _⟩
      have := HX.out.r
      rw [HN.out, lvTo_all] at this
      exact Rd.of_at this 0 (fun q u hu => by rw [List.getElem?_toArray, Nat.zero_add]; exact hu) this.lt
end
end Go.Proofs.YtlmecjnlinalkaaDoor

namespace Go.Proofs.YtlmecjnlinalkaaDoor

theorem besideS_length {L : List (Nat × List UInt8)} (ho : okL L) (s : List (Nat × Nat)) : (besideS L s).length = 32 * s.length := by
  have key : ∀ j, j ≤ s.length → (besideS L (s.take j)).length = 32 * j := by
    intro j
    induction j with
    | zero => intro _; rw [besideS_zero]; rfl
    | succ j ih =>
      intro hj
      rw [besideS_next L s j (by omega), List.length_append, ih (by omega), nodeS_length _ _ _ ho]
      omega
  have := key s.length (Nat.le_refl _)
  rwa [List.take_length] at this
theorem hpart_pre {a b c : List UInt8} {i : Nat} (ha : a.length = 32 * i) (hb : b.length = 32) : hpart (a ++ b ++ c) i = b := by
  rw [hpart, List.append_assoc, ← ha, List.drop_left, List.take_left' hb]
theorem beside_part {L : List (Nat × List UInt8)} (ho : okL L) (s : List (Nat × Nat)) (i : Nat) (hi : i < s.length) : hpart (besideS L s) i = nodeS s[i].1 s[i].2 L := by
  have key : ∀ n, i + 1 + n ≤ s.length → ∃ z, besideS L (s.take (i + 1 + n)) = besideS L (s.take i) ++ nodeS s[i].1 s[i].2 L ++ z := by
    intro n
    induction n with
    | zero => exact fun _ => ⟨[], by rw [Nat.add_zero, besideS_next L s i hi, List.append_nil]⟩
    | succ n ih =>
      intro h
      obtain ⟨z, hz⟩ := ih (by omega)
      exact ⟨z ++ nodeS s[i + 1 + n].1 s[i + 1 + n].2 L, by rw [← Nat.add_assoc, besideS_next L s (i + 1 + n) (by omega), hz, List.append_assoc]⟩
  obtain ⟨z, hz⟩ := key (s.length - (i + 1)) (by omega)
  rw [show i + 1 + (s.length - (i + 1)) = s.length by omega, List.take_length] at hz
  rw [hz]
  exact hpart_pre (by rw [besideS_length ho, List.length_take]; congr 1; omega) (nodeS_length _ _ _ ho)
theorem leaves_part {L : List (Nat × List UInt8)} (ho : okL L) (s : List Nat) (i : Nat) (hi : i < s.length) : hpart (leavesS L s) i = nodeS 0 s[i] L := by
  have key : ∀ n, i + 1 + n ≤ s.length → ∃ z, leavesS L (s.take (i + 1 + n)) = leavesS L (s.take i) ++ nodeS 0 s[i] L ++ z := by
    intro n
    induction n with
    | zero => exact fun _ => ⟨[], by rw [Nat.add_zero, leavesS_next L s i hi, List.append_nil]⟩
    | succ n ih =>
      intro h
      obtain ⟨z, hz⟩ := ih (by omega)
      exact ⟨z ++ nodeS 0 s[i + 1 + n] L, by rw [← Nat.add_assoc, leavesS_next L s (i + 1 + n) (by omega), hz, List.append_assoc]⟩
  obtain ⟨z, hz⟩ := key (s.length - (i + 1)) (by omega)
  rw [show i + 1 + (s.length - (i + 1)) = s.length by omega, List.take_length] at hz
  rw [hz]
  exact hpart_pre (by rw [leavesS_length ho, List.length_take]; congr 1; omega) (nodeS_length _ _ _ ho)
end Go.Proofs.YtlmecjnlinalkaaDoor
