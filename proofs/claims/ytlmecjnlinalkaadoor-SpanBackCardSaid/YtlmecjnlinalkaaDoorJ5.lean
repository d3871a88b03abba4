/-
  Layer 9, the document's side: Node, Root.
  Layer 9, the document's side: Root, Path.
  entrustnum.Hashes: two slices of hashes held against each other.
-/
import Derived.Test.YtlmecjnlinalkaaDoorTq
import Derived.Test.YtlmecjnlinalkaaDoorY1
import Derived.Test.YtlmecjnlinalkaaDoorY4
namespace Go.Proofs.YtlmecjnlinalkaaDoor
open Go.RowKit

/-- The leaves below a node; a node. -/
def bS (n pl : Nat) (L : List (Nat × List UInt8)) : List (Nat × List UInt8) := L.filter fun p => p.1 >>> n == pl
def nodeS (n pl : Nat) (L : List (Nat × List UInt8)) : List UInt8 := partS n pl (bS n pl L)
theorem okL.bS {L : List (Nat × List UInt8)} (h : okL L) (n pl : Nat) : okL (bS n pl L) := fun p hp => h p (List.mem_filter.1 hp).1
theorem bS_le (n pl : Nat) (L : List (Nat × List UInt8)) : (bS n pl L).length ≤ L.length := List.length_filter_le _ _
theorem bS_zero (n pl : Nat) (L : List (Nat × List UInt8)) : bS n pl (L.take 0) = [] := rfl
theorem bS_next (n pl : Nat) (L : List (Nat × List UInt8)) (j : Nat) (hj : j < L.length) : bS n pl (L.take (j + 1)) = if (L[j].1 >>> n == pl) then bS n pl (L.take j) ++ [L[j]] else bS n pl (L.take j) := by
  rw [take_next L j hj]
  unfold bS
  rw [List.filter_append]
  cases h : (L[j].1 >>> n == pl) <;> simp [h]
theorem nodeS_length (n pl : Nat) (L : List (Nat × List UInt8)) (h : okL L) : (nodeS n pl L).length = 32 := partS_length _ _ _ (h.bS n pl)
attribute [irreducible] bS
set_option maxRecDepth 100000 in
set_option maxHeartbeats 2000000 in
theorem nodeR_any (n : Nat) (hn : n ≤ 32) (pl : Nat) (hpl : pl < 18446744073709551616) (L : List (Nat × List UInt8)) (h : Int) (E A : Option Addr) (cE c : Nat) (w : World) (ho : okL L) (hlen : L.length ≤ 1000) (hv : Lv w w.heap.size A L) (he : Ev w w.heap.size E) (hT : Tabr w) (hI : Tab w 1 IV.l) :
    Calls Tryd.prog 16 #[.agg #[.int .i64 h, .slice A L.length c, .slice E 33 cE], .int .i64 (n : Int), .int .u64 (pl : Int)] w fun r w' => r = .returned (.agg (ubs (nodeS n pl L)).toArray) ∧ Below w.heap.size w w' := by
  have HPC := hid (fun (W : World) (A1 : Option Addr) (c1 : Nat) (b : Below w.heap.size w W) (v : Lv W W.heap.size A1 (bS n pl L)) (e : Ev W W.heap.size E) => partR_any n hn w hT hI pl (bS n pl L) h A E A1 L.length c cE c1 W b hpl (ho.bS n pl) (Nat.le_trans (bS_le n pl L) hlen) v e)
  obtain ⟨T, hT'⟩ : ∃ T : Array Value, T = #[.int .i64 h, .slice A L.length c, .slice E 33 cE] := ⟨_, rfl⟩
  have H0 := hid (PtW.start w T)
  have HQ := hid (fun (W : World) (hA : At W w.heap.size T 33) => show W.cell? ⟨w.heap.size, 1, none⟩ = some (.slice A L.length c) by rw [hA.cell, hT']; rfl)
  have HV := hid (fun (W : World) (b : Below w.heap.size w W) => hv.below b)
  have HE := hid (fun (W : World) (b : Below w.heap.size w W) => show Ev W W.heap.size E from (Rd.below he b).mono b.size)
  have HO := hid ho
  have HLEN := hid hlen
  have HSZ := hid (show (Tryd.prog.info? 33).map (·.size) = some T.size by rw [sizeTr, hT']; rfl)
  have HR := hid (show (partS n pl (bS n pl L)).length = 32 from nodeS_length n pl L ho)
  unfold nodeS
  generalize partS n pl (bS n pl L) = hr at HPC HR ⊢
  rw [← hT'] at HPC ⊢
  obtain ⟨len, hlen'⟩ : ∃ m, m = L.length := ⟨_, rfl⟩
  rw [← hlen'] at HQ
  have HN := hid hlen'
  have un : IntKind.u64.wrap (n : Int) = (n : Int) := by simp [IntKind.wrap, IntKind.signed, IntKind.bits]; omega
  have HK := hid (show n ≤ 64 by omega)
  have hz := noughts32
  clear hn hpl ho hlen hv he hT hI hT' hlen'
  go_enter Tryd.func16, Tryd.ntmps16
  go_wp2
  clear hz
  go_loopw [7, 8] (fun v7 v8 wr => ∃ (j : Nat) (A1 : Option Addr) (c1 : Nat), j ≤ len ∧ v8 = .int .i64 (j : Int) ∧ v7 = .slice A1 (bS n pl (L.take j)).length c1 ∧ PtW w T (.slice A1 (bS n pl (L.take j)).length c1) (.slice none 0 0) (bS n pl (L.take j)) [] wr) (fun _ v8 _ => len - (intOf v8).toNat)
  case atStart =>
    refine ⟨0, none, 0, by omega, rfl, ?_, ?_⟩
    · rw [bS_zero]; rfl
    · rw [bS_zero]; exact H0.out
  case round =>
    clear H0
    obtain ⟨j, A1, c1, hjle, rfl, rfl, hW⟩ := hrel
    have HW := hid hW
    clear hW
    have q1 := HQ.out _ HW.out.t
    by_cases hlt : j < len
    · have hjl : j < L.length := by rw [← HN.out]; exact hlt
      have e1 : decide ((j : Int) < (len : Int)) = true := by simp; omega
      have e1' : decide (j < len) = true := by simp; omega
      have e2 : (j : Int) < (len : Int) := by omega
      obtain ⟨g, o, rfl, hg, hr0⟩ := (HV.out wr HW.out.below).leaf HO.out hjl
      have HP := hid (HO.out.get hjl)
      have hA := bS_next n pl L j hjl
      obtain ⟨p, hp⟩ : ∃ p, p = L[j] := ⟨_, rfl⟩
      rw [← hp] at hr0 HP hA
      obtain ⟨x, hx⟩ : ∃ x, x = o + 33 * j := ⟨_, rfl⟩
      rw [← hx] at hr0
      have ex : o + j * 33 = x := by omega
      have HX := hid hr0
      have q0 := leaf_index hr0
      have hs := shr_u64 23 p.1 n .u64 HK.out
      obtain ⟨s, hs'⟩ : ∃ s, s = p.1 >>> n := ⟨_, rfl⟩
      rw [← hs'] at hs hA
      have wj : IntKind.i64.wrap ((j : Int) + 1) = ((j + 1 : Nat) : Int) := by have := HLEN.out; have := HN.out; simp [IntKind.wrap, IntKind.signed, IntKind.bits]; omega
      have HJ1 := hid (show j + 1 ≤ len by omega)
      have LL := hid (show (bS n pl (L.take j)).length ≤ 1000 from Nat.le_trans (bS_le _ _ _) (Nat.le_trans (by rw [List.length_take]; omega) HLEN.out))
      have HA := hid hA
      obtain ⟨LA, hLA⟩ : ∃ l, l = bS n pl (L.take j) := ⟨_, rfl⟩
      rw [← hLA] at HA HW LL ⊢
      obtain ⟨nA, hnA⟩ : ∃ m, m = LA.length := ⟨_, rfl⟩
      rw [← hnA] at HW ⊢
      have NA := hid hnA
      clear hjl hg hr0 hp hx hA hs' hlt hLA hnA hjle
      by_cases hc : s = pl
      · have f0 : decide ((s : Int) = (pl : Int)) = true := by simp; omega
        have f0b : ((s : Int) == (pl : Int)) = true := by simp; omega
        have f0n : decide (s = pl) = true := by simp; omega
        have HA2 := hid (show bS n pl (L.take (j + 1)) = LA ++ [p] by rw [HA.out, if_pos (by simpa using hc)])
        clear HA hc
        go_wp2_with (first
          | (refine wpList_valW (by rfl) (run_loadLf (.tmp 31) rfl g x rfl p HX.out HP.out.2) ?_)
          | (refine wpList_valW (by rfl) (run_buildLf (.tmp 32) rfl p HP.out.2 rfl) ?_)
          | (refine wpList_append_lf (by rfl) (.tmp 27) (.tmp 33) rfl (w.heap.size + 2) (.slice A1 nA c1) LA rfl (HW.out.a.kept ((Below.refl _ _).alloc (Nat.le_refl _) _)) wr.heap.size p rfl (At.new _ _ _) HP.out.2 LL.out (by have := HW.out.big; simp; omega) ?_; intro A3 c3 w3 h1 h2 h3; have HW3 := hid (HW.out.pushA h1 h2 h3); clear h1 h2 h3))
        exact ⟨⟨j + 1, A3, c3, HJ1.out, by go_num, by rw [HA2.out, List.length_append]; rfl, by rw [HA2.out]; exact HW3.out⟩, by have := HJ1.out; simp [intOf]; omega⟩
      · have f0 : decide ((s : Int) = (pl : Int)) = false := by simp; omega
        have f0b : ((s : Int) == (pl : Int)) = false := by simp; omega
        have f0n : decide (s = pl) = false := by simp; omega
        have HA2 := hid (show bS n pl (L.take (j + 1)) = LA by rw [HA.out, if_neg (by simpa using hc)])
        clear HA hc
        go_wp2
        exact ⟨⟨j + 1, A1, c1, HJ1.out, by go_num, by rw [HA2.out, NA.out], by rw [HA2.out, ← NA.out]; exact HW.out⟩, by have := HJ1.out; simp [intOf]; omega⟩
    · obtain rfl : j = len := by omega
      have e1 : decide ((j : Int) < (j : Int)) = false := by simp
      have hall : L.take j = L := by rw [HN.out, List.take_length]
      rw [hall] at HW ⊢
      go_wp2_with (first
        | (refine wpList_valW (by rfl) (run_loadTr (.tmp 3) rfl w.heap.size rfl T HW.out.t HSZ.out) ?_)
        | (go_at_call 56; refine (HPC.out wr A1 c1 HW.out.below HW.out.a.lv (HE.out wr HW.out.below)).mono ?_; rintro r5 w5 ⟨rfl, hb5⟩; have HW5 := hid (HW.out.new hb5); clear hb5)
        | (refine wpList_store_row rfl _ (.tmp 6) (.tmp 39) rfl (w.heap.size + 1) (ubs hr).toArray rfl rfl 25 (ubs n32).toArray HW5.out.r (sizeH_of HR.out) ?e5 (ubs_all _) ?e6; rotate_right))
      case e5 => simp [ubs_length, n32_length, HR.out]
      refine bodyPost_ret (results_cell_row rfl _ _ (w.heap.size + 1) 25 (ubs hr).toArray (0, 0) _ rfl (setRow_heap _ _ (ubs n32).toArray _ _ _ HW5.out.r) Tryd.underlying25 rfl (sizeH_of HR.out)) rfl ?_
      exact ⟨rfl, below_setRow HW5.out.below (by omega) _⟩
end Go.Proofs.YtlmecjnlinalkaaDoor

namespace Go.Proofs.YtlmecjnlinalkaaDoor
open Go.RowKit

/-- A slice of hashes of the call's own, one behind the other. -/
def Ah (W : World) (base : Nat) (v : Value) (n : Nat) (bs : List UInt8) : Prop := W.ownsRow base 25 32 v n (ubs bs)
theorem Ah.nil (W : World) (base : Nat) : Ah W base (.slice none 0 0) 0 [] := World.ownsRow_nil _ _ _ _
theorem Ah.form {W : World} {base n : Nat} {v : Value} {bs : List UInt8} (h : Ah W base v n bs) : ∃ A c, v = .slice A n c := by
  rcases h.2 with ⟨h1, h2⟩ | ⟨g, cap, cur, e, -⟩
  · rw [h1, h2]
    exact ⟨_, _, rfl⟩
  · exact ⟨_, _, e⟩
theorem Ah.kept {W W' : World} {base n : Nat} {v : Value} {bs : List UInt8} (h : Ah W base v n bs) (hb : Below W.heap.size W W') : Ah W' base v n bs := by
  refine ⟨h.1, ?_⟩
  rcases h.2 with h2 | ⟨g, cap, cur, rfl, hb1, hh, r⟩
  · exact .inl h2
  · exact .inr ⟨g, cap, cur, rfl, hb1, (hb.block g (lt_of_block hh)).trans hh, r⟩
theorem Ah.lt {W : World} {base n : Nat} {v : Value} {bs : List UInt8} (h : Ah W base v n bs) : ∀ k, v.ownBlock = some k → base ≤ k ∧ k < W.heap.size := World.ownsRow.lt h
theorem Ah.rd {W : World} {base n c : Nat} {A : Option Addr} {bs : List UInt8} (h : Ah W base (.slice A n c) n bs) : Rd W W.heap.size A (ubs bs) := fun hne => by
  rcases h.2 with ⟨h1, h2⟩ | ⟨g, cap, cur, e, hb, hh, -⟩
  · refine absurd ?_ hne
    exact List.eq_nil_of_length_eq_zero (by have := h.1; rw [h2] at this; omega)
  · obtain rfl : A = some ⟨g, 0, none⟩ := by cases e; rfl
    refine ⟨g, 0, rfl, lt_of_block hh, fun j u hu => ?_⟩
    have := World.ownsRow.cells h (g := g) rfl j u hu
    rwa [add_plain] at this
/-- The node beside that above an index, on a level; all of them, one behind the other. -/
def sibN (k i : Nat) : Nat := if (i >>> k) % 2 = 0 then i >>> k + 1 else i >>> k - 1
def pathS (L : List (Nat × List UInt8)) (i : Nat) : Nat → List UInt8
  | 0 => []
  | k + 1 => pathS L i k ++ nodeS k (sibN k i) L
theorem pathS_succ (L : List (Nat × List UInt8)) (i k : Nat) : pathS L i (k + 1) = pathS L i k ++ nodeS k (sibN k i) L := rfl
attribute [irreducible] pathS
/-- What holds in Path. -/
structure PhW (w : World) (T : Array Value) (v : Value) (n : Nat) (bs : List UInt8) (W : World) : Prop where
  t : At W w.heap.size T 33
  a : Ah W (w.heap.size + 1) v n bs
  below : Below w.heap.size w W
section
variable {w W W' : World} {T : Array Value} {v v' : Value} {n : Nat} {bs l : List UInt8}
theorem PhW.new (h : PhW w T v n bs W) (hb : Below W.heap.size W W') : PhW w T v n bs W' := ⟨h.t.new_ hb, h.a.kept hb, h.below.trans (hb.mono h.below.size)⟩
theorem PhW.start (w : World) (T : Array Value) : PhW w T (.slice none 0 0) 0 [] (w.alloc (.cells T 33)) := ⟨At.new _ _ _, Ah.nil _ _, (Below.refl w.heap.size w).alloc (Nat.le_refl _) _⟩
theorem PhW.big (h : PhW w T v n bs W) : w.heap.size + 1 ≤ W.heap.size := by have := h.t.lt; omega
theorem PhW.push {o : Obj} (h : PhW w T v n bs W) (ha : Ah W' (w.heap.size + 1) v' (n + 1) (bs ++ l)) (hg : (W.alloc o).grownBy W' v.ownBlock) : PhW w T v' (n + 1) (bs ++ l) W' := by
  have hn := h.new ((Below.refl W.heap.size W).alloc (Nat.le_refl _) o)
  refine ⟨hn.t.grown hg (fun e => ?_), ha, hn.below.grown hg hn.below.size (fun k hk => by have := (h.a.lt k hk).1; omega)⟩
  have := (h.a.lt _ e).1
  omega
end
end Go.Proofs.YtlmecjnlinalkaaDoor

namespace Go.Proofs.YtlmecjnlinalkaaDoor
open Go.RowKit

/-- A hash of a row of them. -/
def hpart (bs : List UInt8) (j : Nat) : List UInt8 := (bs.drop (32 * j)).take 32
theorem hpart_length {bs : List UInt8} {n j : Nat} (hb : bs.length = 32 * n) (hj : j < n) : (hpart bs j).length = 32 := by
  rw [hpart, List.length_take, List.length_drop]
  omega
theorem hpart_range {W : World} {B n j : Nat} {A : Option Addr} {bs : List UInt8} (h : Rd W B A (ubs bs)) (hb : bs.length = 32 * n) (hj : j < n) : ∃ g o, A = some ⟨g, o, none⟩ ∧ g < B ∧ W.rangeAt g (o + 32 * j) (ubs (hpart bs j)) := by
  obtain ⟨g, o, rfl, hg, hc⟩ := h (fun e => by have := congrArg List.length e; rw [ubs_length, hb] at this; simp only [List.length_nil] at this; omega)
  refine ⟨g, o, rfl, hg, fun q u hq => ?_⟩
  have hq2 : q < 32 := by
    have := (List.getElem?_eq_some_iff.1 hq).1
    rw [ubs_length, hpart_length hb hj] at this
    exact this
  have := hc (32 * j + q) u (by
    unfold ubs at hq ⊢
    rw [List.getElem?_map] at hq ⊢
    unfold hpart at hq
    rwa [List.getElem?_take_of_lt hq2, List.getElem?_drop] at hq)
  rwa [← Nat.add_assoc] at this
theorem take_part (bs : List UInt8) (j : Nat) : bs.take (32 * (j + 1)) = bs.take (32 * j) ++ hpart bs j := by
  unfold hpart
  rw [show 32 * (j + 1) = 32 * j + 32 by omega, List.take_add]
theorem hpart_eq {bs cs : List UInt8} (j : Nat) (h : bs = cs) : hpart bs j = hpart cs j := by rw [h]
def hhF (A C : Value) (i x y g q : Nat) (P Q : List UInt8) (r : Bool) : Nat → Value
  | 0 => A
  | 1 => .int .i64 (i : Int)
  | 2 => .pointer (some ⟨g, x, none⟩)
  | 3 => .agg (ubs P).toArray
  | 4 => C
  | 5 => .int .i64 (i : Int)
  | 6 => .pointer (some ⟨q, y, none⟩)
  | 7 => .agg (ubs Q).toArray
  | _ => .bool r
set_option maxRecDepth 100000 in
set_option maxHeartbeats 2000000 in
theorem hashes_any (n : Nat) (bs cs : List UInt8) (A C : Option Addr) (c d : Nat) (w : World) (hb : bs.length = 32 * n) (hc : cs.length = 32 * n) (ha : Rd w w.heap.size A (ubs bs)) (hd : Rd w w.heap.size C (ubs cs)) (hn : n ≤ 100000) :
    Calls Tryd.prog 19 #[.slice A n c, .slice C n d] w fun r w' => r = .returned (.bool (decide (bs = cs))) ∧ Below w.heap.size w w' := by
  have HA := hid (fun (V : World) (k : Below w.heap.size w V) => (show Rd V w.heap.size A (ubs bs) from Rd.below ha k))
  have HD := hid (fun (V : World) (k : Below w.heap.size w V) => (show Rd V w.heap.size C (ubs cs) from Rd.below hd k))
  have HB := hid hb
  have HC := hid hc
  have HN := hid hn
  obtain ⟨R, hR⟩ : ∃ R, R = decide (bs = cs) := ⟨_, rfl⟩
  rw [← hR]
  have HR := hid hR
  have cn : ((n : Int) != (n : Int)) = false := by simp
  have cn2 : ((n : Int) == (n : Int)) = true := by simp
  clear ha hd hb hc hn hR
  go_enter Tryd.func19, Tryd.ntmps19
  go_wp2
  go_loopw [13] (fun v wr => ∃ j : Nat, j ≤ n ∧ v = .int .i64 (j : Int) ∧ bs.take (32 * j) = cs.take (32 * j) ∧ Below w.heap.size w wr) (fun v _ => n - (intOf v).toNat)
  case atStart => exact ⟨0, by omega, rfl, by simp, Below.refl _ _⟩
  case round =>
    obtain ⟨j, hj, rfl, ht, hw⟩ := hrel
    by_cases hlt : j < n
    · have hdj : decide ((j : Int) < (n : Int)) = true := by simp; omega
      obtain ⟨g, o, eA, hg, hra⟩ := hpart_range (HA.out wr hw) HB.out hlt
      obtain ⟨q, p, eC, hq, hrc⟩ := hpart_range (HD.out wr hw) HC.out hlt
      have HPL := hid (hpart_length HB.out hlt)
      have HQL := hid (hpart_length HC.out hlt)
      have hs := hw.size
      have HRA := hid (fun (V : World) (k : Below wr.heap.size wr V) => show V.rangeAt g (o + 32 * j) (ubs (hpart bs j)) from fun i u hu => (k.cell (p := ⟨g, o + 32 * j + i, none⟩) (Nat.lt_of_lt_of_le hg hs)).trans (hra i u hu))
      have HRC := hid (fun (V : World) (k : Below wr.heap.size wr V) => show V.rangeAt q (p + 32 * j) (ubs (hpart cs j)) from fun i u hu => (k.cell (p := ⟨q, p + 32 * j + i, none⟩) (Nat.lt_of_lt_of_le hq hs)).trans (hrc i u hu))
      have HT1 := hid (fun h : hpart bs j = hpart cs j => show bs.take (32 * (j + 1)) = cs.take (32 * (j + 1)) by rw [take_part, take_part, ht, h])
      have HRF := hid (fun h : hpart bs j ≠ hpart cs j => show R = false by rw [HR.out]; exact decide_eq_false fun e => h (hpart_eq j e))
      obtain ⟨x, hx⟩ : ∃ x, x = o + 32 * j := ⟨_, rfl⟩
      obtain ⟨y, hy⟩ : ∃ y, y = p + 32 * j := ⟨_, rfl⟩
      rw [← hx] at HRA
      rw [← hy] at HRC
      obtain ⟨j1, hj1⟩ : ∃ m, m = j + 1 := ⟨_, rfl⟩
      rw [← hj1] at HT1
      have HJL := hid (show j1 ≤ n by omega)
      have HMS := hid (show n - j1 < n - j by omega)
      have e2 : (j : Int) + 1 = (j1 : Int) := by omega
      have ew : IntKind.i64.wrap (j1 : Int) = (j1 : Int) := by rw [IntKind.wrap_i64] <;> have := HN.out <;> omega
      have EK := hid (show (j : Int) < (n : Int) by omega)
      have ik : (j : Int) < (n : Int) := by omega
      have EX := hid (show o + j * 32 = x by rw [hx]; omega)
      have EY := hid (show p + j * 32 = y by rw [hy]; omega)
      have HW := hid hw
      generalize hpart bs j = P at HRA HPL HT1 HRF
      generalize hpart cs j = Q at HRC HQL HT1 HRF
      subst eA
      subst eC
      clear hra hrc hx hy hj1 hg hq hs ht hw hlt hj
      go_upto_region 6 with (fail)
      try simp only [Act.put, List.setIfInBounds_toArray, List.set_cons_succ, List.set_cons_zero]
      by_cases hpq : P = Q
      · have HPQ := hid (show (P == Q) = !false by simp [hpq])
        have HT2 := hid (HT1.out hpq)
        clear hpq HT1 HRF
        refine wp_region_facts 9 9 [16, 17, 18, 19, 20, 21, 22, 23, 24] (fun k z _ => z = hhF (.slice (some ⟨g, o, none⟩) n c) (.slice (some ⟨q, p, none⟩) n d) j x y g q P Q false k) (fun V => Below wr.heap.size wr V) (by kernel_rfl) (by kernel_rfl)
          (fun V V' h hb => h.trans (hb.mono h.size)) (fun _ _ _ _ h _ => h) ((Below.refl _ _).drew) ?_ ?_
        · intro i hi vals W K hB hn hK
          simp only [frm_cons, frm_nil, List.set_cons_succ, List.set_cons_zero, Nat.reduceAdd] at hK ⊢
          rcases (by omega : i = 0 ∨ i = 1 ∨ i = 2 ∨ i = 3 ∨ i = 4 ∨ i = 5 ∨ i = 6 ∨ i = 7 ∨ i = 8) with rfl | rfl | rfl | rfl | rfl | rfl | rfl | rfl | rfl
          · refine wpOp_plain rfl rfl (wp_val (w' := W) (v := .slice (some ⟨g, o, none⟩) n c) (by go_simp) ?_)
            exact hK _ _ rfl (Below.refl _ _)
          · refine wpOp_plain rfl rfl (wp_val (w' := W) (v := .int .i64 (j : Int)) (by go_simp) ?_)
            exact hK _ _ rfl (Below.refl _ _)
          · have h0 := hn 0 (by decide +kernel)
            have h1 := hn 1 (by decide +kernel)
            simp only [hhF] at h0 h1
            simp only [h0, h1] at hK ⊢
            have x1 := EX.out
            have x2 := EK.out
            refine wpOp_plain rfl rfl (wp_val (w' := W) (v := .pointer (some ⟨g, x, none⟩)) (by go_simp) ?_)
            exact hK _ _ rfl (Below.refl _ _)
          · have h2 := hn 2 (by decide +kernel)
            simp only [hhF] at h2
            simp only [h2] at hK ⊢
            refine wpOp_plain rfl rfl (wp_val (run_loadH (.tmp 18) rfl g x rfl P (HRA.out W hB) HPL.out) ?_)
            exact hK _ _ rfl (Below.refl _ _)
          · refine wpOp_plain rfl rfl (wp_val (w' := W) (v := .slice (some ⟨q, p, none⟩) n d) (by go_simp) ?_)
            exact hK _ _ rfl (Below.refl _ _)
          · refine wpOp_plain rfl rfl (wp_val (w' := W) (v := .int .i64 (j : Int)) (by go_simp) ?_)
            exact hK _ _ rfl (Below.refl _ _)
          · have h4 := hn 4 (by decide +kernel)
            have h5 := hn 5 (by decide +kernel)
            simp only [hhF] at h4 h5
            simp only [h4, h5] at hK ⊢
            have x1 := EY.out
            have x2 := EK.out
            refine wpOp_plain rfl rfl (wp_val (w' := W) (v := .pointer (some ⟨q, y, none⟩)) (by go_simp) ?_)
            exact hK _ _ rfl (Below.refl _ _)
          · have h6 := hn 6 (by decide +kernel)
            simp only [hhF] at h6
            simp only [h6] at hK ⊢
            refine wpOp_plain rfl rfl (wp_val (run_loadH (.tmp 22) rfl q y rfl Q (HRC.out W hB) HQL.out) ?_)
            exact hK _ _ rfl (Below.refl _ _)
          · have h3 := hn 3 (by decide +kernel)
            have h7 := hn 7 (by decide +kernel)
            simp only [hhF] at h3 h7
            simp only [h3, h7] at hK ⊢
            refine wpOp_plain rfl rfl (wp_val (run_neqH _ (.tmp 19) (.tmp 23) rfl P Q HPL.out HQL.out rfl rfl false HPQ.out W) ?_)
            exact hK _ _ rfl (Below.refl _ _)
        · intro vals W hB hF
          have h8 := hF 8 (by omega)
          simp only [hhF] at h8
          simp only [frm_cons, frm_nil, List.set_cons_succ, List.set_cons_zero, Nat.reduceAdd, h8]
          refine wpUpto_done (by decide +kernel) ?_ _
          have HBV := hid hB
          clear hB hF h8
          go_simp
          go_wp2
          go_roundw
          case rel => exact ⟨j1, HJL.out, rfl, HT2.out, HW.out.trans (HBV.out.mono HW.out.size)⟩
          case measure =>
            show n - ((j1 : Int)).toNat < n - (j : Int).toNat
            rw [Int.toNat_natCast, Int.toNat_natCast]
            exact HMS.out
      · have HPQ := hid (show (P == Q) = !true by simpa using hpq)
        have HF2 := hid (HRF.out hpq)
        clear hpq HT1 HRF
        refine wp_region_facts 9 9 [16, 17, 18, 19, 20, 21, 22, 23, 24] (fun k z _ => z = hhF (.slice (some ⟨g, o, none⟩) n c) (.slice (some ⟨q, p, none⟩) n d) j x y g q P Q true k) (fun V => Below wr.heap.size wr V) (by kernel_rfl) (by kernel_rfl)
          (fun V V' h hb => h.trans (hb.mono h.size)) (fun _ _ _ _ h _ => h) ((Below.refl _ _).drew) ?_ ?_
        · intro i hi vals W K hB hn hK
          simp only [frm_cons, frm_nil, List.set_cons_succ, List.set_cons_zero, Nat.reduceAdd] at hK ⊢
          rcases (by omega : i = 0 ∨ i = 1 ∨ i = 2 ∨ i = 3 ∨ i = 4 ∨ i = 5 ∨ i = 6 ∨ i = 7 ∨ i = 8) with rfl | rfl | rfl | rfl | rfl | rfl | rfl | rfl | rfl
          · refine wpOp_plain rfl rfl (wp_val (w' := W) (v := .slice (some ⟨g, o, none⟩) n c) (by go_simp) ?_)
            exact hK _ _ rfl (Below.refl _ _)
          · refine wpOp_plain rfl rfl (wp_val (w' := W) (v := .int .i64 (j : Int)) (by go_simp) ?_)
            exact hK _ _ rfl (Below.refl _ _)
          · have h0 := hn 0 (by decide +kernel)
            have h1 := hn 1 (by decide +kernel)
            simp only [hhF] at h0 h1
            simp only [h0, h1] at hK ⊢
            have x1 := EX.out
            have x2 := EK.out
            refine wpOp_plain rfl rfl (wp_val (w' := W) (v := .pointer (some ⟨g, x, none⟩)) (by go_simp) ?_)
            exact hK _ _ rfl (Below.refl _ _)
          · have h2 := hn 2 (by decide +kernel)
            simp only [hhF] at h2
            simp only [h2] at hK ⊢
            refine wpOp_plain rfl rfl (wp_val (run_loadH (.tmp 18) rfl g x rfl P (HRA.out W hB) HPL.out) ?_)
            exact hK _ _ rfl (Below.refl _ _)
          · refine wpOp_plain rfl rfl (wp_val (w' := W) (v := .slice (some ⟨q, p, none⟩) n d) (by go_simp) ?_)
            exact hK _ _ rfl (Below.refl _ _)
          · refine wpOp_plain rfl rfl (wp_val (w' := W) (v := .int .i64 (j : Int)) (by go_simp) ?_)
            exact hK _ _ rfl (Below.refl _ _)
          · have h4 := hn 4 (by decide +kernel)
            have h5 := hn 5 (by decide +kernel)
            simp only [hhF] at h4 h5
            simp only [h4, h5] at hK ⊢
            have x1 := EY.out
            have x2 := EK.out
            refine wpOp_plain rfl rfl (wp_val (w' := W) (v := .pointer (some ⟨q, y, none⟩)) (by go_simp) ?_)
            exact hK _ _ rfl (Below.refl _ _)
          · have h6 := hn 6 (by decide +kernel)
            simp only [hhF] at h6
            simp only [h6] at hK ⊢
            refine wpOp_plain rfl rfl (wp_val (run_loadH (.tmp 22) rfl q y rfl Q (HRC.out W hB) HQL.out) ?_)
            exact hK _ _ rfl (Below.refl _ _)
          · have h3 := hn 3 (by decide +kernel)
            have h7 := hn 7 (by decide +kernel)
            simp only [hhF] at h3 h7
            simp only [h3, h7] at hK ⊢
            refine wpOp_plain rfl rfl (wp_val (run_neqH _ (.tmp 19) (.tmp 23) rfl P Q HPL.out HQL.out rfl rfl true HPQ.out W) ?_)
            exact hK _ _ rfl (Below.refl _ _)
        · intro vals W hB hF
          have h8 := hF 8 (by omega)
          simp only [hhF] at h8
          simp only [frm_cons, frm_nil, List.set_cons_succ, List.set_cons_zero, Nat.reduceAdd, h8]
          refine wpUpto_done (by decide +kernel) ?_ _
          have HBV := hid hB
          clear hB hF h8
          go_simp
          go_wp2
          go_ret
          exact ⟨by rw [HF2.out]; rfl, HW.out.trans (HBV.out.mono HW.out.size)⟩
    · obtain rfl : j = n := by omega
      have hdj : decide ((j : Int) < (j : Int)) = false := by simp
      have HRT := hid (show R = true by
        rw [HR.out]
        refine decide_eq_true ?_
        rwa [List.take_of_length_le (by rw [HB.out]; exact Nat.le_refl _), List.take_of_length_le (by rw [HC.out]; exact Nat.le_refl _)] at ht)
      have HW := hid hw
      clear ht hw hlt hj
      go_wp2
      go_ret
      exact ⟨by rw [HRT.out]; rfl, HW.out⟩
end Go.Proofs.YtlmecjnlinalkaaDoor
