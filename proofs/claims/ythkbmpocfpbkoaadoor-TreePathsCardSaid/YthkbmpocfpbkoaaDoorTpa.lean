/-
  TreePaths of layer 9, over what the program's trees are to answer.
-/
import Derived.Test.YthkbmpocfpbkoaaDoorTpm
import Derived.Test.YthkbmpocfpbkoaaDoorTv
import Derived.Test.YthkbmpocfpbkoaaDoorZ1
import Derived.Test.YthkbmpocfpbkoaaDoorY1
namespace Go.Proofs.YthkbmpocfpbkoaaDoor
open Go.RowKit Go.Maps

def lsF (f : Nat → Option (List UInt8)) : Lit → Option (List UInt8)
  | .int .u64 z => if 0 ≤ z then f z.toNat else none
  | _ => none
theorem lsF_at (f : Nat → Option (List UInt8)) (p : Nat) : lsF f (.int .u64 (p : Int)) = f p := by
  unfold lsF
  simp only [Int.toNat_natCast]
  rw [if_pos (Int.natCast_nonneg p)]
theorem lsF_none : lsF (fun _ => none) = fun _ => none := by
  funext k
  unfold lsF
  split
  · split <;> rfl
  · rfl
theorem lsF_same {h : Nat} {f : Nat → Option (List UInt8)} {a : Act9} (hb : hasB h 0 a.1 = true) : lsF (lastN h f a) (.int .u64 (a.1 : Int)) = some a.2.1 := by
  rw [lsF_at, lastN, hb]
  simp
theorem lsF_other {h : Nat} {f : Nat → Option (List UInt8)} {a : Act9} (x : Lit) (hx : x ≠ .int .u64 (a.1 : Int)) : lsF (lastN h f a) x = lsF f x := by
  unfold lastN
  split
  · unfold lsF
    split
    · rename_i z
      split
      · rename_i hz
        have : z.toNat ≠ a.1 := fun e => hx (by rw [← e, Int.toNat_of_nonneg hz])
        show (if z.toNat = a.1 then _ else f z.toNat) = _
        rw [if_neg this]
      · rfl
    · rfl
  · rfl
/-- Both trees, and what was set last. -/
structure PaW (Pt : PtT) (w : World) (S1 S2 : Nat → Prop) (b1 b2 h M n : Nat) (L1 L2 : List (Nat × List UInt8)) (f : Nat → Option (List UInt8)) (V : World) : Prop where
  t : Pt S1 V b1 h L1
  u : Pt S2 V b2 h L2
  m : Hmap V 33 M n (lsF f)
  ap : ∀ k, S1 k → ¬ S2 k
  a1 : ¬ S1 M
  a2 : ¬ S2 M
  lo : w.heap.size ≤ M
  below : Below w.heap.size w V
section
variable {Pt : PtT} {w V V' : World} {S1 S2 S' : Nat → Prop} {b1 b2 h M n n' : Nat} {L1 L2 L' : List (Nat × List UInt8)} {f f' : Nat → Option (List UInt8)}
theorem PaW.new (t : T9c Pt w) (x : PaW Pt w S1 S2 b1 b2 h M n L1 L2 f V) (hb : Below V.heap.size V V') : PaW Pt w S1 S2 b1 b2 h M n L1 L2 f V' :=
  ⟨t.new x.t hb, t.new x.u hb, x.m.new hb, x.ap, x.a1, x.a2, x.lo, x.below.trans (hb.mono x.below.size)⟩
theorem PaW.mono (x : PaW Pt w S1 S2 b1 b2 h M n L1 L2 f V) (hn : n ≤ n') : PaW Pt w S1 S2 b1 b2 h M n' L1 L2 f V := ⟨x.t, x.u, x.m.mono hn, x.ap, x.a1, x.a2, x.lo, x.below⟩
theorem PaW.drew (t : T9c Pt w) (x : PaW Pt w S1 S2 b1 b2 h M n L1 L2 f V) : PaW Pt w S1 S2 b1 b2 h M n L1 L2 f V.drew := x.new t (Below.refl _ _).drew
theorem PaW.set1 (t : T9c Pt w) (x : PaW Pt w S1 S2 b1 b2 h M n L1 L2 f V) (p : Pt S' V' b1 h L') (hS : ∀ k, S' k → S1 k ∨ V.heap.size ≤ k) (hf : Fr S1 V V') : PaW Pt w S' S2 b1 b2 h M n L' L2 f V' :=
  ⟨p, t.fr x.u hf (fun k h2 h1 => x.ap k h1 h2), x.m.fr hf x.a1, fun k hk h2 => (hS k hk).elim (fun h1 => x.ap k h1 h2) (fun h1 => Nat.not_lt.2 h1 (t.inn x.u k h2).2),
    fun hk => (hS M hk).elim x.a1 (fun h1 => Nat.not_lt.2 h1 x.m.lt), x.a2, x.lo, x.below.trans (hf.below (fun k hk => (t.inn x.t k hk).1) x.below.size)⟩
theorem PaW.set2 (t : T9c Pt w) (x : PaW Pt w S1 S2 b1 b2 h M n L1 L2 f V) (p : Pt S' V' b2 h L') (hS : ∀ k, S' k → S2 k ∨ V.heap.size ≤ k) (hf : Fr S2 V V') : PaW Pt w S1 S' b1 b2 h M n L1 L' f V' :=
  ⟨t.fr x.t hf (fun k h1 h2 => x.ap k h1 h2), p, x.m.fr hf x.a2, fun k hk h2 => (hS k h2).elim (fun h2 => x.ap k hk h2) (fun h1 => Nat.not_lt.2 h1 (t.inn x.t k hk).2), x.a1,
    fun hk => (hS M hk).elim x.a2 (fun h1 => Nat.not_lt.2 h1 x.m.lt), x.lo, x.below.trans (hf.below (fun k hk => (t.inn x.u k hk).1) x.below.size)⟩
theorem PaW.put (t : T9c Pt w) (x : PaW Pt w S1 S2 b1 b2 h M n L1 L2 f V) (hm : Hmap V' 33 M n' (lsF f')) (hg : V.grownBy V' (some M)) : PaW Pt w S1 S2 b1 b2 h M n' L1 L2 f' V' :=
  ⟨t.keep x.t hg.size (fun k hk => hg.block k (t.inn x.t k hk).2 (fun e => x.a1 (by rw [← Option.some.inj e]; exact hk))),
    t.keep x.u hg.size (fun k hk => hg.block k (t.inn x.u k hk).2 (fun e => x.a2 (by rw [← Option.some.inj e]; exact hk))), hm, x.ap, x.a1, x.a2, x.lo,
    x.below.grown hg x.below.size (fun k hk => by rw [← Option.some.inj hk]; exact x.lo)⟩
end
/-- A tree, and a block of the call's own. -/
structure PbW (Pt : PtT) (w : World) (S : Nat → Prop) (b h G : Nat) (L : List (Nat × List UInt8)) (A9 : Option Addr) (ps x : List UInt8) (V : World) : Prop where
  t : Pt S V b h L
  r : Rd V V.heap.size A9 (ubs ps)
  g : At V G (ubs x).toArray 35
  gn : ¬ S G
  rn : ps ≠ [] → ∀ q o, A9 = some ⟨q, o, none⟩ → q ≠ G
  lo : w.heap.size ≤ G
  below : Below w.heap.size w V
section
variable {Pt : PtT} {w V V' : World} {S : Nat → Prop} {b h G : Nat} {L : List (Nat × List UInt8)} {A9 : Option Addr} {ps x y : List UInt8}
theorem PbW.new (t : T9c Pt w) (k : PbW Pt w S b h G L A9 ps x V) (hb : Below V.heap.size V V') : PbW Pt w S b h G L A9 ps x V' :=
  ⟨t.new k.t hb, (Rd.below k.r hb).mono hb.size, k.g.new_ hb, k.gn, k.rn, k.lo, k.below.trans (hb.mono k.below.size)⟩
theorem PbW.drew (t : T9c Pt w) (k : PbW Pt w S b h G L A9 ps x V) : PbW Pt w S b h G L A9 ps x V.drew := k.new t (Below.refl _ _).drew
theorem PbW.store (t : T9c Pt w) (k : PbW Pt w S b h G L A9 ps x V) : PbW Pt w S b h G L A9 ps y (V.setRow G (ubs y).toArray) := by
  have e : (V.setRow G (ubs y).toArray).heap.size = V.heap.size := by simp [World.setRow]
  have hr : Rd (V.setRow G (ubs y).toArray) (V.setRow G (ubs y).toArray).heap.size A9 (ubs ps) := by
    by_cases hp : ps = []
    · subst hp
      exact Rd.nil _ _ _
    · exact Rd.row k.r (k.rn hp) _
  refine ⟨t.keep k.t (by rw [e]; exact Nat.le_refl _) fun j hj => ?_, hr, setRow_heap _ _ _ _ _ _ k.g, k.gn, k.rn, k.lo, below_setRow k.below k.lo _⟩
  exact setRow_other V G j _ (by rintro rfl; exact k.gn hj)
end
/-- A region that lays two pointers (slots p, q) beside two values (slots s, t): what follows it is walked once, in whatever order it went. -/
theorem wp_region_two {P : Program} {id : Nat} {ops : Array Oper} {Q : Exit → Go.Act → World → Prop} {l : List Value} {d : List Deferred} {w : World} (s t p q : Nat) (u v : Value) (R : Nat → Nat → World → Prop)
    (h1 : (Code.region id ops true).wp P (fun e a W => ∃ gl gr, e = .normal ∧ a = { tmps := ((((l.set s u).set t v).set p (.pointer (some ⟨gl, 0, none⟩))).set q (.pointer (some ⟨gr, 0, none⟩))).toArray, defers := d } ∧ R gl gr W) { tmps := l.toArray, defers := d } w)
    (h2 : ∀ gl gr W, R gl gr W → Q .normal { tmps := ((((l.set s u).set t v).set p (.pointer (some ⟨gl, 0, none⟩))).set q (.pointer (some ⟨gr, 0, none⟩))).toArray, defers := d } W) :
    (Code.region id ops true).wp P Q { tmps := l.toArray, defers := d } w :=
  wp_mono h1 fun e a W ⟨gl, gr, he, ha, hr⟩ => by
    rw [he, ha]
    exact h2 gl gr W hr
theorem wp_region_upto_at {P : Program} {ops : Array Oper} {Q : Exit → Go.Act → World → Prop} {id : Nat} {a : Go.Act} {w V : World} (S : World → Prop) (z n : Nat) (hV : w.drew = V) (hn : ops.size = n) (hm : P.follows .mixedOrders = true)
    (h : wpUpto P .any ops Q S z n (Array.replicate n false) a V) : (Code.region id ops true).wp P Q a w :=
  wp_region_upto S z n hn hm (by rw [hV]; exact h)
/-- What the last region yields. -/
def paF (k c9 b1 : Nat) (A9 : Option Addr) (nr : List UInt8) : Nat → Value
  | 0 => .slice A9 k c9
  | 1 => .int .i64 (k : Int)
  | 2 => .int .i64 (k : Int)
  | 5 => .agg (ubs nr).toArray
  | 6 => .pointer (some ⟨b1, 0, none⟩)
  | 7 => .agg (ubs nr).toArray
  | _ => .bool true
theorem back_end (f : Nat → Option (List UInt8)) (l : List Act9) : back f (l.drop l.length) = [] := by
  rw [List.drop_length]
  unfold back
  rfl
theorem pathS_at (L : List (Nat × List UInt8)) (i : Nat) : ∀ h j, j < h → ∃ z, pathS L i h = pathS L i j ++ (nodeS j (sibN j i) L ++ z) := by
  intro h
  induction h with
  | zero => intro j hj; omega
  | succ h ih =>
    intro j hj
    by_cases e : j = h
    · subst e
      exact ⟨[], by rw [pathS_succ, List.append_nil]⟩
    · obtain ⟨z, hz⟩ := ih j (by omega)
      exact ⟨z ++ nodeS h (sibN h i) L, by rw [pathS_succ, hz]; simp⟩
theorem rd_part {V : World} {B : Nat} {A : Option Addr} {l a m z : List UInt8} (h : Rd V B A (ubs l)) (e : l = a ++ (m ++ z)) (hm : m ≠ []) : ∃ g o, A = some ⟨g, o, none⟩ ∧ V.rangeAt g (o + a.length) (ubs m) := by
  subst e
  obtain ⟨g, o, rfl, hg, hc⟩ := h (by
    intro e
    have := congrArg List.length e
    rw [ubs_length] at this
    cases m with
    | nil => exact hm rfl
    | cons _ _ => simp at this)
  refine ⟨g, o, rfl, fun j u hu => ?_⟩
  have := hc (a.length + j) u (by
    rw [ubs_append, ubs_append, List.getElem?_append_right (by rw [ubs_length]; omega), ubs_length, Nat.add_sub_cancel_left, List.getElem?_append_left (List.getElem?_eq_some_iff.1 hu).1]
    exact hu)
  rwa [← Nat.add_assoc] at this
theorem pathS_len (L : List (Nat × List UInt8)) (ho : okL L) (i : Nat) : ∀ k, (pathS L i k).length = 32 * k := by
  intro k
  induction k with
  | zero => unfold pathS; rfl
  | succ k ih => rw [pathS_succ, List.length_append, ih, nodeS_length _ _ _ ho]; omega
set_option maxRecDepth 100000 in
set_option maxHeartbeats 8000000 in
theorem treePaths_large {Pt : PtT} {w : World} (t : T9c Pt w) (h : Int) (n : Nat) (A : Option Addr) (c i : Nat) (hn : 25 < n) :
    Calls Tryd.prog 6 #[.int .i64 h, .slice A n c, .int .u64 (i : Int)] w fun r w' => r = .returned (.bool true) ∧ Below w.heap.size w w' := by
  have HAL := hid (alive9_any t)
  have HBW := hid (Below.refl w.heap.size w)
  have c0 : decide (25 < (n : Int)) = true := by simp; omega
  have c0n : decide (25 < n) = true := by simpa using hn
  clear hn t
  go_enter Tryd.func6, Tryd.ntmps6
  go_wp2_with (first
    | (go_at_call 12; refine (HAL.out w HBW.out).mono ?_; rintro r1 w1 ⟨rfl, hb1⟩; have B1 := hid hb1; clear hb1))
  go_ret
  exact ⟨rfl, B1.out⟩
set_option maxRecDepth 100000 in
set_option maxHeartbeats 8000000 in
theorem treePaths_range {Pt : PtT} {w : World} (t : T9c Pt w) (h : Int) (n : Nat) (A : Option Addr) (c i : Nat) (hn : n ≤ 25) (hh : h < 0 ∨ 32 < h) :
    Calls Tryd.prog 6 #[.int .i64 h, .slice A n c, .int .u64 (i : Int)] w fun r w' => r = .returned (.bool true) ∧ Below w.heap.size w w' := by
  have HAL := hid (alive9_any t)
  have HBW := hid (Below.refl w.heap.size w)
  have HN := hid (fun (V : World) (q : Below w.heap.size w V) => show Calls Tryd.prog 30 #[.int .i64 h] V (fun r W' => r = .returned (.tuple #[.pointer none, .iface 47 (.int .i64 1)]) ∧ Below V.heap.size V W') from t.newNo V h q hh)
  have c0 : decide (25 < (n : Int)) = false := by simp; omega
  have c0n : decide (25 < n) = false := by simp; omega
  clear hn t hh
  go_enter Tryd.func6, Tryd.ntmps6
  go_wp2_with (first
    | (go_at_call 12; refine (HAL.out w HBW.out).mono ?_; rintro r1 w1 ⟨rfl, hb1⟩; have B1 := hid hb1; clear hb1)
    | (go_at_call 30; with_reducible (refine (HN.out w1 B1.out).mono ?_); rintro r2 w2 ⟨rfl, hb2⟩; have B2 := hid (B1.out.trans (hb2.mono B1.out.size)); clear hb2)
    | (go_at_call 30; with_reducible (refine (HN.out w2 B2.out).mono ?_); rintro r3 w3 ⟨rfl, hb3⟩; have B3 := hid (B2.out.trans (hb3.mono B2.out.size)); clear hb3))
  go_ret
  exact ⟨rfl, B3.out⟩
set_option maxRecDepth 100000 in
set_option maxHeartbeats 8000000 in
theorem treePaths_ok {Pt : PtT} {w : World} (t : T9c Pt w) (hJ : JoinC w) (h : Int) (sc : List Act9) (A : Option Addr) (c : Nat) (hsc : Av w w.heap.size A sc) (ho : okA sc) (i : Nat) (hi : i < 18446744073709551616) (hl : sc.length ≤ 25) (hh : 0 ≤ h ∧ h ≤ 32) :
    Calls Tryd.prog 6 #[.int .i64 h, .slice A sc.length c, .int .u64 (i : Int)] w fun r w' => r = .returned (.bool true) ∧ Below w.heap.size w w' := by
  obtain ⟨k, rfl⟩ : ∃ k : Nat, h = (k : Int) := ⟨h.toNat, by omega⟩
  have hk : k ≤ 32 := by omega
  have HTT := hid t
  have HAL := hid (alive9_any t)
  have HBW := hid (Below.refl w.heap.size w)
  have HN := hid (fun (V : World) (q : Below w.heap.size w V) => show Calls Tryd.prog 30 #[.int .i64 (k : Int)] V (fun r W' => ∃ S b, r = .returned (.tuple #[.pointer (some ⟨b, 0, none⟩), .nilIface]) ∧ Pt S W' b k [] ∧ (∀ k, S k → V.heap.size ≤ k) ∧ Below V.heap.size V W') from t.newOk V k q hk)
  have HSC := hid (fun (V : World) (q : Below w.heap.size w V) => (show Av V w.heap.size A sc from hsc.below q))
  have HOA := hid ho
  have HKK := hid hk
  have HLL := hid hl
  have HII := hid hi
  have HJN := hid hJ
  have HGD := hid (Gd.sets hk ho)
  have HLE := hid (fun j hj => sets9_le k sc j hj)
  have HBS := hid (back_sets hk ho)
  have HAH := hid (fun (o : Oper) (a : Go.Act) (W : World) (h : o.op = .alloc 35) => run_alloc_of (o := o) (a := a) (W := W) _ h _ zeroH8)
  have HNL2 := hid n32_length
  obtain ⟨m, hm⟩ : ∃ m, m = n32 := ⟨_, rfl⟩
  have HME := hid hm
  rw [← hm] at HAH HNL2
  obtain ⟨n, hn⟩ : ∃ n, n = sc.length := ⟨_, rfl⟩
  have HLN := hid hn
  have c0 : decide (25 < (n : Int)) = false := by simp; omega
  have c0n : decide (25 < n) = false := by simp; omega
  rw [← hn]
  clear hk hl hi hJ ho hsc t hn hm hh
  go_enter Tryd.func6, Tryd.ntmps6
  go_wp2_with (first
    | (go_at_call 12; refine (HAL.out w HBW.out).mono ?_; rintro r1 w1 ⟨rfl, hb1⟩; have B1 := hid hb1; clear hb1)
    | (go_at_call 30; with_reducible (refine (HN.out w1 B1.out).mono ?_); rintro r2 w2 ⟨S1, b1, rfl, p1, f1, hb2⟩; have P1 := hid p1; have F1 := hid f1; have B2 := hid (B1.out.trans (hb2.mono B1.out.size)); clear p1 f1 hb2)
    | (go_at_call 30; with_reducible (refine (HN.out w2 B2.out).mono ?_); rintro r3 w3 ⟨S2, b2, rfl, p2, f2, hb3⟩; have P2 := hid p2; have F2 := hid f2; have B3 := hid (B2.out.trans (hb3.mono B2.out.size)); have P1b := hid (HTT.out.new P1.out hb3); have I1 := hid (fun k hk => (HTT.out.inn P1.out k hk).2); clear p2 f2 hb3)
    | (refine wpList_valW (by rfl) (run_mkMap rfl) ?_))
  have K0 := hid (show PaW Pt w S1 S2 b1 b2 k w3.heap.size 0 [] [] (fun _ => none) (w3.alloc (.map #[] 0)) from by
    have hb : Below w3.heap.size w3 (w3.alloc (.map #[] 0)) := (Below.refl _ _).alloc (Nat.le_refl _) _
    refine ⟨HTT.out.new P1b.out hb, HTT.out.new P2.out hb, by rw [lsF_none]; exact Hmap.made _ _, fun j h1 h2 => ?_, fun h1 => ?_, fun h1 => ?_, B3.out.size, B3.out.trans (hb.mono B3.out.size)⟩
    · have := I1.out j h1; have := F2.out j h2; omega
    · have := (HTT.out.inn P1b.out _ h1).2; omega
    · have := (HTT.out.inn P2.out _ h1).2; omega)
  generalize (w3.alloc (.map #[] 0)) = w4 at K0 ⊢
  generalize w3.heap.size = M at K0 ⊢
  clear P1 P1b P2 F1 F2 I1 B1 B2 B3
  go_loopw [55] (fun v wr => ∃ (j : Nat) (S1 : Nat → Prop), j ≤ n ∧ v = .int .i64 (j : Int) ∧ PaW Pt w S1 S2 b1 b2 k M j (sets9 k (sc.take j)) [] (lastS k (sc.take j)) wr) (fun v _ => n - (intOf v).toNat)
  case atStart => exact ⟨0, S1, by omega, rfl, by rw [sets9_zero, lastS_zero]; exact K0.out⟩
  case round =>
    clear K0 S1
    obtain ⟨j, S1, hj, rfl, hX⟩ := hrel
    by_cases hlt : j < n
    · have hd : decide ((j : Int) < (n : Int)) = true := by simp; omega
      have hjl : j < sc.length := by rw [← HLN.out]; exact hlt
      obtain ⟨a, ha⟩ : ∃ a, a = sc[j] := ⟨_, rfl⟩
      obtain ⟨q, o, eA, hq, hra⟩ := (HSC.out wr hX.below).act HOA.out hjl
      rw [← ha] at hra
      have hoa : a.1 < 18446744073709551616 ∧ a.2.1.length = 32 := by rw [ha]; exact HOA.out.get hjl
      obtain ⟨x, hx⟩ : ∃ x, x = o + j * 34 := ⟨_, rfl⟩
      have hra' : wr.rangeAt q x (actV a) := by rw [hx, show o + j * 34 = o + 34 * j by omega]; exact hra
      have hnx := sets9_next k sc j hjl
      have hlx := lastS_next k sc j hjl
      rw [← ha] at hnx hlx
      have HLD := hid (show (sets9 k (sc.take j)).length ≤ 1000 by have := HLE.out j (by omega); have := HLL.out; omega)
      have HMN := hid (show j < maxLen by have := HLL.out; have := HLN.out; unfold maxLen; omega)
      obtain ⟨j1, hj1⟩ : ∃ m, m = j + 1 := ⟨_, rfl⟩
      rw [← hj1] at hnx hlx
      have HJ1 := hid hj1
      have HJL := hid (show j1 ≤ n by omega)
      have HMS := hid (show n - j1 < n - j by omega)
      have e2 : (j : Int) + 1 = (j1 : Int) := by omega
      have ew : IntKind.i64.wrap (j1 : Int) = (j1 : Int) := by rw [IntKind.wrap_i64] <;> have := HLL.out <;> have := HLN.out <;> omega
      have ik : (j : Int) < (n : Int) := by omega
      have e3 : o + j * 34 = x := hx.symm
      generalize sets9 k (sc.take j) = LD at hnx HLD hX
      generalize lastS k (sc.take j) = FD at hlx hX
      have HX := hid hX
      have HRA := hid hra'
      have HAL2 := hid hoa.2
      have HAI := hid hoa.1
      have HAA := hid (fun (o : Oper) (a : Go.Act) (W : World) (h : o.op = .alloc 37) => run_alloc_of (o := o) (a := a) (W := W) _ h _ zeroAc)
      subst eA
      clear hjl ha hq hra hoa hra' hx hj1 hX hlt hj
      cases hb : hasB k 0 a.1 with
      | false =>
        have HBB := hid hb
        rw [hb] at hnx
        rw [if_neg (by simp)] at hnx
        have hl2 : lastN k FD a = FD := by unfold lastN; rw [hb]; rfl
        rw [hl2] at hlx
        have HST := hid (fun (V : World) (S : Nat → Prop) (p : Pt S V b1 k LD) (q : Below w.heap.size w V) => show Calls Tryd.prog 31 #[.pointer (some ⟨b1, 0, none⟩), .int .u64 (a.1 : Int), .agg (ubs a.2.1).toArray] V (fun r W' => r = .returned (.iface 47 (.int .i64 1)) ∧ ∃ S', Pt S' W' b1 k LD ∧ (∀ k, S' k → S k ∨ V.heap.size ≤ k) ∧ Fr S V W') from by
          have := HTT.out.setOk a.1 a.2.1 q p HLD.out HAI.out HAL2.out
          rw [hb] at this
          exact this)
        have HNX := hid hnx
        have HLX := hid hlx
        clear hb hnx hlx hl2
        go_wp2_with (first
          | (refine wpList_valW (by rfl) (run_loadAc (.tmp 57) rfl q x rfl a HRA.out HAL2.out) ?_)
          | (refine Great.wpList_allocTo rfl _ rfl _ _ (HAA.out _ _ _ rfl) ?_)
          | (refine wpList_store_row rfl _ (.tmp 13) (.tmp 58) rfl wr.heap.size (actV a).toArray rfl rfl 37 (actV (0, n32, false)).toArray (heap_alloc_new _ _) (sizeAc_of HAL2.out) ?ya2 (actV_one _) ?yb2; rotate_right; have hb8 : Below wr.heap.size wr ((wr.alloc (.cells (actV (0, n32, false)).toArray 37)).setRow wr.heap.size (actV a).toArray) := below_setRow ((Below.refl _ _).alloc (Nat.le_refl _) _) (Nat.le_refl _) _; have A8 := hid (show At ((wr.alloc (.cells (actV (0, n32, false)).toArray 37)).setRow wr.heap.size (actV a).toArray) wr.heap.size (actV a).toArray 37 from setRow_heap _ _ _ _ _ _ (At.new wr _ _)); have X8 := hid (HX.out.new HTT.out hb8); have c80 := at_act0 A8.out; have N8 := hid (fun h1 => Nat.lt_irrefl _ (HTT.out.inn HX.out.t wr.heap.size h1).2); clear hb8; generalize ((wr.alloc (.cells (actV (0, n32, false)).toArray 37)).setRow wr.heap.size (actV a).toArray) = w8 at X8 A8 c80 ⊢; generalize wr.heap.size = Q at A8 c80 N8 ⊢)
          | (refine wpList_valW (by rfl) (run_loadH (.tmp 62) rfl Q 1 rfl a.2.1 (at_act1 A8.out) HAL2.out) ?_)
          | (go_at_call 31; refine (HST.out w8 S1 X8.out.t X8.out.below).mono ?_; rintro r9 w9 ⟨rfl, S9, p9, f9, fr9⟩; have X9 := hid (X8.out.set1 HTT.out p9 f9 fr9); have A9 := hid (show At w9 Q (actV a).toArray 37 from (fr9.block Q A8.out.lt N8.out).trans A8.out); have c90 := at_act0 A9.out; clear p9 f9 fr9 c80))
        case ya2 => rw [List.size_toArray, List.size_toArray, actV_length HAL2.out, actV_length (a := (0, n32, false)) n32_length]
        go_roundw
        case rel => exact ⟨j1, S9, HJL.out, rfl, by rw [HNX.out, HLX.out]; exact X9.out.mono (by have := HJ1.out; omega)⟩
        case measure =>
          show n - ((j1 : Int)).toNat < n - (j : Int).toNat
          rw [Int.toNat_natCast, Int.toNat_natCast]
          exact HMS.out
      | true =>
        have HBB := hid hb
        rw [hb] at hnx
        rw [if_pos rfl] at hnx
        have HST := hid (fun (V : World) (S : Nat → Prop) (p : Pt S V b1 k LD) (q : Below w.heap.size w V) => show Calls Tryd.prog 31 #[.pointer (some ⟨b1, 0, none⟩), .int .u64 (a.1 : Int), .agg (ubs a.2.1).toArray] V (fun r W' => r = .returned .nilIface ∧ ∃ S', Pt S' W' b1 k (setT a.1 a.2.1 LD) ∧ (∀ k, S' k → S k ∨ V.heap.size ≤ k) ∧ Fr S V W') from by
          have := HTT.out.setOk a.1 a.2.1 q p HLD.out HAI.out HAL2.out
          rw [hb] at this
          exact this)
        have HNX := hid hnx
        have HLX := hid hlx
        clear hb hnx hlx
        go_wp2_with (first
          | (refine wpList_valW (by rfl) (run_loadAc (.tmp 57) rfl q x rfl a HRA.out HAL2.out) ?_)
          | (refine Great.wpList_allocTo rfl _ rfl _ _ (HAA.out _ _ _ rfl) ?_)
          | (refine wpList_store_row rfl _ (.tmp 13) (.tmp 58) rfl wr.heap.size (actV a).toArray rfl rfl 37 (actV (0, n32, false)).toArray (heap_alloc_new _ _) (sizeAc_of HAL2.out) ?ya1 (actV_one _) ?yb1; rotate_right; have hb8 : Below wr.heap.size wr ((wr.alloc (.cells (actV (0, n32, false)).toArray 37)).setRow wr.heap.size (actV a).toArray) := below_setRow ((Below.refl _ _).alloc (Nat.le_refl _) _) (Nat.le_refl _) _; have A8 := hid (show At ((wr.alloc (.cells (actV (0, n32, false)).toArray 37)).setRow wr.heap.size (actV a).toArray) wr.heap.size (actV a).toArray 37 from setRow_heap _ _ _ _ _ _ (At.new wr _ _)); have X8 := hid (HX.out.new HTT.out hb8); have c80 := at_act0 A8.out; have N8 := hid (fun h1 => Nat.lt_irrefl _ (HTT.out.inn HX.out.t wr.heap.size h1).2); clear hb8; generalize ((wr.alloc (.cells (actV (0, n32, false)).toArray 37)).setRow wr.heap.size (actV a).toArray) = w8 at X8 A8 c80 ⊢; generalize wr.heap.size = Q at A8 c80 N8 ⊢)
          | (refine wpList_valW (by rfl) (run_loadH (.tmp 62) rfl Q 1 rfl a.2.1 (at_act1 A8.out) HAL2.out) ?_)
          | (go_at_call 31; refine (HST.out w8 S1 X8.out.t X8.out.below).mono ?_; rintro r9 w9 ⟨rfl, S9, p9, f9, fr9⟩; have X9 := hid (X8.out.set1 HTT.out p9 f9 fr9); have A9 := hid (show At w9 Q (actV a).toArray 37 from (fr9.block Q A8.out.lt N8.out).trans A8.out); have c90 := at_act0 A9.out; clear p9 f9 fr9 c80)
          | (refine wpList_valW (by rfl) (run_loadH (.tmp 69) rfl Q 1 rfl a.2.1 (at_act1 A9.out) HAL2.out) ?_)
          | (refine wpList_hmap_set rfl _ _ _ rfl rfl X9.out.m HMN.out a.1 a.2.1 rfl HAI.out rfl HAL2.out (lsF (lastN k FD a)) (lsF_same HBB.out) lsF_other ?_; intro w10 hm10 hg10; have X10 := hid (X9.out.put HTT.out hm10 hg10); clear hm10 hg10 c90))
        case ya1 => rw [List.size_toArray, List.size_toArray, actV_length HAL2.out, actV_length (a := (0, n32, false)) n32_length]
        go_roundw
        case rel => exact ⟨j1, S9, HJL.out, rfl, by rw [HNX.out, HLX.out]; exact by rw [HJ1.out]; exact X10.out⟩
        case measure =>
          show n - ((j1 : Int)).toNat < n - (j : Int).toNat
          rw [Int.toNat_natCast, Int.toNat_natCast]
          exact HMS.out
    · obtain rfl : j = n := by omega
      have hd : decide ((j : Int) < (j : Int)) = false := by simp
      have hfull : sc.take j = sc := List.take_of_length_le (by rw [← HLN.out]; exact Nat.le_refl _)
      rw [hfull] at hX
      have HX := hid hX
      clear hfull hX
      obtain ⟨L1, hL1⟩ : ∃ L, L = sets9 k sc := ⟨_, rfl⟩
      obtain ⟨f, hf⟩ : ∃ f, f = lastS k sc := ⟨_, rfl⟩
      have HSM := hid (fun (p : Nat) (x : List UInt8) (e : f p = some x) => show hasB k 0 p = true ∧ x.length = 32 from by
        rw [hf] at e
        exact ⟨(lastS_some HOA.out e).1, (lastS_some HOA.out e).2.1⟩)
      have HLL1 := hid (show L1.length ≤ 25 by
        rw [hL1]
        have := HLE.out sc.length (Nat.le_refl _)
        rw [List.take_length] at this
        have := HLL.out
        omega)
      have HBL := hid (fun y => show (back f (sc.drop y)).length ≤ 1000 from Nat.le_trans (back_le _ _) (by rw [List.length_drop]; have := HLL.out; omega))
      rw [← hL1, ← hf] at HX
      rw [← hL1, ← hf] at HBS
      rw [← hL1] at HGD
      obtain ⟨z, hz⟩ : ∃ z : Int, z = (j : Int) - 1 := ⟨_, rfl⟩
      have e1 : (j : Int) - 1 = z := hz.symm
      have ew : IntKind.i64.wrap z = z := by rw [IntKind.wrap_i64] <;> have := HLL.out <;> have := HLN.out <;> omega
      have HZ := hid hz
      clear hL1 hf hz
      go_wp2
      go_loopw [14] (fun v wr => ∃ (z : Int) (y : Nat) (S2 : Nat → Prop), y ≤ j ∧ z = (y : Int) - 1 ∧ v = .int .i64 z ∧ PaW Pt w S1 S2 b1 b2 k M j L1 (back f (sc.drop y)) f wr) (fun v _ => (intOf v + 1).toNat)
      case atStart => exact ⟨z, j, S2, Nat.le_refl _, HZ.out, rfl, by rw [HLN.out, back_end, ← HLN.out]; exact HX.out⟩
      case round =>
        clear HX ew e1 HZ
        obtain ⟨z, y, S2, hy, hz, rfl, hX⟩ := hrel
        by_cases h0 : y = 0
        · subst h0
          obtain rfl : z = -1 := by omega
          have hd2 : decide ((0 : Int) ≤ -1) = false := by decide
          rw [List.drop_zero, HBS.out] at hX
          have HX := hid hX
          clear hX hz hy
          obtain ⟨nr, hnr⟩ : ∃ x, x = nodeS k 0 L1 := ⟨_, rfl⟩
          have HRT := hid (fun (V : World) (q : Below w.heap.size w V) (S : Nat → Prop) (b : Nat) (p : Pt S V b k L1) => show Calls Tryd.prog 32 #[.pointer (some ⟨b, 0, none⟩)] V (fun r W' => r = .returned (.agg (ubs nr).toArray) ∧ Below V.heap.size V W') from by
            have := HTT.out.rootOk q p (by have := HLL1.out; omega)
            rwa [← hnr] at this)
          have HNR := hid (show nr.length = 32 by rw [hnr]; exact nodeS_length _ _ _ HGD.out.ok)
          have HNE := hid hnr
          clear hnr
          cases hB : hasB k 0 i with
          | false =>
            have HPA := hid (fun (V : World) (q : Below w.heap.size w V) (S : Nat → Prop) (b : Nat) (p : Pt S V b k L1) => show Calls Tryd.prog 22 #[.pointer (some ⟨b, 0, none⟩), .int .u64 (i : Int)] V (fun r W' => ∃ A9 c9, r = .returned (.tuple #[.slice A9 0 c9, .iface 47 (.int .i64 1)]) ∧ Below V.heap.size V W') from by
              have := HTT.out.pathOk i q p (by have := HLL1.out; omega) HII.out
              rw [hB] at this
              exact this.mono fun r W' ⟨A9, c9, e1, _, e3⟩ => ⟨A9, c9, e1, e3⟩)
            have HLF := hid (fun (V : World) (q : Below w.heap.size w V) (S : Nat → Prop) (b : Nat) (p : Pt S V b k L1) => show Calls Tryd.prog 23 #[.pointer (some ⟨b, 0, none⟩), .int .u64 (i : Int)] V (fun r W' => r = .returned (.tuple #[.agg (ubs m).toArray, .iface 47 (.int .i64 1)]) ∧ Below V.heap.size V W') from by
              have := HTT.out.leafOk i q p (by have := HLL1.out; omega) HII.out
              rw [hB] at this
              rw [HME.out]
              exact this)
            clear hB
            go_wp2_with (first
              | (go_at_call 32; with_reducible (refine (HRT.out wr HX.out.below S1 b1 HX.out.t).mono ?_); rintro ra wa ⟨rfl, hba⟩; have XA := hid (HX.out.new HTT.out hba); clear hba)
              | (go_at_call 32; with_reducible (refine (HRT.out wa XA.out.below S2 b2 XA.out.u).mono ?_); rintro rb wb ⟨rfl, hbb⟩; have XB := hid (XA.out.new HTT.out hbb); clear hbb)
              | (refine wpList_valW (by rfl) (run_neqH _ (.tmp 100) (.tmp 102) rfl nr nr HNR.out HNR.out rfl rfl false (by simp) _) ?_)
              | (go_at_call 22; refine (HPA.out wb XB.out.below S1 b1 XB.out.t).mono ?_; rintro rc wc ⟨A9, c9, rfl, hbc⟩; have XC := hid (XB.out.new HTT.out hbc); clear hbc)
              | (go_at_call 23; refine (HLF.out wc XC.out.below S1 b1 XC.out.t).mono ?_; rintro rd wd ⟨rfl, hbd⟩; have XD := hid (XC.out.new HTT.out hbd); clear hbd)
              | (refine Great.wpList_allocTo rfl _ rfl _ _ (HAH.out _ _ _ rfl) ?_)
              | (refine wpList_store_row rfl _ (.tmp 18) (.tmp 114) rfl wd.heap.size (ubs m).toArray rfl rfl 35 (ubs m).toArray (At.new _ _ _) (sizeH_of HNL2.out) (Eq.refl _) (ubs_all _) ?_; have hbx : Below wd.heap.size wd ((wd.alloc (.cells (ubs m).toArray 35)).setRow wd.heap.size (ubs m).toArray) := below_setRow ((Below.refl _ _).alloc (Nat.le_refl _) _) (Nat.le_refl _) _; have BE := hid hbx; have AE := hid (show At ((wd.alloc (.cells (ubs m).toArray 35)).setRow wd.heap.size (ubs m).toArray) wd.heap.size (ubs m).toArray 35 from setRow_heap _ _ _ _ _ _ (At.new wd (ubs m).toArray 35)); clear hbx; have XE := hid (XD.out.new HTT.out BE.out); generalize ((wd.alloc (.cells (ubs m).toArray 35)).setRow wd.heap.size (ubs m).toArray) = we at XE AE BE ⊢; generalize hGG : wd.heap.size = G at AE BE ⊢; clear AE BE hGG))
            go_ret
            exact ⟨rfl, XE.out.below⟩
          | true =>
            have HII2 := hid (show i < 9223372036854775808 by
              have h1 : i < 2 ^ k := by unfold hasB at hB; simpa using hB
              have := pow_le32 HKK.out
              omega)
            have HRO := hid (has_root hB)
            obtain ⟨ps, hps⟩ : ∃ x, x = pathS L1 i k := ⟨_, rfl⟩
            obtain ⟨lf, hlf⟩ : ∃ x, x = nodeS 0 i L1 := ⟨_, rfl⟩
            have HPA := hid (fun (V : World) (q : Below w.heap.size w V) (S : Nat → Prop) (b : Nat) (p : Pt S V b k L1) => show Calls Tryd.prog 22 #[.pointer (some ⟨b, 0, none⟩), .int .u64 (i : Int)] V (fun r W' => ∃ A9 c9, r = .returned (.tuple #[.slice A9 k c9, .nilIface]) ∧ Rd W' W'.heap.size A9 (ubs ps) ∧ Below V.heap.size V W') from by
              have := HTT.out.pathOk i q p (by have := HLL1.out; omega) HII.out
              rw [hB, if_pos rfl, if_pos rfl, ← hps] at this
              exact this)
            have HLF := hid (fun (V : World) (q : Below w.heap.size w V) (S : Nat → Prop) (b : Nat) (p : Pt S V b k L1) => show Calls Tryd.prog 23 #[.pointer (some ⟨b, 0, none⟩), .int .u64 (i : Int)] V (fun r W' => r = .returned (.tuple #[.agg (ubs lf).toArray, .nilIface]) ∧ Below V.heap.size V W') from by
              have := HTT.out.leafOk i q p (by have := HLL1.out; omega) HII.out
              rw [hB, if_pos rfl, ← hlf] at this
              exact this)
            have HLFL := hid (show lf.length = 32 by rw [hlf]; exact nodeS_length _ _ _ HGD.out.ok)
            have HLFE := hid hlf
            have HPT := hid (fun (y : Nat) (hy : y < k) => show ∃ z, ps = pathS L1 i y ++ (nodeS y (sibN y i) L1 ++ z) by rw [hps]; exact pathS_at L1 i k y hy)
            have HPL := hid (pathS_len L1 HGD.out.ok i)
            have HNL1 := hid (fun (y p : Nat) => show (nodeS y p L1).length = 32 from nodeS_length _ _ _ HGD.out.ok)
            have HCL := hid (fun (y : Nat) => climb_step (L := L1) y i HII2.out)
            clear hB hps hlf
            go_wp2_with (first
              | (go_at_call 32; with_reducible (refine (HRT.out wr HX.out.below S1 b1 HX.out.t).mono ?_); rintro ra wa ⟨rfl, hba⟩; have XA := hid (HX.out.new HTT.out hba); clear hba)
              | (go_at_call 32; with_reducible (refine (HRT.out wa XA.out.below S2 b2 XA.out.u).mono ?_); rintro rb wb ⟨rfl, hbb⟩; have XB := hid (XA.out.new HTT.out hbb); clear hbb)
              | (refine wpList_valW (by rfl) (run_neqH _ (.tmp 100) (.tmp 102) rfl nr nr HNR.out HNR.out rfl rfl false (by simp) _) ?_)
              | (go_at_call 22; refine (HPA.out wb XB.out.below S1 b1 XB.out.t).mono ?_; rintro rc wc ⟨A9, c9, rfl, hrc, hbc⟩; have XC := hid (XB.out.new HTT.out hbc); have RC := hid hrc; clear hrc hbc)
              | (go_at_call 23; refine (HLF.out wc XC.out.below S1 b1 XC.out.t).mono ?_; rintro rd wd ⟨rfl, hbd⟩; have XD := hid (XC.out.new HTT.out hbd); have RD := hid (show Rd wd wd.heap.size A9 (ubs ps) from (Rd.below RC.out hbd).mono hbd.size); clear hbd)
              | (refine Great.wpList_allocTo rfl _ rfl _ _ (HAH.out _ _ _ rfl) ?_)
              | (refine wpList_store_row rfl _ (.tmp 18) (.tmp 114) rfl wd.heap.size (ubs lf).toArray rfl rfl 35 (ubs m).toArray (At.new _ _ _) (sizeH_of HLFL.out) (by simp [ubs_length, HNL2.out, HLFL.out]) (ubs_all _) ?_; have hbx : Below wd.heap.size wd ((wd.alloc (.cells (ubs m).toArray 35)).setRow wd.heap.size (ubs lf).toArray) := below_setRow ((Below.refl _ _).alloc (Nat.le_refl _) _) (Nat.le_refl _) _; have BE := hid hbx; have AE := hid (show At ((wd.alloc (.cells (ubs m).toArray 35)).setRow wd.heap.size (ubs lf).toArray) wd.heap.size (ubs lf).toArray 35 from setRow_heap _ _ _ _ _ _ (At.new wd (ubs m).toArray 35)); clear hbx; have KE := hid (show PbW Pt w S1 b1 k wd.heap.size L1 A9 ps lf ((wd.alloc (.cells (ubs m).toArray 35)).setRow wd.heap.size (ubs lf).toArray) from ⟨HTT.out.new XD.out.t BE.out, (Rd.below RD.out BE.out).mono BE.out.size, AE.out, fun h1 => Nat.lt_irrefl _ (HTT.out.inn XD.out.t _ h1).2, fun hp q o e => (by obtain ⟨g', o', e', hg', _⟩ := RD.out (by intro e; exact hp (by unfold ubs at e; simpa using e)); rw [e] at e'; cases e'; omega), XD.out.below.size, XD.out.below.trans (BE.out.mono XD.out.below.size)⟩); generalize ((wd.alloc (.cells (ubs m).toArray 35)).setRow wd.heap.size (ubs lf).toArray) = we at KE AE BE ⊢; generalize hGG : wd.heap.size = G at AE BE KE ⊢; clear AE BE hGG))
            go_loopw [130] (fun v wr => ∃ y : Nat, y ≤ k ∧ v = .int .i64 (y : Int) ∧ PbW Pt w S1 b1 k G L1 A9 ps (nodeS y (i >>> y) L1) wr) (fun v _ => k - (intOf v).toNat)
            case atStart => exact ⟨0, by omega, rfl, by rw [show i >>> 0 = i from rfl, ← HLFE.out]; exact KE.out⟩
            case round =>
              clear KE
              obtain ⟨y, hy, rfl, hK⟩ := hrel
              by_cases hlt : y < k
              · have d1 : decide ((y : Int) < (k : Int)) = true := by simp; omega
                have d2 : (y : Int) < (k : Int) := by omega
                obtain ⟨z9, hz9⟩ := HPT.out y hlt
                obtain ⟨g9, o9, eA9, hr9⟩ := rd_part hK.r hz9 (fun e => by have := HNL1.out y (sibN y i); rw [e] at this; cases this)
                rw [HPL.out y] at hr9
                obtain ⟨x9, hx9⟩ : ∃ x, x = o9 + 32 * y := ⟨_, rfl⟩
                have e9 : o9 + y * 32 = x9 := by omega
                rw [← hx9] at hr9
                obtain ⟨y1, hy1⟩ : ∃ m, m = y + 1 := ⟨_, rfl⟩
                have e2 : (y : Int) + 1 = (y1 : Int) := by omega
                have ew : IntKind.i64.wrap (y1 : Int) = (y1 : Int) := by rw [IntKind.wrap_i64] <;> have := HKK.out <;> omega
                have HY1 := hid (show 1 ≤ y1 ∧ y1 ≤ k by omega)
                have HMS := hid (show k - y1 < k - y by omega)
                have hcl := HCL.out y
                rw [← hy1] at hcl
                have hs := shr_u64 33 i y .i64 (by have := HKK.out; omega)
                have HNB := hid (HNL1.out y (sibN y i))
                have HCU := hid (HNL1.out y (i >>> y))
                have HNX := hid (HNL1.out y1 (i >>> y1))
                generalize nodeS y (sibN y i) L1 = nb at hcl hr9 HNB
                generalize nodeS y (i >>> y) L1 = cur at hcl HCU hK
                generalize hnx : nodeS y1 (i >>> y1) L1 = nx at hcl HNX
                have HNXE := hid hnx
                generalize i >>> y = s at hs hcl
                have hm2 : ((s : Int)).tmod 2 = ((s % 2 : Nat) : Int) := by rw [Int.tmod_eq_emod_of_nonneg (by omega)]; omega
                obtain ⟨bq, hbq⟩ : ∃ b, b = s % 2 := ⟨_, rfl⟩
                rw [← hbq] at hm2 hcl
                have HR9 := hid hr9
                have HK := hid hK
                have HJN2 := hid (fun (V : World) (l r : List UInt8) (hl : l.length = 32) (hr : r.length = 32) (q : Below w.heap.size w V) => show Calls Tryd.prog 33 #[.int .i64 (y1 : Int), .agg (ubs l).toArray, .agg (ubs r).toArray] V (fun e W' => e = .returned (.tuple #[.agg (ubs (hashL (joinT y1 l r))).toArray, .nilIface]) ∧ Below V.heap.size V W') from by
                  have := HJN.out V (y1 : Int) l r q (by omega) (by have := HKK.out; have := HY1.out; omega) hl hr
                  have hb : htB (y1 : Int) = true := by unfold htB; simp; have := HKK.out; have := HY1.out; omega
                  rw [jnH, hb, if_pos rfl, Int.toNat_natCast] at this
                  exact this)
                have HCLH := hid hcl
                subst eA9
                clear hy1 hx9 hz9 hr9 hK hlt hy hnx hcl hbq
                go_wp2_with (first
                  | (refine wpList_valW (by rfl) (run_loadH (.tmp 133) rfl g9 x9 rfl nb HR9.out HNB.out) ?_)
                  | (refine Great.wpList_allocTo rfl _ rfl _ _ (HAH.out _ _ _ rfl) ?_)
                  | (refine wpList_store_row rfl _ (.tmp 20) (.tmp 134) rfl wr.heap.size (ubs nb).toArray rfl rfl 35 (ubs m).toArray (At.new _ _ _) (sizeH_of HNB.out) (by simp [ubs_length, HNL2.out, HNB.out]) (ubs_all _) ?_; have hbx : Below wr.heap.size wr ((wr.alloc (.cells (ubs m).toArray 35)).setRow wr.heap.size (ubs nb).toArray) := below_setRow ((Below.refl _ _).alloc (Nat.le_refl _) _) (Nat.le_refl _) _; have B1 := hid hbx; have A1 := hid (show At ((wr.alloc (.cells (ubs m).toArray 35)).setRow wr.heap.size (ubs nb).toArray) wr.heap.size (ubs nb).toArray 35 from setRow_heap _ _ _ _ _ _ (At.new wr (ubs m).toArray 35)); clear hbx; have K1 := hid (HK.out.new HTT.out B1.out); generalize ((wr.alloc (.cells (ubs m).toArray 35)).setRow wr.heap.size (ubs nb).toArray) = w1 at K1 A1 B1 ⊢; generalize hGGb : wr.heap.size = Gb at A1 ⊢))
                have KD := hid (K1.out.drew HTT.out)
                have AD := hid (show At w1.drew Gb (ubs nb).toArray 35 from A1.out)
                have BDW := hid (show Below wr.heap.size wr w1.drew from B1.out.drew)
                obtain ⟨V0, hV0⟩ : ∃ V, V = w1.drew := ⟨_, rfl⟩
                have HVD := hid hV0.symm
                rw [← hV0] at KD AD BDW
                clear K1 A1 B1 hV0
                obtain ⟨n0, hn0⟩ : ∃ n, n = V0.heap.size := ⟨_, rfl⟩
                have HN0 := hid hn0
                clear hn0
                refine wp_region_two 135 136 21 22 (.agg (ubs cur).toArray) (.agg (ubs nb).toArray) (fun Gl Gr W => Gl ≠ Gr ∧ At W Gl (ubs cur).toArray 35 ∧ At W Gr (ubs nb).toArray 35 ∧ Below n0 V0 W ∧ n0 ≤ Gl ∧ n0 ≤ Gr) ?_ ?_
                · have SS := hid (fun (U : World) (q : Below V0.heap.size V0 U) => show U.rangeAt G 0 (ubs cur) ∧ U.rangeAt Gb 0 (ubs nb) from ⟨range_whole (KD.out.g.below q KD.out.g.lt), range_whole (AD.out.below q AD.out.lt)⟩)
                  have SD := hid (SS.out V0 (Below.refl _ _))
                  have BD := hid (Below.refl V0.heap.size V0)
                  refine wp_region_upto_at (fun W => W.rangeAt G 0 (ubs cur) ∧ W.rangeAt Gb 0 (ubs nb)) 6 6 HVD.out (by kernel_rfl) (by kernel_rfl) ?_
                  refine wpUpto_takeL (i := 0) (v := .agg (ubs cur).toArray) rfl rfl (by decide +kernel) (by decide +kernel) (by decide +kernel) (by decide +kernel) (by decide) (fun _ _ _ ⟨_, _, h, _⟩ => by cases h) (Or.inl ⟨by rfl, ?_⟩) SD.out ?_
                  · (intro W hSW; exact run_loadH (.tmp 18) rfl G 0 rfl cur hSW.1 HCU.out)
                  simp only [List.set_cons_succ, List.set_cons_zero]
                  refine wpUpto_takeL (i := 1) (v := .agg (ubs nb).toArray) rfl rfl (by decide +kernel) (by decide +kernel) (by decide +kernel) (by decide +kernel) (by decide) (fun _ _ _ ⟨_, _, h, _⟩ => by cases h) (Or.inl ⟨by rfl, ?_⟩) SD.out ?_
                  · (intro W hSW; exact run_loadH (.tmp 20) rfl Gb 0 rfl nb hSW.2 HNB.out)
                  simp only [List.set_cons_succ, List.set_cons_zero]
                  refine wpUpto_two (i := 2) (j := 3) rfl rfl (by decide +kernel) rfl rfl ?_ ?_
                  · intro Q0 hQ0
                    refine wp_val (HAH.out _ _ _ rfl) ?_
                    have b1x := hid (BD.out.alloc BD.out.size (.cells (ubs m).toArray 35))
                    have Agl := hid (show At (V0.alloc (.cells (ubs m).toArray 35)) V0.heap.size (ubs m).toArray 35 from At.new _ _ _)
                    have Lgl := hid (show V0.heap.size ≤ V0.heap.size from BD.out.size)
                    refine hQ0.out _ _ (fun _ => SS.out _ b1x.out) ?_
                    clear hQ0 Q0
                    simp only [Act.put, List.setIfInBounds_toArray]
                    generalize (V0.alloc (.cells (ubs m).toArray 35)) = W1 at b1x Agl ⊢
                    obtain ⟨gl, hg⟩ : ∃ g, g = V0.heap.size := ⟨_, rfl⟩
                    replace Lgl := hid (show V0.heap.size ≤ gl from Nat.le_of_eq hg.symm)
                    rw [← hg] at Agl ⊢
                    clear hg
                    refine wpUpto_one (i := 3) rfl (by decide +kernel) rfl ?_
                    intro Q0 hQ0
                    refine wp_val (HAH.out _ _ _ rfl) ?_
                    have b2x := hid (b1x.out.alloc b1x.out.size (.cells (ubs m).toArray 35))
                    have Agr := hid (show At (W1.alloc (.cells (ubs m).toArray 35)) W1.heap.size (ubs m).toArray 35 from At.new _ _ _)
                    have Lgr := hid (show V0.heap.size ≤ W1.heap.size from b1x.out.size)
                    have Agl2 := hid (Agl.out.alloc (.cells (ubs m).toArray 35))
                    have NEx := hid (show gl ≠ W1.heap.size from Nat.ne_of_lt Agl.out.lt)
                    refine hQ0.out _ _ (fun _ => SS.out _ b2x.out) ?_
                    clear hQ0 Q0
                    simp only [Act.put]
                    generalize (W1.alloc (.cells (ubs m).toArray 35)) = W2 at b2x Agr Agl2 ⊢
                    generalize W1.heap.size = gr at Agr Lgr NEx ⊢
                    refine wpUpto_one (i := 4) rfl (by decide +kernel) rfl ?_
                    intro Q0 hQ0
                    refine wp_unit (run_store_row 35 (.tmp 21) (.tmp 135) rfl gl (ubs cur).toArray rfl rfl 35 (ubs m).toArray Agl2.out (sizeH_of HCU.out) (by simp [ubs_length, HNL2.out, HCU.out]) (ubs_all _)) ?_
                    have b3x := hid (below_setRow b2x.out Lgl.out (ubs cur).toArray)
                    have Agl3 := hid (show At (W2.setRow gl (ubs cur).toArray) gl (ubs cur).toArray 35 from setRow_heap _ _ _ _ _ _ Agl2.out)
                    have Agr3 := hid (show At (W2.setRow gl (ubs cur).toArray) gr (ubs m).toArray 35 from At.setRow_far Agr.out (Ne.symm NEx.out))
                    refine hQ0.out _ _ (fun _ => SS.out _ b3x.out) ?_
                    clear hQ0 Q0
                    simp only [Act.put]
                    generalize (W2.setRow gl (ubs cur).toArray) = W3 at b3x Agl3 Agr3 ⊢
                    refine wpUpto_one (i := 5) rfl (by decide +kernel) rfl ?_
                    intro Q0 hQ0
                    refine wp_unit (run_store_row 35 (.tmp 22) (.tmp 136) rfl gr (ubs nb).toArray rfl rfl 35 (ubs m).toArray Agr3.out (sizeH_of HNB.out) (by simp [ubs_length, HNL2.out, HNB.out]) (ubs_all _)) ?_
                    have b4x := hid (below_setRow b3x.out Lgr.out (ubs nb).toArray)
                    have Agr4 := hid (show At (W3.setRow gr (ubs nb).toArray) gr (ubs nb).toArray 35 from setRow_heap _ _ _ _ _ _ Agr3.out)
                    have Agl4 := hid (show At (W3.setRow gr (ubs nb).toArray) gl (ubs cur).toArray 35 from At.setRow_far Agl3.out NEx.out)
                    refine hQ0.out _ _ (fun _ => SS.out _ b4x.out) ?_
                    clear hQ0 Q0
                    simp only [Act.put]
                    generalize (W3.setRow gr (ubs nb).toArray) = W4 at b4x Agr4 Agl4 ⊢
                    refine wpUpto_done (by decide +kernel) ?_ _
                    exact ⟨gl, gr, rfl, rfl, NEx.out, Agl4.out, Agr4.out, by rw [HN0.out]; exact b4x.out, by rw [HN0.out]; exact Lgl.out, by rw [HN0.out]; exact Lgr.out⟩
                  · intro Q0 hQ0
                    refine wp_val (HAH.out _ _ _ rfl) ?_
                    have b1x := hid (BD.out.alloc BD.out.size (.cells (ubs m).toArray 35))
                    have Agr := hid (show At (V0.alloc (.cells (ubs m).toArray 35)) V0.heap.size (ubs m).toArray 35 from At.new _ _ _)
                    have Lgr := hid (show V0.heap.size ≤ V0.heap.size from BD.out.size)
                    refine hQ0.out _ _ (fun _ => SS.out _ b1x.out) ?_
                    clear hQ0 Q0
                    simp only [Act.put, List.setIfInBounds_toArray]
                    generalize (V0.alloc (.cells (ubs m).toArray 35)) = W1 at b1x Agr ⊢
                    obtain ⟨gr, hg⟩ : ∃ g, g = V0.heap.size := ⟨_, rfl⟩
                    replace Lgr := hid (show V0.heap.size ≤ gr from Nat.le_of_eq hg.symm)
                    rw [← hg] at Agr ⊢
                    clear hg
                    refine wpUpto_one (i := 2) rfl (by decide +kernel) rfl ?_
                    intro Q0 hQ0
                    refine wp_val (HAH.out _ _ _ rfl) ?_
                    have b2x := hid (b1x.out.alloc b1x.out.size (.cells (ubs m).toArray 35))
                    have Agl := hid (show At (W1.alloc (.cells (ubs m).toArray 35)) W1.heap.size (ubs m).toArray 35 from At.new _ _ _)
                    have Lgl := hid (show V0.heap.size ≤ W1.heap.size from b1x.out.size)
                    have Agr2 := hid (Agr.out.alloc (.cells (ubs m).toArray 35))
                    have NEx := hid (show gr ≠ W1.heap.size from Nat.ne_of_lt Agr.out.lt)
                    refine hQ0.out _ _ (fun _ => SS.out _ b2x.out) ?_
                    clear hQ0 Q0
                    simp only [Act.put]
                    generalize (W1.alloc (.cells (ubs m).toArray 35)) = W2 at b2x Agl Agr2 ⊢
                    generalize W1.heap.size = gl at Agl Lgl NEx ⊢
                    refine wpUpto_one (i := 4) rfl (by decide +kernel) rfl ?_
                    intro Q0 hQ0
                    refine wp_unit (run_store_row 35 (.tmp 21) (.tmp 135) rfl gl (ubs cur).toArray rfl rfl 35 (ubs m).toArray Agl.out (sizeH_of HCU.out) (by simp [ubs_length, HNL2.out, HCU.out]) (ubs_all _)) ?_
                    have b3x := hid (below_setRow b2x.out Lgl.out (ubs cur).toArray)
                    have Agl3 := hid (show At (W2.setRow gl (ubs cur).toArray) gl (ubs cur).toArray 35 from setRow_heap _ _ _ _ _ _ Agl.out)
                    have Agr3 := hid (show At (W2.setRow gl (ubs cur).toArray) gr (ubs m).toArray 35 from At.setRow_far Agr2.out NEx.out)
                    refine hQ0.out _ _ (fun _ => SS.out _ b3x.out) ?_
                    clear hQ0 Q0
                    simp only [Act.put]
                    generalize (W2.setRow gl (ubs cur).toArray) = W3 at b3x Agl3 Agr3 ⊢
                    refine wpUpto_one (i := 5) rfl (by decide +kernel) rfl ?_
                    intro Q0 hQ0
                    refine wp_unit (run_store_row 35 (.tmp 22) (.tmp 136) rfl gr (ubs nb).toArray rfl rfl 35 (ubs m).toArray Agr3.out (sizeH_of HNB.out) (by simp [ubs_length, HNL2.out, HNB.out]) (ubs_all _)) ?_
                    have b4x := hid (below_setRow b3x.out Lgr.out (ubs nb).toArray)
                    have Agr4 := hid (show At (W3.setRow gr (ubs nb).toArray) gr (ubs nb).toArray 35 from setRow_heap _ _ _ _ _ _ Agr3.out)
                    have Agl4 := hid (show At (W3.setRow gr (ubs nb).toArray) gl (ubs cur).toArray 35 from At.setRow_far Agl3.out (Ne.symm NEx.out))
                    refine hQ0.out _ _ (fun _ => SS.out _ b4x.out) ?_
                    clear hQ0 Q0
                    simp only [Act.put]
                    generalize (W3.setRow gr (ubs nb).toArray) = W4 at b4x Agr4 Agl4 ⊢
                    refine wpUpto_done (by decide +kernel) ?_ _
                    exact ⟨gl, gr, rfl, rfl, (Ne.symm NEx.out), Agl4.out, Agr4.out, by rw [HN0.out]; exact b4x.out, by rw [HN0.out]; exact Lgl.out, by rw [HN0.out]; exact Lgr.out⟩
                · intro Gl Gr W hR
                  simp only [List.set_cons_succ, List.set_cons_zero]
                  obtain ⟨hne, al, ar, bw, lo2, lo3⟩ := hR
                  rw [HN0.out] at bw lo2 lo3
                  have hlb : Gb < V0.heap.size := AD.out.lt
                  have hbl : wr.heap.size ≤ V0.heap.size := BDW.out.size
                  have NE := hid hne
                  have LO := hid (show V0.heap.size ≤ Gl ∧ V0.heap.size ≤ Gr from ⟨lo2, lo3⟩)
                  have LB := hid hlb
                  have LW := hid hbl
                  have LG := hid (show G < wr.heap.size from HK.out.g.lt)
                  have AL2 := hid al
                  have AR2 := hid ar
                  have AB2 := hid (show At W Gb (ubs nb).toArray 35 from AD.out.below bw hlb)
                  have BW2 := hid (show Below wr.heap.size wr W from BDW.out.trans (bw.mono hbl))
                  clear hne al ar bw lo2 lo3 hlb hbl KD AD BDW
                  by_cases hbq : bq = 1
                  · have f0 : decide ((bq : Int) = 1) = true := by simp; omega
                    have f0b : ((bq : Int) == 1) = true := by simp; omega
                    have f0n : decide (bq = 1) = true := by simp; omega
                    have HNXQ := hid (show nx = hashL (joinT y1 nb cur) by rw [HCLH.out, if_pos hbq])
                    clear hbq
                    go_simp
                    go_wp2
                    have AL3 := hid (show At W.drew Gl (ubs cur).toArray 35 from AL2.out)
                    have AR3 := hid (show At W.drew Gr (ubs nb).toArray 35 from AR2.out)
                    have AB3 := hid (show At W.drew Gb (ubs nb).toArray 35 from AB2.out)
                    have BW3 := hid (show Below wr.heap.size wr W.drew from BW2.out.drew)
                    have K3 := hid (HK.out.new HTT.out BW3.out)
                    refine wp_region_upto (fun U => U.rangeAt Gb 0 (ubs nb) ∧ U.rangeAt G 0 (ubs cur)) 4 4 (by kernel_rfl) (by kernel_rfl) ?_
                    clear AL2 AR2 AB2 BW2
                    generalize W.drew = V1 at AL3 AR3 AB3 BW3 K3 ⊢
                    have SD := hid (show V1.rangeAt Gb 0 (ubs nb) ∧ V1.rangeAt G 0 (ubs cur) from ⟨range_whole AB3.out, range_whole K3.out.g⟩)
                    refine wpUpto_takeL (i := 0) (v := .agg (ubs nb).toArray) rfl rfl (by decide +kernel) (by decide +kernel) (by decide +kernel) (by decide +kernel) (by decide) (fun _ _ _ h => h) (Or.inl ⟨by rfl, ?_⟩) SD.out ?_
                    · (intro W hSW; exact run_loadH (.tmp 20) rfl Gb 0 rfl nb hSW.1 HNB.out)
                    simp only [List.set_cons_succ, List.set_cons_zero]
                    refine wpUpto_takeL (i := 1) (v := .agg (ubs cur).toArray) rfl rfl (by decide +kernel) (by decide +kernel) (by decide +kernel) (by decide +kernel) (by decide) (fun _ _ _ h => h) (Or.inl ⟨by rfl, ?_⟩) SD.out ?_
                    · (intro W hSW; exact run_loadH (.tmp 18) rfl G 0 rfl cur hSW.2 HCU.out)
                    simp only [List.set_cons_succ, List.set_cons_zero]
                    have AB4 := hid (show At (V1.setRow Gl (ubs nb).toArray) Gb (ubs nb).toArray 35 from At.setRow_far AB3.out (by have := LB.out; have := LO.out; omega))
                    have GB4 := hid (show At (V1.setRow Gl (ubs nb).toArray) G (ubs cur).toArray 35 from At.setRow_far K3.out.g (by have := LG.out; have := LW.out; have := LO.out; omega))
                    have AR4 := hid (show At (V1.setRow Gl (ubs nb).toArray) Gr (ubs nb).toArray 35 from At.setRow_far AR3.out (Ne.symm NE.out))
                    refine wpUpto_one (i := 2) rfl (by decide +kernel) rfl ?_
                    intro Q0 hQ0
                    refine wp_unit (run_store_row 35 (.tmp 21) (.tmp 142) rfl Gl (ubs nb).toArray rfl rfl 35 (ubs cur).toArray AL3.out (sizeH_of HNB.out) (by simp [ubs_length, HCU.out, HNB.out]) (ubs_all _)) ?_
                    refine hQ0.out _ _ (fun _ => ⟨range_whole AB4.out, range_whole GB4.out⟩) ?_
                    clear hQ0 Q0
                    have AB5 := hid (show At ((V1.setRow Gl (ubs nb).toArray).setRow Gr (ubs cur).toArray) Gb (ubs nb).toArray 35 from At.setRow_far AB4.out (by have := LB.out; have := LO.out; omega))
                    have GB5 := hid (show At ((V1.setRow Gl (ubs nb).toArray).setRow Gr (ubs cur).toArray) G (ubs cur).toArray 35 from At.setRow_far GB4.out (by have := LG.out; have := LW.out; have := LO.out; omega))
                    have AL5 := hid (show At ((V1.setRow Gl (ubs nb).toArray).setRow Gr (ubs cur).toArray) Gl (ubs nb).toArray 35 from At.setRow_far (show At (V1.setRow Gl (ubs nb).toArray) Gl (ubs nb).toArray 35 from setRow_heap _ _ _ _ _ _ AL3.out) NE.out)
                    have AR5 := hid (show At ((V1.setRow Gl (ubs nb).toArray).setRow Gr (ubs cur).toArray) Gr (ubs cur).toArray 35 from setRow_heap _ _ _ _ _ _ AR4.out)
                    have BW5 := hid (show Below wr.heap.size wr ((V1.setRow Gl (ubs nb).toArray).setRow Gr (ubs cur).toArray) from below_setRow (below_setRow BW3.out (by have := LW.out; have := LO.out; omega) _) (by have := LW.out; have := LO.out; omega) _)
                    refine wpUpto_one (i := 3) rfl (by decide +kernel) rfl ?_
                    intro Q0 hQ0
                    refine wp_unit (run_store_row 35 (.tmp 22) (.tmp 143) rfl Gr (ubs cur).toArray rfl rfl 35 (ubs nb).toArray AR4.out (sizeH_of HCU.out) (by simp [ubs_length, HCU.out, HNB.out]) (ubs_all _)) ?_
                    refine hQ0.out _ _ (fun _ => ⟨range_whole AB5.out, range_whole GB5.out⟩) ?_
                    clear hQ0 Q0
                    refine wpUpto_done (by decide +kernel) ?_ _
                    clear SD AB4 GB4 AR4 AB5 GB5 AL3 AR3 AB3 BW3 K3
                    generalize ((V1.setRow Gl (ubs nb).toArray).setRow Gr (ubs cur).toArray) = V2 at AL5 AR5 BW5 ⊢
                    have K5 := hid (HK.out.new HTT.out BW5.out)
                    go_simp
                    go_wp2_with (first
                      | (refine wpList_valW (by rfl) (run_loadH (.tmp 21) rfl Gl 0 rfl nb (range_whole AL5.out) HNB.out) ?_)
                      | (refine wpList_valW (by rfl) (run_loadH (.tmp 22) rfl Gr 0 rfl cur (range_whole AR5.out) HCU.out) ?_)
                      | (go_at_call 33; refine (HJN2.out V2 nb cur HNB.out HCU.out K5.out.below).mono ?_; rintro re we ⟨rfl, hbe⟩; rw [← HNXQ.out]; have K6 := hid (K5.out.new HTT.out hbe); have AL6 := hid (AL5.out.new_ hbe); have AR6 := hid (AR5.out.new_ hbe); clear hbe)
                      | (refine Great.wpList_allocTo rfl _ rfl _ _ (HAH.out _ _ _ rfl) ?_)
                      | (refine wpList_store_row rfl _ (.tmp 23) (.tmp 150) rfl we.heap.size (ubs nx).toArray rfl rfl 35 (ubs m).toArray (At.new _ _ _) (sizeH_of HNX.out) (by simp [ubs_length, HNL2.out, HNX.out]) (ubs_all _) ?_; have hbx : Below we.heap.size we ((we.alloc (.cells (ubs m).toArray 35)).setRow we.heap.size (ubs nx).toArray) := below_setRow ((Below.refl _ _).alloc (Nat.le_refl _) _) (Nat.le_refl _) _; have BN := hid hbx; have AN := hid (show At ((we.alloc (.cells (ubs m).toArray 35)).setRow we.heap.size (ubs nx).toArray) we.heap.size (ubs nx).toArray 35 from setRow_heap _ _ _ _ _ _ (At.new we (ubs m).toArray 35)); clear hbx; have K7 := hid (K6.out.new HTT.out BN.out); have AL7 := hid (AL6.out.new_ BN.out); have AR7 := hid (AR6.out.new_ BN.out); generalize ((we.alloc (.cells (ubs m).toArray 35)).setRow we.heap.size (ubs nx).toArray) = wf at AN BN K7 AL7 AR7 ⊢; generalize hGGn : we.heap.size = Gn at AN BN ⊢; clear BN hGGn)
                      | (refine wpList_valW (by rfl) (run_loadH (.tmp 23) rfl Gn 0 rfl nx (range_whole AN.out) HNX.out) ?_)
                      | (refine wpList_store_row rfl _ (.tmp 18) (.tmp 154) rfl G (ubs nx).toArray rfl rfl 35 (ubs cur).toArray K7.out.g (sizeH_of HNX.out) (by simp [ubs_length, HCU.out, HNX.out]) (ubs_all _) ?_; have K8 := hid (K7.out.store (y := nx) HTT.out); generalize (wf.setRow G (ubs nx).toArray) = wg at K8 ⊢))
                    go_roundw
                    case rel => exact ⟨y1, HY1.out.2, rfl, by rw [HNXE.out]; exact K8.out⟩
                    case measure =>
                      show k - ((y1 : Int)).toNat < k - (y : Int).toNat
                      rw [Int.toNat_natCast, Int.toNat_natCast]
                      exact HMS.out
                  · have f0 : decide ((bq : Int) = 1) = false := by simp; omega
                    have f0b : ((bq : Int) == 1) = false := by simp; omega
                    have f0n : decide (bq = 1) = false := by simp; omega
                    have HNXQ := hid (show nx = hashL (joinT y1 cur nb) by rw [HCLH.out, if_neg hbq])
                    clear hbq
                    have AL5 := AL2
                    have AR5 := AR2
                    have BW5 := BW2
                    clear AL2 AR2 AB2 BW2
                    have K5 := hid (HK.out.new HTT.out BW5.out)
                    go_simp
                    go_wp2_with (first
                      | (refine wpList_valW (by rfl) (run_loadH (.tmp 21) rfl Gl 0 rfl cur (range_whole AL5.out) HCU.out) ?_)
                      | (refine wpList_valW (by rfl) (run_loadH (.tmp 22) rfl Gr 0 rfl nb (range_whole AR5.out) HNB.out) ?_)
                      | (go_at_call 33; refine (HJN2.out W cur nb HCU.out HNB.out K5.out.below).mono ?_; rintro re we ⟨rfl, hbe⟩; rw [← HNXQ.out]; have K6 := hid (K5.out.new HTT.out hbe); have AL6 := hid (AL5.out.new_ hbe); have AR6 := hid (AR5.out.new_ hbe); clear hbe)
                      | (refine Great.wpList_allocTo rfl _ rfl _ _ (HAH.out _ _ _ rfl) ?_)
                      | (refine wpList_store_row rfl _ (.tmp 23) (.tmp 150) rfl we.heap.size (ubs nx).toArray rfl rfl 35 (ubs m).toArray (At.new _ _ _) (sizeH_of HNX.out) (by simp [ubs_length, HNL2.out, HNX.out]) (ubs_all _) ?_; have hbx : Below we.heap.size we ((we.alloc (.cells (ubs m).toArray 35)).setRow we.heap.size (ubs nx).toArray) := below_setRow ((Below.refl _ _).alloc (Nat.le_refl _) _) (Nat.le_refl _) _; have BN := hid hbx; have AN := hid (show At ((we.alloc (.cells (ubs m).toArray 35)).setRow we.heap.size (ubs nx).toArray) we.heap.size (ubs nx).toArray 35 from setRow_heap _ _ _ _ _ _ (At.new we (ubs m).toArray 35)); clear hbx; have K7 := hid (K6.out.new HTT.out BN.out); have AL7 := hid (AL6.out.new_ BN.out); have AR7 := hid (AR6.out.new_ BN.out); generalize ((we.alloc (.cells (ubs m).toArray 35)).setRow we.heap.size (ubs nx).toArray) = wf at AN BN K7 AL7 AR7 ⊢; generalize hGGn : we.heap.size = Gn at AN BN ⊢; clear BN hGGn)
                      | (refine wpList_valW (by rfl) (run_loadH (.tmp 23) rfl Gn 0 rfl nx (range_whole AN.out) HNX.out) ?_)
                      | (refine wpList_store_row rfl _ (.tmp 18) (.tmp 154) rfl G (ubs nx).toArray rfl rfl 35 (ubs cur).toArray K7.out.g (sizeH_of HNX.out) (by simp [ubs_length, HCU.out, HNX.out]) (ubs_all _) ?_; have K8 := hid (K7.out.store (y := nx) HTT.out); generalize (wf.setRow G (ubs nx).toArray) = wg at K8 ⊢))
                    go_roundw
                    case rel => exact ⟨y1, HY1.out.2, rfl, by rw [HNXE.out]; exact K8.out⟩
                    case measure =>
                      show k - ((y1 : Int)).toNat < k - (y : Int).toNat
                      rw [Int.toNat_natCast, Int.toNat_natCast]
                      exact HMS.out
              · obtain rfl : y = k := by omega
                have d1 : decide ((y : Int) < (y : Int)) = false := by simp
                rw [HRO.out, ← HNE.out] at hK
                have HK := hid hK
                clear hK
                go_wp2
                refine wp_region_facts 11 11 [156, 157, 158, 159, 160, 161, 162, 163, 164, 165, 6] (fun j z _ => z = paF y c9 b1 A9 nr j) (PbW Pt w S1 b1 y G L1 A9 ps nr) (by kernel_rfl) (by kernel_rfl)
                  (fun V V' h hb => h.new HTT.out hb) (fun _ _ _ _ h _ => h) (HK.out.drew HTT.out) ?_ ?_
                · intro i hi vals W K hB hn hK
                  simp only [frm_cons, frm_nil, List.set_cons_succ, List.set_cons_zero, Nat.reduceAdd] at hK ⊢
                  rcases (by omega : i = 0 ∨ i = 1 ∨ i = 2 ∨ i = 3 ∨ i = 4 ∨ i = 5 ∨ i = 6 ∨ i = 7 ∨ i = 8 ∨ i = 9 ∨ i = 10) with rfl | rfl | rfl | rfl | rfl | rfl | rfl | rfl | rfl | rfl | rfl
                  · refine wpOp_plain rfl rfl (wp_val (w' := W) (v := .slice A9 y c9) (by go_simp) ?_)
                    exact hK _ _ rfl (Below.refl _ _)
                  · have h0 := hn 0 (by decide +kernel)
                    simp only [paF] at h0
                    simp only [h0] at hK ⊢
                    refine wpOp_plain rfl rfl (wp_val (w' := W) (v := .int .i64 (y : Int)) (by go_simp) ?_)
                    exact hK _ _ rfl (Below.refl _ _)
                  · refine wpOp_plain rfl rfl (wp_val (w' := W) (v := .int .i64 (y : Int)) (by go_simp) ?_)
                    exact hK _ _ rfl (Below.refl _ _)
                  · have h1 := hn 1 (by decide +kernel)
                    have h2 := hn 2 (by decide +kernel)
                    simp only [paF] at h1 h2
                    simp only [h1, h2] at hK ⊢
                    refine wpOp_plain rfl rfl (wp_val (w' := W) (v := .bool true) (by go_simp) ?_)
                    exact hK _ _ rfl (Below.refl _ _)
                  · have h3 := hn 3 (by decide +kernel)
                    simp only [paF] at h3
                    simp only [h3] at hK ⊢
                    refine wpOp_plain rfl rfl (wp_val (w' := W) (v := .bool true) (by go_simp) ?_)
                    exact hK _ _ rfl (Below.refl _ _)
                  · have h4 := hn 4 (by decide +kernel)
                    simp only [paF] at h4
                    simp only [h4] at hK ⊢
                    refine wpOp_on rfl (by rfl) (wp_val (run_loadH (.tmp 18) rfl G 0 rfl nr (range_whole hB.g) HNR.out) ?_)
                    exact hK _ _ rfl (Below.refl _ _)
                  · have h4 := hn 4 (by decide +kernel)
                    simp only [paF] at h4
                    simp only [h4] at hK ⊢
                    refine wpOp_on rfl (by rfl) (wp_val (w' := W) (v := .pointer (some ⟨b1, 0, none⟩)) (by go_simp) ?_)
                    exact hK _ _ rfl (Below.refl _ _)
                  · have h4 := hn 4 (by decide +kernel)
                    have h6 := hn 6 (by decide +kernel)
                    simp only [paF] at h4 h6
                    simp only [h4, h6] at hK ⊢
                    refine wpOp_on rfl (by rfl) ?_
                    go_simp
                    go_at_call 32
                    refine (HRT.out W hB.below S1 b1 hB.t).mono ?_
                    rintro e W' ⟨rfl, hb⟩
                    exact hK _ _ rfl hb
                  · have h4 := hn 4 (by decide +kernel)
                    have h5 := hn 5 (by decide +kernel)
                    have h7 := hn 7 (by decide +kernel)
                    simp only [paF] at h4 h5 h7
                    simp only [h4, h5, h7] at hK ⊢
                    refine wpOp_on rfl (by rfl) (wp_val (run_eqlH _ (.tmp 161) (.tmp 163) rfl nr nr HNR.out HNR.out rfl rfl true (by simp) W) ?_)
                    exact hK _ _ rfl (Below.refl _ _)
                  · have h4 := hn 4 (by decide +kernel)
                    have h8 := hn 8 (by decide +kernel)
                    simp only [paF] at h4 h8
                    simp only [h4, h8] at hK ⊢
                    refine wpOp_plain rfl rfl (wp_val (w' := W) (v := .bool true) (by go_simp) ?_)
                    exact hK _ _ rfl (Below.refl _ _)
                  · have h9 := hn 9 (by decide +kernel)
                    simp only [paF] at h9
                    simp only [h9] at hK ⊢
                    refine wpOp_plain rfl rfl (wp_val (w' := W) (v := .bool true) (by go_simp) ?_)
                    exact hK _ _ rfl (Below.refl _ _)
                · intro vals W hB hF
                  have h10 := hF 10 (by omega)
                  simp only [paF] at h10
                  simp only [frm_cons, frm_nil, List.set_cons_succ, List.set_cons_zero, Nat.reduceAdd, h10]
                  refine wpUpto_done (by decide +kernel) ?_ _
                  have NX := hid hB.below
                  clear hB hF h10
                  go_simp
                  go_wp2
                  go_ret
                  exact ⟨rfl, NX.out⟩
        · obtain ⟨y0, rfl⟩ : ∃ y0, y = y0 + 1 := ⟨y - 1, by omega⟩
          obtain rfl : z = (y0 : Int) := by omega
          have hd2 : decide ((0 : Int) ≤ (y0 : Int)) = true := by simp
          have hd3 : (0 : Int) ≤ (y0 : Int) := by omega
          have hyl : y0 < sc.length := by rw [← HLN.out]; omega
          have hbk := back_drop f sc y0 hyl
          obtain ⟨a, ha⟩ : ∃ a, a = sc[y0] := ⟨_, rfl⟩
          obtain ⟨q, o, eA, hq, hra⟩ := (HSC.out wr hX.below).act HOA.out hyl
          have hoa : a.1 < 18446744073709551616 ∧ a.2.1.length = 32 := by rw [ha]; exact HOA.out.get hyl
          obtain ⟨x, hx⟩ : ∃ x, x = o + y0 * 34 := ⟨_, rfl⟩
          have HRF := hid (fun (V : World) (qq : Below w.heap.size w V) => show V.rangeAt q x (actV a) from by
            obtain ⟨q', o', e, -, hr⟩ := (HSC.out V qq).act HOA.out hyl
            rw [eA] at e
            cases e
            rw [ha, hx, show o + y0 * 34 = o + 34 * y0 by omega]
            exact hr)
          rw [← ha] at hbk
          obtain ⟨z1, hz1⟩ : ∃ z1 : Int, z1 = (y0 : Int) - 1 := ⟨_, rfl⟩
          have e4 : (y0 : Int) - 1 = z1 := hz1.symm
          have ew4 : IntKind.i64.wrap z1 = z1 := by rw [IntKind.wrap_i64] <;> have := HLL.out <;> have := HLN.out <;> omega
          have ik : (y0 : Int) < (j : Int) := by omega
          have e3 : o + y0 * 34 = x := hx.symm
          have HLB := hid (HBL.out (y0 + 1))
          have HY := hid (show y0 ≤ j by omega)
          have HZ1 := hid hz1
          generalize back f (sc.drop (y0 + 1)) = LB at hbk hX HLB
          have HX := hid hX
          have HAI := hid hoa.1
          have c70 := act_index (HRF.out wr hX.below)
          subst eA
          clear ha hq hra hoa hx hX hyl h0 hz hz1 hy
          cases hfa : f a.1 with
          | none =>
            rw [hfa] at hbk
            have HBK := hid hbk
            have HV1 := hid (show (lsF f (.int .u64 (a.1 : Int))).getD n32 = m by rw [lsF_at, hfa, HME.out]; rfl)
            have HV2 := hid (show (lsF f (.int .u64 (a.1 : Int))).isSome = false by rw [lsF_at, hfa]; rfl)
            clear hbk hfa
            go_wp2_with (first
              | (refine wpList_hmap_at rfl _ _ rfl rfl HX.out.m a.1 rfl HAI.out m false HV1.out HV2.out ?_)
              | (refine Great.wpList_allocTo rfl _ rfl _ _ (HAH.out _ _ _ rfl) ?_)
              | (refine wpList_store_row rfl _ (.tmp 15) (.tmp 87) rfl wr.heap.size (ubs m).toArray rfl rfl 35 (ubs m).toArray (At.new _ _ _) (sizeH_of HNL2.out) (Eq.refl _) (ubs_all _) ?_; have hbx : Below wr.heap.size wr ((wr.alloc (.cells (ubs m).toArray 35)).setRow wr.heap.size (ubs m).toArray) := below_setRow ((Below.refl _ _).alloc (Nat.le_refl _) _) (Nat.le_refl _) _; have B8 := hid hbx; have A8 := hid (show At ((wr.alloc (.cells (ubs m).toArray 35)).setRow wr.heap.size (ubs m).toArray) wr.heap.size (ubs m).toArray 35 from setRow_heap _ _ _ _ _ _ (At.new wr (ubs m).toArray 35)); clear hbx; have X8 := hid (HX.out.new HTT.out B8.out); generalize ((wr.alloc (.cells (ubs m).toArray 35)).setRow wr.heap.size (ubs m).toArray) = w8 at X8 A8 B8 ⊢; generalize hGG : wr.heap.size = G at A8 B8 ⊢; clear A8 B8 hGG))
            go_roundw
            case rel => exact ⟨z1, y0, S2, HY.out, HZ1.out, rfl, by rw [HBK.out]; exact X8.out⟩
            case measure =>
              show (z1 + 1).toNat < ((y0 : Int) + 1).toNat
              rw [HZ1.out]
              omega
          | some hh =>
            rw [hfa] at hbk
            have hbk2 : back f (sc.drop y0) = setT a.1 hh LB := hbk
            have HBK := hid hbk2
            obtain ⟨hhb, hhl⟩ := HSM.out a.1 hh hfa
            have HHL := hid hhl
            have HV1 := hid (show (lsF f (.int .u64 (a.1 : Int))).getD n32 = hh by rw [lsF_at, hfa]; rfl)
            have HV2 := hid (show (lsF f (.int .u64 (a.1 : Int))).isSome = true by rw [lsF_at, hfa]; rfl)
            have HST := hid (fun (V : World) (S : Nat → Prop) (p : Pt S V b2 k LB) (q : Below w.heap.size w V) => show Calls Tryd.prog 31 #[.pointer (some ⟨b2, 0, none⟩), .int .u64 (a.1 : Int), .agg (ubs hh).toArray] V (fun r W' => r = .returned .nilIface ∧ ∃ S', Pt S' W' b2 k (setT a.1 hh LB) ∧ (∀ k, S' k → S k ∨ V.heap.size ≤ k) ∧ Fr S V W') from by
              have := HTT.out.setOk a.1 hh q p HLB.out HAI.out hhl
              rw [hhb] at this
              exact this)
            clear hbk hbk2 hfa hhb hhl
            go_wp2_with (first
              | (refine wpList_hmap_at rfl _ _ rfl rfl HX.out.m a.1 rfl HAI.out hh true HV1.out HV2.out ?_)
              | (refine Great.wpList_allocTo rfl _ rfl _ _ (HAH.out _ _ _ rfl) ?_)
              | (refine wpList_store_row rfl _ (.tmp 15) (.tmp 87) rfl wr.heap.size (ubs hh).toArray rfl rfl 35 (ubs m).toArray (At.new _ _ _) (sizeH_of HHL.out) (by simp [ubs_length, HNL2.out, HHL.out]) (ubs_all _) ?_; have hbx : Below wr.heap.size wr ((wr.alloc (.cells (ubs m).toArray 35)).setRow wr.heap.size (ubs hh).toArray) := below_setRow ((Below.refl _ _).alloc (Nat.le_refl _) _) (Nat.le_refl _) _; have B8 := hid hbx; have A8 := hid (show At ((wr.alloc (.cells (ubs m).toArray 35)).setRow wr.heap.size (ubs hh).toArray) wr.heap.size (ubs hh).toArray 35 from setRow_heap _ _ _ _ _ _ (At.new wr (ubs m).toArray 35)); clear hbx; have X8 := hid (HX.out.new HTT.out B8.out); have N8 := hid (fun h1 => Nat.lt_irrefl _ (HTT.out.inn HX.out.u wr.heap.size h1).2); generalize ((wr.alloc (.cells (ubs m).toArray 35)).setRow wr.heap.size (ubs hh).toArray) = w8 at X8 A8 B8 ⊢; generalize hGG : wr.heap.size = G at A8 B8 N8 ⊢; clear B8 hGG HV1 HV2))
            have XD := hid (X8.out.drew HTT.out)
            have GD := hid (show At w8.drew G (ubs hh).toArray 35 from A8.out)
            clear X8 A8 c70
            refine wp_region_upto (fun W => W.rangeAt q x (actV a) ∧ W.rangeAt G 0 (ubs hh)) 9 9 (by kernel_rfl) (by kernel_rfl) ?_
            generalize w8.drew = V0 at XD GD ⊢
            have SD := hid (show V0.rangeAt q x (actV a) ∧ V0.rangeAt G 0 (ubs hh) from ⟨HRF.out V0 XD.out.below, range_whole GD.out⟩)
            refine wpUpto_takeL (i := 0) (v := .pointer (some ⟨b2, 0, none⟩)) rfl rfl (by decide +kernel) (by decide +kernel) (by decide +kernel) (by decide +kernel) (by decide) (fun _ _ _ h => h) (Or.inl ⟨by rfl, ?_⟩) SD.out ?_
            · (intro W hSW; go_simp)
            simp only [List.set_cons_succ, List.set_cons_zero]
            refine wpUpto_takeL (i := 1) (v := .slice (some ⟨q, o, none⟩) j c) rfl rfl (by decide +kernel) (by decide +kernel) (by decide +kernel) (by decide +kernel) (by decide) (fun _ _ _ h => h) (Or.inl ⟨by rfl, ?_⟩) SD.out ?_
            · (intro W hSW; go_simp)
            simp only [List.set_cons_succ, List.set_cons_zero]
            refine wpUpto_takeL (i := 2) (v := .int .i64 (y0 : Int)) rfl rfl (by decide +kernel) (by decide +kernel) (by decide +kernel) (by decide +kernel) (by decide) (fun _ _ _ h => h) (Or.inl ⟨by rfl, ?_⟩) SD.out ?_
            · (intro W hSW; go_simp)
            simp only [List.set_cons_succ, List.set_cons_zero]
            refine wpUpto_takeL (i := 3) (v := .pointer (some ⟨q, x, none⟩)) rfl rfl (by decide +kernel) (by decide +kernel) (by decide +kernel) (by decide +kernel) (by decide) (fun _ _ _ h => h) (Or.inl ⟨by rfl, ?_⟩) SD.out ?_
            · (intro W hSW; go_simp)
            simp only [List.set_cons_succ, List.set_cons_zero]
            refine wpUpto_takeL (i := 4) (v := .pointer (some ⟨q, x, none⟩)) rfl rfl (by decide +kernel) (by decide +kernel) (by decide +kernel) (by decide +kernel) (by decide) (fun _ _ _ h => h) (Or.inl ⟨by rfl, ?_⟩) SD.out ?_
            · (intro W hSW; go_simp)
            simp only [List.set_cons_succ, List.set_cons_zero]
            refine wpUpto_takeL (i := 5) (v := .int .u64 (a.1 : Int)) rfl rfl (by decide +kernel) (by decide +kernel) (by decide +kernel) (by decide +kernel) (by decide) (fun _ _ _ h => h) (Or.inl ⟨by rfl, ?_⟩) SD.out ?_
            · (intro W hSW; have c5 := act_index hSW.1; go_simp)
            simp only [List.set_cons_succ, List.set_cons_zero]
            refine wpUpto_takeL (i := 6) (v := .agg (ubs hh).toArray) rfl rfl (by decide +kernel) (by decide +kernel) (by decide +kernel) (by decide +kernel) (by decide) (fun _ _ _ h => h) (Or.inl ⟨by rfl, ?_⟩) SD.out ?_
            · (intro W hSW; exact run_loadH (.tmp 15) rfl G 0 rfl hh hSW.2 HHL.out)
            simp only [List.set_cons_succ, List.set_cons_zero]
            refine wpUpto_one (i := 7) rfl (by decide +kernel) rfl ?_
            intro Q0 hQ0
            go_simp
            go_at_call 31
            refine (HST.out V0 S2 XD.out.u XD.out.below).mono ?_
            rintro r9 w9 ⟨rfl, S9, p9, f9, fr9⟩
            have hng : ¬ S2 G := N8.out
            have X9 := hid (XD.out.set2 HTT.out p9 f9 fr9)
            have A9 := hid (show At w9 G (ubs hh).toArray 35 from (fr9.block G GD.out.lt hng).trans GD.out)
            clear p9 f9 fr9 hng
            refine hQ0.out _ _ (fun _ => ⟨HRF.out w9 X9.out.below, range_whole A9.out⟩) ?_
            clear hQ0 Q0
            try simp only [Act.put, List.setIfInBounds_toArray, List.set_cons_succ, List.set_cons_zero]
            have SD9 := hid (show w9.rangeAt q x (actV a) ∧ w9.rangeAt G 0 (ubs hh) from ⟨HRF.out w9 X9.out.below, range_whole A9.out⟩)
            refine wpUpto_takeL (i := 8) (v := .bool false) rfl rfl (by decide +kernel) (by decide +kernel) (by decide +kernel) (by decide +kernel) (by decide) (fun _ _ _ h => h) (Or.inl ⟨by rfl, ?_⟩) SD9.out ?_
            · (intro W hSW; go_simp)
            simp only [List.set_cons_succ, List.set_cons_zero]
            refine wpUpto_done (by decide +kernel) ?_ _
            clear XD GD SD A9 SD9
            go_simp
            go_wp2
            go_roundw
            case rel => exact ⟨z1, y0, S9, HY.out, HZ1.out, rfl, by rw [HBK.out]; exact X9.out⟩
            case measure =>
              show (z1 + 1).toNat < ((y0 : Int) + 1).toNat
              rw [HZ1.out]
              omega
end Go.Proofs.YthkbmpocfpbkoaaDoor
