/-
  Layer 10, the document's side: hashes of nodes, one behind the other: Leaves, Make.
  Layer 10, the program's side: Make, of trees of whatever memory.
-/
import Derived.Test.YtlmecjnlinalkaaDoorJ5
import Derived.Test.YtlmecjnlinalkaaDoorK4
import Derived.Test.YtlmecjnlinalkaaDoorY1
import Derived.Test.YtlmecjnlinalkaaDoorK7
namespace Go.Proofs.YtlmecjnlinalkaaDoor
open Go.RowKit

def leavesS (L : List (Nat × List UInt8)) (l : List Nat) : List UInt8 := l.flatMap fun i => nodeS 0 i L
theorem leavesS_zero (L : List (Nat × List UInt8)) (l : List Nat) : leavesS L (l.take 0) = [] := rfl
theorem leavesS_next (L : List (Nat × List UInt8)) (l : List Nat) (j : Nat) (hj : j < l.length) : leavesS L (l.take (j + 1)) = leavesS L (l.take j) ++ nodeS 0 l[j] L := by
  unfold leavesS
  rw [List.take_succ_eq_append_getElem hj, List.flatMap_append]
  simp
def besideS (L : List (Nat × List UInt8)) (s : List (Nat × Nat)) : List UInt8 := s.flatMap fun q => nodeS q.1 q.2 L
theorem besideS_zero (L : List (Nat × List UInt8)) (s : List (Nat × Nat)) : besideS L (s.take 0) = [] := rfl
theorem besideS_next (L : List (Nat × List UInt8)) (s : List (Nat × Nat)) (j : Nat) (hj : j < s.length) : besideS L (s.take (j + 1)) = besideS L (s.take j) ++ nodeS s[j].1 s[j].2 L := by
  unfold besideS
  rw [List.take_succ_eq_append_getElem hj, List.flatMap_append]
  simp
attribute [irreducible] leavesS besideS
/-- Hashes that grow in new memory. -/
structure GhW (w : World) (v : Value) (n : Nat) (bs : List UInt8) (W : World) : Prop where
  a : Ah W w.heap.size v n bs
  b : Below w.heap.size w W
theorem GhW.start (w : World) : GhW w (.slice none 0 0) 0 [] w := ⟨Ah.nil _ _, Below.refl _ _⟩
theorem GhW.new {w W W' : World} {v : Value} {n : Nat} {bs : List UInt8} (h : GhW w v n bs W) (hb : Below W.heap.size W W') : GhW w v n bs W' := ⟨h.a.kept hb, h.b.trans (hb.mono h.b.size)⟩
theorem GhW.push {w W W' : World} {v v' : Value} {n : Nat} {bs l : List UInt8} (h : GhW w v n bs W) (ha : Ah W' w.heap.size v' (n + 1) (bs ++ l)) (hg : W.grownBy W' v.ownBlock) : GhW w v' (n + 1) (bs ++ l) W' :=
  ⟨ha, h.b.grown hg h.b.size (fun k hk => (h.a.lt k hk).1)⟩
/-- A hash is appended. -/
theorem wp_append_hh {o : Oper} {a : Go.Act} {W : World} {K : Go.Act → World → Prop} {Q : Exit → Go.Act → World → Prop} (s x : Operand)
    (ho : o.op = .call { callee := .builtin .append, args := #[s, x], argTypes := #[31, 31] })
    (base : Nat) (v : Value) (n : Nat) (bs : List UInt8) (hs : a.eval s = v) (hown : Ah W base v n bs) (q : Nat) (l : List UInt8) (hx : a.eval x = .slice (some ⟨q, 0, none⟩) 1 1) (hq : At W q (ubs l).toArray 25) (hp : l.length = 32) (hl : n ≤ 8589934592) (hbase : base ≤ W.heap.size)
    (h : ∀ A c w', Ah w' base (.slice A (n + 1) c) (n + 1) (bs ++ l) → W.grownBy w' v.ownBlock → K (a.put o.dst (.slice A (n + 1) c)) w') : o.wp Tryd.prog a W K Q := by
  obtain ⟨i, hi, hz, hsz, hby⟩ := info_parts infoH
  obtain ⟨v', w', hr, h2, h3, -, -⟩ := run_append_own_at (P := Tryd.prog) W base 31 o.type 25 i _ 32 32 Tryd.underlying31 hi hz hsz hby (by show (ubs n32).toArray.size = 32; rw [List.size_toArray, ubs_length]; exact n32_length) (by omega) v n (ubs bs) hown ⟨q, 0, none⟩ 1 1 (ubs l) (by rw [ubs_length, hp])
    (fun j u hu => by rw [add_plain, Nat.zero_add, hq.cell j, List.getElem?_toArray]; exact hu) (ubs_one l) (by unfold maxLen; omega) (by omega) hbase
  have h6 : Ah w' base v' (n + 1) (bs ++ l) := by
    unfold Ah
    rw [ubs_append]
    exact h2
  obtain ⟨A, c, rfl⟩ := h6.form
  unfold Oper.wp execOp
  simp only [ho, resolve, invoke, builtin, Sem.run_bind, Sem.run_pure, Result.andThen_ok, List.map_toArray, List.map_cons, List.map_nil, hs, hx, hr]
  exact h A c w' h6 h3
/-- What Make's region yields. -/
def mrF (v : Value) (T : Array Value) (A : Option Addr) (n c j g p lv pl : Nat) (nd : List UInt8) (k : Nat) (u : Value) (W : World) : Prop :=
  match k with
  | 0 => u = v
  | 1 => u = .agg T
  | 2 => u = .slice A n c
  | 3 => u = .int .i64 (j : Int)
  | 4 => u = .pointer (some ⟨g, p, none⟩)
  | 5 => u = .pointer (some ⟨g, p, none⟩)
  | 6 => u = .int .i64 (lv : Int)
  | 7 => u = .slice A n c
  | 8 => u = .int .i64 (j : Int)
  | 9 => u = .pointer (some ⟨g, p, none⟩)
  | 10 => u = .pointer (some ⟨g, p + 1, none⟩)
  | 11 => u = .int .u64 (pl : Int)
  | 12 => u = .agg (ubs nd).toArray
  | _ => ∃ q, u = .slice (some ⟨q, 0, none⟩) 1 1 ∧ At W q (ubs nd).toArray 25
theorem mrF_new {v : Value} {T : Array Value} {A : Option Addr} {n c j g p lv pl : Nat} {nd : List UInt8} {k : Nat} {u : Value} {W W' : World} (h : mrF v T A n c j g p lv pl nd k u W) (hb : Below W.heap.size W W') : mrF v T A n c j g p lv pl nd k u W' := by
  rcases k with _ | _ | _ | _ | _ | _ | _ | _ | _ | _ | _ | _ | _ | k
  iterate 13 exact h
  obtain ⟨q, e, r⟩ := h
  exact ⟨q, e, r.new_ hb⟩
end Go.Proofs.YtlmecjnlinalkaaDoor

namespace Go.Proofs.YtlmecjnlinalkaaDoor
open Go.RowKit

theorem Ah.mono {W : World} {base base' n : Nat} {v : Value} {bs : List UInt8} (h : Ah W base v n bs) (hb : base' ≤ base) : Ah W base' v n bs := by
  refine ⟨h.1, ?_⟩
  rcases h.2 with h2 | ⟨g, cap, cur, rfl, hb1, r⟩
  · exact .inl h2
  · exact .inr ⟨g, cap, cur, rfl, Nat.le_trans hb hb1, r⟩
theorem Ah.far {W : World} {base n : Nat} {v : Value} {bs : List UInt8} (h : Ah W base v n bs) {p : Addr} (hp : p.block < base) (u : Value) : Ah (W.setCell p u) base v n bs := by
  refine ⟨h.1, ?_⟩
  rcases h.2 with h2 | ⟨g, cap, cur, rfl, hb1, hh, r⟩
  · exact .inl h2
  · exact .inr ⟨g, cap, cur, rfl, hb1, (Below.heap_setCell W p u g (by omega)).trans hh, r⟩
section
variable {Pt : PtT} {w0 : World}
set_option maxRecDepth 100000 in
theorem pchecktree_any (t : T9c Pt w0) {S : Nat → Prop} {W : World} {b h : Nat} {L : List (Nat × List UInt8)} (hb0 : Below w0.heap.size w0 W) (hp : Pt S W b h L) (l : List Nat) (A : Option Addr) (c : Nat) (hr : Nu W W.heap.size A l) :
    Calls Tryd.prog 64 #[.pointer (some ⟨b, 0, none⟩), .slice A l.length c] W fun r W' => r = .returned (eB (rgtB (h : Int) l)) ∧ Below W.heap.size W W' := by
  have HH := hid (t.heightOk hb0 hp)
  have HR := hid (fun (V : World) (q : Below W.heap.size W V) => pright10_any (h : Int) l A c V (hr.later q))
  have e1 : errV 1 = .iface 42 (.int .i64 1) := rfl
  unfold ptr at HH
  generalize l.length = n at HR ⊢
  cases hg : rgtB (h : Int) l with
  | true =>
    rw [hg] at HR
    rw [show eB true = .nilIface from rfl]
    clear hb0 hp hr e1 hg
    go_enter Tryd.func64, Tryd.ntmps64
    go_wp2_with (first
      | (go_at_call 57; refine HH.out.mono ?_; rintro r1 w1 ⟨rfl, hb1⟩; have HB1 := hid hb1; clear hb1)
      | (go_at_call 31; refine (HR.out w1 HB1.out).mono ?_; rintro r2 w2 ⟨rfl, hb2⟩; have HB2 := hid (HB1.out.trans (hb2.mono HB1.out.size)); clear hb2))
    go_ret
    exact ⟨rfl, HB2.out⟩
  | false =>
    rw [hg] at HR
    rw [show eB false = errV 1 from rfl, e1]
    clear hb0 hp hr e1 hg
    go_enter Tryd.func64, Tryd.ntmps64
    go_wp2_with (first
      | (go_at_call 57; refine HH.out.mono ?_; rintro r1 w1 ⟨rfl, hb1⟩; have HB1 := hid hb1; clear hb1)
      | (go_at_call 31; refine (HR.out w1 HB1.out).mono ?_; rintro r2 w2 ⟨rfl, hb2⟩; have HB2 := hid (HB1.out.trans (hb2.mono HB1.out.size)); clear hb2))
    go_ret
    exact ⟨rfl, HB2.out⟩
/-- What holds while Make walks. -/
structure MkW (Pt : PtT) (S : Nat → Prop) (w : World) (Tb Bb b h : Nat) (L : List (Nat × List UInt8)) (pre : List Evt) (V : World) : Prop where
  t : Pt S V b h L
  tb : At V Tb #[.pointer (some ⟨b, 0, none⟩)] 29
  bb : ∃ v, At V Bb #[v] 31 ∧ Ah V (Bb + 1) v (asides pre).length (besideS L (asides pre))
  lo : w.heap.size ≤ Tb ∧ Tb < Bb
  below : Below w.heap.size w V
theorem MkW.new (t : T9c Pt w0) {S : Nat → Prop} {w V V' : World} {Tb Bb b h : Nat} {L : List (Nat × List UInt8)} {pre : List Evt} (x : MkW Pt S w Tb Bb b h L pre V) (hb : Below V.heap.size V V') : MkW Pt S w Tb Bb b h L pre V' := by
  obtain ⟨v, h1, h2⟩ := x.bb
  exact ⟨t.new x.t hb, x.tb.new_ hb, ⟨v, h1.new_ hb, h2.kept hb⟩, x.lo, x.below.trans (hb.mono x.below.size)⟩
theorem besideS_snoc (L : List (Nat × List UInt8)) (s : List (Nat × Nat)) (q : Nat × Nat) : besideS L (s ++ [q]) = besideS L s ++ nodeS q.1 q.2 L := by
  have := besideS_next L (s ++ [q]) s.length (by simp)
  rw [List.take_of_length_le (by simp)] at this
  rw [this]
  simp
end
end Go.Proofs.YtlmecjnlinalkaaDoor
