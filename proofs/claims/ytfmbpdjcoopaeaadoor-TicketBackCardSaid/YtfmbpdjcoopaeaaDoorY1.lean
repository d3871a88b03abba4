/-
  Plain words for memory, used by the proofs of this seat: frames, blocks known whole, slices that read as lists; nothing here speaks of the program.
  A region whose order is open and whose last operation waits for all others: what its loads read need hold only up to that last one.
  A region whose order is open: what its loads read need hold only up to operation z, which waits for them.
  What a law's row asks behind its walk: the law answers true, and what was there before the call reads as it did.
  Numbers of many bytes, big-endian. Nothing here speaks of the program.
  Inside a fence: operations that load or store whole rows; what a loop's body keeps. Nothing here speaks of the program.
  What the texts of several layers share: blocks of bytes, rows of the call's own, operations by their values, comparing.
  entrustnum.Bytes.
  Rows of noughts made.
  entrustnum.Num and Is for the error with number 1.
  What laws of several layers share: cells of slices that read as bytes, guarded operations, comparing.
  A region whose order is open, walked once: what each operation yields is said by a fact that new memory does not turn. Nothing here speaks of the program.
  A region whose order is open, walked by facts from any state on: some operations are done, some are walked by facts, the rest waits for these. Nothing here speaks of the program.
  A loop over an iterator that has no end of its own: the loop's body ends it. Nothing here speaks of the program.
  A region whose order is open, walked by facts from any state on, where the last of the facts' operations yields in whatever world and is not waited for by all that is left. Nothing here speaks of the program.
-/
import Derived.WalkKit
import Derived.ProofKit
import Derived.Handy
import Derived.WalkSpells
import Derived.Maps.AppendAt
import Derived.Laws.BytesArg
import Derived.Deep.Draws
import Derived.Laws.CopyOwn
import Derived.Deep.RegionLaw
import Derived.OrdersHeld
import Derived.RegionTactic
import Derived.OpenShut
import Derived.RangeFuncNested
import Derived.RangeFuncBound
import Derived.RangeFuncCalls
import Derived.RangeFuncLeaves
import Derived.OwnWalkIn
import Derived.TacticsInMore
import Derived.LoopNIn
import Derived.LoopIn
import Derived.Test.YtfmbpdjcoopaeaaDoorProg
import Derived.StillTailTactics
import Derived.BigQuiet
import Derived.ChangeKeysEq
import Derived.ArgAppend
import Derived.Deep.Cut
import Derived.OrdersIn
namespace Go.Proofs.YtfmbpdjcoopaeaaDoor
open Go.RowKit

/-- Kept from the walk. -/
theorem hid {p : Prop} (h : p) : Hid p := h

/-- What is said of a world and a later one: every block outside S is as it was. -/
structure Fr (S : Nat → Prop) (w w' : World) : Prop where
  os : w'.os = w.os
  tape : w'.tape = w.tape
  output : w'.output = w.output
  size : w.heap.size ≤ w'.heap.size
  block : ∀ k, k < w.heap.size → ¬ S k → w'.heap[k]? = w.heap[k]?

section
variable {S S' : Nat → Prop} {w w' w'' : World}
theorem Fr.refl (S : Nat → Prop) (w : World) : Fr S w w := ⟨rfl, rfl, rfl, Nat.le_refl _, fun _ _ _ => rfl⟩
theorem Fr.trans (h : Fr S w w') (k : Fr S w' w'') : Fr S w w'' :=
  ⟨k.os.trans h.os, k.tape.trans h.tape, k.output.trans h.output, Nat.le_trans h.size k.size, fun i hi hn => (k.block i (Nat.lt_of_lt_of_le hi h.size) hn).trans (h.block i hi hn)⟩
/-- Only what holds of old blocks is asked. -/
theorem Fr.mono (h : Fr S w w') (hs : ∀ k, k < w.heap.size → S k → S' k) : Fr S' w w' := ⟨h.os, h.tape, h.output, h.size, fun i hi hn => h.block i hi (fun c => hn (hs i hi c))⟩
theorem Fr.next (h : Fr S w w') (k : Fr S' w' w'') (hs : ∀ g, g < w.heap.size → S' g → S g) : Fr S w w'' :=
  ⟨k.os.trans h.os, k.tape.trans h.tape, k.output.trans h.output, Nat.le_trans h.size k.size, fun i hi hn => (k.block i (Nat.lt_of_lt_of_le hi h.size) (fun c => hn (hs i hi c))).trans (h.block i hi hn)⟩
theorem Fr.drew (h : Fr S w w') : Fr S w w'.drew := ⟨h.os, h.tape, h.output, h.size, h.block⟩
theorem Fr.drewN (h : Fr S w w') (n : Nat) : Fr S w (w'.drewN n) := ⟨h.os, h.tape, h.output, h.size, h.block⟩
theorem Fr.alloc (h : Fr S w w') (o : Obj) : Fr S w (w'.alloc o) :=
  h.trans ⟨rfl, rfl, rfl, by simp, fun k hk _ => Below.heap_alloc _ _ _ hk⟩
theorem Fr.setCell (h : Fr S w w') {p : Addr} (hp : w.heap.size ≤ p.block ∨ S p.block) (u : Value) : Fr S w (w'.setCell p u) :=
  ⟨h.os, h.tape, h.output, by simpa using h.size, fun k hk hn => (Below.heap_setCell _ _ _ _ (by rintro rfl; rcases hp with hp | hp; exact absurd hk (by omega); exact hn hp)).trans (h.block k hk hn)⟩
theorem Fr.grown (h : Fr S w w') {row : Option Nat} (hg : w'.grownBy w'' row) (hr : ∀ k, row = some k → w.heap.size ≤ k ∨ S k) : Fr S w w'' :=
  ⟨hg.os.trans h.os, hg.tape.trans h.tape, hg.output.trans h.output, Nat.le_trans h.size hg.size, fun k hk hn =>
    (hg.block k (Nat.lt_of_lt_of_le hk h.size) (fun e => by rcases hr k e.symm with h1 | h1; exact absurd hk (by omega); exact hn h1)).trans (h.block k hk hn)⟩
theorem Fr.setRow (h : Fr S w w') {g : Nat} (hg : w.heap.size ≤ g ∨ S g) (cs : Array Value) : Fr S w (w'.setRow g cs) :=
  ⟨h.os, h.tape, h.output, by simpa using h.size, fun k hk hn => (setRow_other w' g k cs (by rintro rfl; rcases hg with hg | hg; exact absurd hk (by omega); exact hn hg)).trans (h.block k hk hn)⟩
theorem Fr.below {B : Nat} (h : Fr S w w') (hs : ∀ k, S k → B ≤ k) (hB : B ≤ w.heap.size) : Below B w w' :=
  ⟨h.os, h.tape, h.output, h.size, fun k hk => h.block k (by omega) (fun c => by have := hs k c; omega)⟩
theorem Fr.of_below {B : Nat} (h : Below B w w') (hS : ∀ k, k < w.heap.size → B ≤ k → S k) : Fr S w w' :=
  ⟨h.os, h.tape, h.output, h.size, fun k hk hn => h.block k (by rcases Nat.lt_or_ge k B with h1 | h1; exact h1; exact absurd (hS k hk h1) hn)⟩
theorem Fr.of_new (h : Below w.heap.size w w') : Fr S w w' := Fr.of_below h (fun k h1 h2 => absurd h1 (by omega))
theorem Fr.cell (h : Fr S w w') {a : Addr} (hl : a.block < w.heap.size) (hn : ¬ S a.block) : w'.cell? a = w.cell? a := World.cell?_of_block (w := w) (h.block a.block hl hn)
theorem Fr.frozen (h : Fr S w w') {a : Addr} (hl : a.block < w.heap.size) (hn : ¬ S a.block) : w'.frozen? a = w.frozen? a := World.frozen?_of_block (w := w) (h.block a.block hl hn)
end

/-- Block g is just the cells cs, of element type t, none frozen. -/
def At (w : World) (g : Nat) (cs : Array Value) (t : TypeId) : Prop := w.heap[g]? = some (.cells cs t (0, 0))

section
variable {S : Nat → Prop} {w w' : World} {g : Nat} {t : TypeId} {cs : Array Value}
theorem At.lt (h : At w g cs t) : g < w.heap.size := lt_of_block h
theorem At.cell (h : At w g cs t) (i : Nat) : w.cell? ⟨g, i, none⟩ = cs[i]? := cell_of_row w g i cs t (0, 0) h
theorem At.frozen (h : At w g cs t) (i : Nat) : w.frozen? ⟨g, i, none⟩ = false := frozen_of_row w g i cs t h
theorem At.new (w : World) (cs : Array Value) (t : TypeId) : At (w.alloc (.cells cs t)) w.heap.size cs t := heap_alloc_new w _
theorem At.drew (h : At w g cs t) : At w.drew g cs t := h
theorem At.alloc (h : At w g cs t) (o : Obj) : At (w.alloc o) g cs t := (Below.heap_alloc w o g h.lt).trans h
theorem At.put (h : At w g cs t) (i : Nat) (u : Value) : At (w.setCell ⟨g, i, none⟩ u) g (cs.setIfInBounds i u) t := by
  unfold At at h ⊢
  simp [World.setCell, Array.getElem?_modify, h]
theorem At.far (h : At w g cs t) {p : Addr} (hp : g ≠ p.block) (u : Value) : At (w.setCell p u) g cs t := (Below.heap_setCell w p u g hp).trans h
theorem At.fr (h : At w g cs t) (hf : Fr S w w') (hn : ¬ S g) : At w' g cs t := (hf.block g h.lt hn).trans h
theorem At.below {B : Nat} (h : At w g cs t) (hf : Below B w w') (hn : g < B) : At w' g cs t := (hf.block g hn).trans h
theorem At.new_ (h : At w g cs t) (hf : Below w.heap.size w w') : At w' g cs t := h.below hf h.lt
theorem At.ne {g' : Nat} {t' : TypeId} {cs' : Array Value} (h : At w g cs t) (h' : At w g' cs' t') (hne : t ≠ t') : g ≠ g' := by
  rintro rfl
  unfold At at h h'
  rw [h] at h'
  injection h' with h'
  injection h' with _ ht
  exact hne ht
end

theorem add_block (a : Addr) (n : Nat) : (a.add n).block = a.block := by unfold Addr.add; split <;> rfl
theorem add_add' (a : Addr) (i j : Nat) : (a.add i).add j = a.add (i + j) := by
  unfold Addr.add
  by_cases hi : i = 0 <;> by_cases hj : j = 0 <;> simp [hi, hj, Nat.add_assoc]
theorem add_plain (b o n : Nat) : (⟨b, o, none⟩ : Addr).add n = ⟨b, o + n, none⟩ := by unfold Addr.add; split <;> simp_all

/-- A slice whose address is A reads as the cells xs, and lies below block B. -/
def Rd (w : World) (B : Nat) (A : Option Addr) (xs : List Value) : Prop :=
  xs ≠ [] → ∃ b o, A = some ⟨b, o, none⟩ ∧ b < B ∧ ∀ j u, xs[j]? = some u → w.cell? ⟨b, o + j, none⟩ = some u

section
variable {S : Nat → Prop} {w w' : World} {B B' : Nat} {A : Option Addr} {xs : List Value}
theorem Rd.nil (w : World) (B : Nat) (A : Option Addr) : Rd w B A [] := fun h => absurd rfl h
theorem Rd.mono (h : Rd w B A xs) (hB : B ≤ B') : Rd w B' A xs := fun hx => by
  obtain ⟨b, o, e, hb, hc⟩ := h hx
  exact ⟨b, o, e, by omega, hc⟩
theorem Rd.below (h : Rd w B A xs) (hf : Below B w w') : Rd w' B A xs := fun hx => by
  obtain ⟨b, o, e, hb, hc⟩ := h hx
  exact ⟨b, o, e, hb, fun j u hu => (hf.cell (p := ⟨b, o + j, none⟩) hb).trans (hc j u hu)⟩
theorem Rd.lt (h : Rd w B A xs) : Rd w w.heap.size A xs := fun hx => by
  obtain ⟨b, o, e, hb, hc⟩ := h hx
  refine ⟨b, o, e, ?_, hc⟩
  obtain ⟨u, hu⟩ : ∃ u, xs[0]? = some u := by
    cases xs with
    | nil => exact absurd rfl hx
    | cons x xs => exact ⟨x, rfl⟩
  exact block_lt_of_cell (a := ⟨b, o + 0, none⟩) (hc 0 u hu)
theorem Rd.fr (h : Rd w B A xs) (hf : Fr S w w') (hn : ∀ b o, A = some ⟨b, o, none⟩ → ¬ S b) : Rd w' B A xs := fun hx => by
  obtain ⟨b, o, e, hb, hc⟩ := h hx
  exact ⟨b, o, e, hb, fun j u hu => (hf.cell (a := ⟨b, o + j, none⟩) (block_lt_of_cell (hc j u hu)) (hn b o e)).trans (hc j u hu)⟩
theorem Rd.drew (h : Rd w B A xs) : Rd w.drew B A xs := h
theorem Rd.drewN (h : Rd w B A xs) (n : Nat) : Rd (w.drewN n) B A xs := h
theorem Rd.alloc (h : Rd w B A xs) (o : Obj) : Rd (w.alloc o) B A xs := fun hx => by
  obtain ⟨b, o', e, hb, hc⟩ := h hx
  exact ⟨b, o', e, hb, fun j u hu => (World.cell?_alloc_lt w o ⟨b, o' + j, none⟩ (block_lt_of_cell (hc j u hu))).trans (hc j u hu)⟩
theorem Rd.setCell (h : Rd w B A xs) {p : Addr} (hn : ∀ b o, A = some ⟨b, o, none⟩ → b ≠ p.block) (v : Value) : Rd (w.setCell p v) B A xs := fun hx => by
  obtain ⟨b, o, e, hb, hc⟩ := h hx
  exact ⟨b, o, e, hb, fun j u hu => (World.cell?_setCell_other w p ⟨b, o + j, none⟩ v (fun e' => hn b o e (by rw [e']))).trans (hc j u hu)⟩
/-- The tail of a slice. -/
theorem Rd.drop (h : Rd w B A xs) {n cap : Nat} (hn : n ≤ xs.length) (hc : xs.length ≤ cap) : Rd w B (if cap = n then A else A.map (·.add n)) (xs.drop n) := fun hx => by
  have hl : n < xs.length := by
    rcases Nat.lt_or_ge n xs.length with h1 | h1
    · exact h1
    · exact absurd (List.drop_eq_nil_of_le h1) hx
  obtain ⟨b, o, rfl, hb, hcell⟩ := h (by rintro rfl; simp at hl)
  rw [if_neg (by omega)]
  refine ⟨b, o + n, by simp [add_plain], hb, fun j u hu => ?_⟩
  rw [Nat.add_assoc]
  exact hcell (n + j) u (by rw [← hu, List.getElem?_drop])
theorem Rd.take (h : Rd w B A xs) (n : Nat) : Rd w B A (xs.take n) := fun hx => by
  obtain ⟨b, o, rfl, hb, hcell⟩ := h (by rintro rfl; simp at hx)
  refine ⟨b, o, rfl, hb, fun j u hu => hcell j u ?_⟩
  rw [List.getElem?_take] at hu
  split at hu
  · exact hu
  · cases hu
theorem Rd.at_ (h : Rd w B A xs) {k : Nat} {u : Value} (hk : xs[k]? = some u) : ∃ b o, A = some ⟨b, o, none⟩ ∧ b < B ∧ w.cell? ⟨b, o + k, none⟩ = some u := by
  obtain ⟨b, o, e, hb, hc⟩ := h (by rintro rfl; simp at hk)
  exact ⟨b, o, e, hb, hc k u hk⟩
theorem Rd.src (h : Rd w B A xs) : 0 < xs.length → ∃ ad, A = some ad ∧ ∀ j v, xs[j]? = some v → w.cell? (ad.add j) = some v := fun h0 => by
  obtain ⟨b, o, rfl, _, hc⟩ := h (by rintro rfl; simp at h0)
  exact ⟨_, rfl, fun j u hu => by rw [add_plain]; exact hc j u hu⟩
theorem Rd.of_at {g : Nat} {cs : Array Value} {t : TypeId} (h : At w g cs t) (o : Nat) (hx : ∀ j u, xs[j]? = some u → cs[o + j]? = some u) (hB : g < B) : Rd w B (some ⟨g, o, none⟩) xs := fun _ =>
  ⟨g, o, rfl, hB, fun j u hu => (h.cell (o + j)).trans (hx j u hu)⟩
theorem Rd.of_drop {g : Nat} {cs : Array Value} {t : TypeId} (h : At w g cs t) (o : Nat) (hx : cs.toList.drop o = xs) (hB : g < B) : Rd w B (some ⟨g, o, none⟩) xs :=
  Rd.of_at h o (fun j u hu => by rw [← hx, List.getElem?_drop] at hu; simpa using hu) hB
theorem Rd.of_own {base n c : Nat} {e : TypeId} (h : w.ownsRow base e 1 (.slice A n c) n xs) : Rd w w.heap.size A xs := fun hx => by
  rcases h.2 with ⟨_, h0⟩ | ⟨g, cap, cur, hv, _, hh, _, _, _, _⟩
  · have := h.1
    subst h0
    exact absurd (List.eq_nil_of_length_eq_zero (by simpa using this)) hx
  · have hA : A = some ⟨g, 0, none⟩ := by injection hv
    subst hA
    exact ⟨g, 0, rfl, lt_of_block hh, fun j u hu => by have := h.cells (g := g) rfl j u hu; rw [add_plain] at this; exact this⟩
end

section
variable {S : Nat → Prop} {w w' : World} {base n : Nat} {e : TypeId} {v : Value} {xs : List Value}
/-- An owned row is kept where its block is. -/
theorem own_fr (h : w.ownsRow base e 1 v n xs) (hf : Fr S w w') (hn : ∀ k, v.ownBlock = some k → ¬ S k) : w'.ownsRow base e 1 v n xs := by
  refine ⟨h.1, ?_⟩
  rcases h.2 with h2 | ⟨g, cap, cur, rfl, hg, hh, r⟩
  · exact .inl h2
  · exact .inr ⟨g, cap, cur, rfl, hg, (hf.block g (lt_of_block hh) (hn g rfl)).trans hh, r⟩
theorem own_far (h : w.ownsRow base e 1 v n xs) {p : Addr} (hn : v.ownBlock ≠ some p.block) (u : Value) : (w.setCell p u).ownsRow base e 1 v n xs := ownsRow_setCell_other h hn u
theorem own_ne_at {g : Nat} {cs : Array Value} {t : TypeId} (h : w.ownsRow base e 1 v n xs) (hg : At w g cs t) (hne : e ≠ t) : v.ownBlock ≠ some g := by
  rcases h.2 with ⟨rfl, _⟩ | ⟨g', cap, cur, rfl, _, hh, _⟩
  · simp [Value.ownBlock]
  · intro he
    have : g' = g := by simpa [Value.ownBlock] using he
    subst this
    exact At.ne (t := e) (cs := cur) hh hg hne rfl
theorem at_grown {w' : World} {g : Nat} {cs : Array Value} {t : TypeId} (hg : At w g cs t) (h : w.ownsRow base e 1 v n xs) (hne : e ≠ t) (hw : w.grownBy w' v.ownBlock) : At w' g cs t :=
  (hw.block g hg.lt (fun e' => own_ne_at h hg hne e'.symm)).trans hg
theorem own_mono {base' : Nat} (h : w.ownsRow base e 1 v n xs) (hb : ∀ k, v.ownBlock = some k → base' ≤ k) : w.ownsRow base' e 1 v n xs := by
  refine ⟨h.1, ?_⟩
  rcases h.2 with h2 | ⟨g, cap, cur, rfl, hg, r⟩
  · exact .inl h2
  · exact .inr ⟨g, cap, cur, rfl, hb g rfl, r⟩
/-- The form of a value that owns n elements. -/
theorem own_form (h : w.ownsRow base e 1 v n xs) : ∃ A c, v = .slice A n c ∧ n ≤ c ∧ c ≤ maxLen ∧ (A = none → n = 0 ∧ c = 0) ∧ v.ownBlock = A.map (·.block) ∧ ∀ a, A = some a → a.off = 0 ∧ a.spot = none ∧ base ≤ a.block ∧ a.block < w.heap.size := by
  rcases h.2 with ⟨rfl, rfl⟩ | ⟨g, cap, cur, rfl, hg, hh, hc, hm, _⟩
  · exact ⟨none, 0, rfl, Nat.le_refl _, by simp [maxLen], fun _ => ⟨rfl, rfl⟩, rfl, fun a h => by cases h⟩
  · exact ⟨_, cap, rfl, hc, hm, fun h => (by cases h), rfl, fun a h => by cases h; exact ⟨rfl, rfl, hg, lt_of_block hh⟩⟩
end

/-- append of a slice that reads as 'news' onto a row of the call's own, nil or not. -/
theorem run_append_rd {P : Program} (w : World) (base : Nat) (t ty e : TypeId) (i : TypeInfo) (z : Value) (bytes : Nat) (ht : P.underlying t = some (.slice e)) (hi : P.info? e = some i) (hz : i.zero = some z)
    (hsize : i.size = 1) (hby : i.bytes = bytes) (hzs : z.cells.size = 1) (v : Value) (n : Nat) (xs : List Value) (hown : w.ownsRow base e 1 v n xs)
    (B : Nat) (A : Option Addr) (m c : Nat) (news : List Value) (hm : news.length = m) (hr : Rd w B A news) (h1 : ∀ u ∈ news, u.oneCell' = true)
    (h63 : n + m ≤ maxLen) (hbytes : (n + m) * bytes ≤ 140737488355328) (hbase : base ≤ w.heap.size) :
    ∃ v' w', (Builtin.append_ #[t, t] ty #[v, .slice A m c]).run P w = .ok v' w' ∧ w'.ownsRow base e 1 v' (n + m) (xs ++ news) ∧ w.grownBy w' v.ownBlock ∧
      (v'.ownBlock = v.ownBlock ∨ v'.ownBlock = some w.heap.size) := by
  rcases A with _ | ad
  · have hn : news = [] := by
      rcases news with _ | ⟨x, xs⟩
      · rfl
      · obtain ⟨_, _, h, _⟩ := hr (by simp)
        cases h
    subst hn
    have hm0 : m = 0 := by simpa using hm.symm
    subst hm0
    refine ⟨v, w, ?_, by simpa using hown, ⟨rfl, rfl, rfl, Nat.le_refl _, fun _ _ _ => rfl⟩, .inl rfl⟩
    rcases hown.2 with ⟨rfl, rfl⟩ | ⟨g, cap, cur, rfl, _, _, hnc, _⟩
    · simp [Builtin.append_, run_underlying ht, sizeOf, typeInfo, hi, Builtin.lenOf, Builtin.firstCells]
    · simp [Builtin.append_, run_underlying ht, sizeOf, typeInfo, hi, Builtin.lenOf, Builtin.firstCells, hnc, storeCells]
  · have hcells : ∀ j u, news[j]? = some u → w.cell? (ad.add j) = some u := by
      intro j u hu
      obtain ⟨b, o, h, _, hc⟩ := hr (by rintro rfl; simp at hu)
      injection h with h
      subst h
      rw [add_plain]
      exact hc j u hu
    obtain ⟨v', w', hrun, h2, h3, _, h5⟩ := run_append_own_at (P := P) w base t ty e i z 1 bytes ht hi hz hsize hby hzs (by omega) v n xs hown ad m c news (by omega) hcells h1 h63 hbytes hbase
    exact ⟨v', w', hrun, h2, h3, h5⟩

theorem wp_append_rd {P : Program} {w : World} {o : Oper} {a : Act} {K : Act → World → Prop} {Q : Exit → Act → World → Prop} (s x : Operand) (t : TypeId)
    (ho : o.op = .call { callee := .builtin .append, args := #[s, x], argTypes := #[t, t] })
    (base : Nat) (e : TypeId) (i : TypeInfo) (z : Value) (bytes : Nat) (ht : P.underlying t = some (.slice e)) (hi : P.info? e = some i) (hz : i.zero = some z)
    (hsize : i.size = 1) (hby : i.bytes = bytes) (hzs : z.cells.size = 1) (v : Value) (n : Nat) (xs : List Value) (hs : a.eval s = v) (hown : w.ownsRow base e 1 v n xs)
    (B : Nat) (A : Option Addr) (m c : Nat) (news : List Value) (hx : a.eval x = .slice A m c) (hm : news.length = m) (hr : Rd w B A news) (h1 : ∀ u ∈ news, u.oneCell' = true)
    (h63 : n + m ≤ maxLen) (hbytes : (n + m) * bytes ≤ 140737488355328) (hbase : base ≤ w.heap.size)
    (h : ∀ v' w', w'.ownsRow base e 1 v' (n + m) (xs ++ news) → w.grownBy w' v.ownBlock → (v'.ownBlock = v.ownBlock ∨ v'.ownBlock = some w.heap.size) → K (a.put o.dst v') w') : o.wp P a w K Q := by
  obtain ⟨v', w', hrun, h2, h3, h4⟩ := run_append_rd (P := P) w base t o.type e i z bytes ht hi hz hsize hby hzs v n xs hown B A m c news hm hr h1 h63 hbytes hbase
  unfold Oper.wp execOp
  simp only [ho, resolve, invoke, builtin, Sem.run_bind, Sem.run_pure, Result.andThen_ok, List.map_toArray, List.map_cons, List.map_nil, hs, hx, hrun]
  exact h v' w' h2 h3 h4

theorem wpList_append_rd {P : Program} {w : World} {ops : Array Oper} {rest : List Oper} {o : Oper} {a : Act} {Q : Exit → Act → World → Prop} (hgd : o.guard = none) (s x : Operand) (t : TypeId)
    (ho : o.op = .call { callee := .builtin .append, args := #[s, x], argTypes := #[t, t] })
    (base : Nat) (e : TypeId) (i : TypeInfo) (z : Value) (bytes : Nat) (ht : P.underlying t = some (.slice e)) (hi : P.info? e = some i) (hz : i.zero = some z)
    (hsize : i.size = 1) (hby : i.bytes = bytes) (hzs : z.cells.size = 1) (v : Value) (n : Nat) (xs : List Value) (hs : a.eval s = v) (hown : w.ownsRow base e 1 v n xs)
    (B : Nat) (A : Option Addr) (m c : Nat) (news : List Value) (hx : a.eval x = .slice A m c) (hm : news.length = m) (hr : Rd w B A news) (h1 : ∀ u ∈ news, u.oneCell' = true)
    (h63 : n + m ≤ maxLen) (hbytes : (n + m) * bytes ≤ 140737488355328) (hbase : base ≤ w.heap.size)
    (h : ∀ v' w', w'.ownsRow base e 1 v' (n + m) (xs ++ news) → w.grownBy w' v.ownBlock → (v'.ownBlock = v.ownBlock ∨ v'.ownBlock = some w.heap.size) → wpList P ops Q rest (a.put o.dst v') w') : wpList P ops Q (o :: rest) a w :=
  wpList_plain hgd fun _ hK => wp_append_rd s x t ho base e i z bytes ht hi hz hsize hby hzs v n xs hs hown B A m c news hx hm hr h1 h63 hbytes hbase fun v' w' h2 h3 h4 => hK _ _ (h v' w' h2 h3 h4)

/-- copy into a row that is known whole, from a slice that reads as xs. -/
theorem run_copy_rd {P : Program} (w : World) (dT sT ty e : TypeId) (hu : P.underlying dT = some (.slice e)) (hsz : (P.info? e).map (·.size) = some 1) (g off dLen dCap : Nat) (B : Nat) (A : Option Addr) (sLen sCap : Nat)
    (cur : List Value) (t : TypeId) (hg : At w g cur.toArray t) (xs : List Value) (hx : Rd w B A xs) (hl : xs.length = sLen) (hfit : off + min sLen dLen ≤ cur.length) (h1 : ∀ v ∈ xs, v.oneCell' = true) :
    ∃ w', (Builtin.copy_ #[dT, sT] ty #[.slice (some ⟨g, off, none⟩) dLen dCap, .slice A sLen sCap]).run P w = .ok (goInt ((min sLen dLen : Nat) : Int)) w' ∧ At w' g (splice cur off (xs.take dLen)).toArray t ∧ Fr (fun k => k = g) w w' := by
  by_cases h0 : Nat.min sLen dLen = 0
  · have hrun := run_copy_none (P := P) w dT sT ty e (some ⟨g, off, none⟩) A dLen dCap sLen sCap hu hsz h0
    have h0' : min sLen dLen = 0 := h0
    refine ⟨w, by rw [hrun, h0']; rfl, ?_, Fr.refl _ _⟩
    have : xs.take dLen = [] := by
      rcases Nat.eq_zero_or_pos dLen with h | h
      · subst h; simp
      · have : xs.length = 0 := by omega
        rw [List.eq_nil_of_length_eq_zero this]; simp
    rw [this]
    simpa [splice] using hg
  · have hlen : (xs.take dLen).length = Nat.min sLen dLen := by rw [List.length_take, hl]; exact Nat.min_comm _ _
    obtain ⟨ad, rfl, hsrc⟩ := (hx.take dLen).src (by omega)
    have hrun := run_copy_row (P := P) w dT sT ty e g off dLen dCap ad sLen sCap cur.toArray t (xs.take dLen) hu hsz hg hlen hsrc (by rw [hlen]; simpa using hfit) (fun v hv => h1 v (List.mem_of_mem_take hv))
    rw [hlen] at hrun
    refine ⟨_, hrun, ?_, (Fr.refl (fun k => k = g) _).setRow (g := g) (.inr rfl) _⟩
    have e1 : cur.toArray.toList.take off ++ xs.take dLen ++ cur.toArray.toList.drop (off + Nat.min sLen dLen) = splice cur off (xs.take dLen) := by
      unfold splice
      rw [hlen, List.append_assoc]
    rw [e1]
    exact setRow_heap w g cur.toArray (splice cur off (xs.take dLen)).toArray t (0, 0) hg

theorem wp_copy_rd {P : Program} {w : World} {o : Oper} {a : Act} {K : Act → World → Prop} {Q : Exit → Act → World → Prop} (d s : Operand) (dT sT : TypeId)
    (ho : o.op = .call { callee := .builtin .copy, args := #[d, s], argTypes := #[dT, sT] }) (e : TypeId) (hu : P.underlying dT = some (.slice e)) (hsz : (P.info? e).map (·.size) = some 1)
    (g off dLen dCap : Nat) (B : Nat) (A : Option Addr) (sLen sCap : Nat) (hd : a.eval d = .slice (some ⟨g, off, none⟩) dLen dCap) (hs : a.eval s = .slice A sLen sCap)
    (cur : List Value) (t : TypeId) (hg : At w g cur.toArray t) (xs : List Value) (hx : Rd w B A xs) (hl : xs.length = sLen) (hfit : off + min sLen dLen ≤ cur.length) (h1 : ∀ v ∈ xs, v.oneCell' = true)
    (h : ∀ w', At w' g (splice cur off (xs.take dLen)).toArray t → Fr (fun k => k = g) w w' → K (a.put o.dst (goInt ((min sLen dLen : Nat) : Int))) w') : o.wp P a w K Q := by
  obtain ⟨w', hrun, h2, h3⟩ := run_copy_rd (P := P) w dT sT o.type e hu hsz g off dLen dCap B A sLen sCap cur t hg xs hx hl hfit h1
  unfold Oper.wp execOp
  simp only [ho, resolve, invoke, builtin, Sem.run_bind, Sem.run_pure, Result.andThen_ok, List.map_toArray, List.map_cons, List.map_nil, hd, hs, hrun]
  exact h w' h2 h3
theorem wpList_copy_rd {P : Program} {w : World} {ops : Array Oper} {rest : List Oper} {o : Oper} {a : Act} {Q : Exit → Act → World → Prop} (hgd : o.guard = none) (d s : Operand) (dT sT : TypeId)
    (ho : o.op = .call { callee := .builtin .copy, args := #[d, s], argTypes := #[dT, sT] }) (e : TypeId) (hu : P.underlying dT = some (.slice e)) (hsz : (P.info? e).map (·.size) = some 1)
    (g off dLen dCap : Nat) (B : Nat) (A : Option Addr) (sLen sCap : Nat) (hd : a.eval d = .slice (some ⟨g, off, none⟩) dLen dCap) (hs : a.eval s = .slice A sLen sCap)
    (cur : List Value) (t : TypeId) (hg : At w g cur.toArray t) (xs : List Value) (hx : Rd w B A xs) (hl : xs.length = sLen) (hfit : off + min sLen dLen ≤ cur.length) (h1 : ∀ v ∈ xs, v.oneCell' = true)
    (h : ∀ w', At w' g (splice cur off (xs.take dLen)).toArray t → Fr (fun k => k = g) w w' → wpList P ops Q rest (a.put o.dst (goInt ((min sLen dLen : Nat) : Int))) w') : wpList P ops Q (o :: rest) a w :=
  wpList_plain hgd fun _ hK => wp_copy_rd d s dT sT ho e hu hsz g off dLen dCap B A sLen sCap hd hs cur t hg xs hx hl hfit h1 fun w' h2 h3 => hK _ _ (h w' h2 h3)
/-- A byte as a cell; bytes as cells. -/
def ub (b : UInt8) : Value := .int .u8 (b.toNat : Int)
def ubs (bs : List UInt8) : List Value := bs.map ub
theorem ubs_length (bs : List UInt8) : (ubs bs).length = bs.length := by simp [ubs]
theorem ubs_one (bs : List UInt8) : ∀ u ∈ ubs bs, u.oneCell' = true := by
  intro u hu
  obtain ⟨b, _, rfl⟩ := List.mem_map.1 hu
  rfl
theorem ubs_append (a b : List UInt8) : ubs (a ++ b) = ubs a ++ ubs b := by simp [ubs]
theorem ubs_get (bs : List UInt8) (i : Nat) : (ubs bs)[i]? = bs[i]?.map ub := by simp [ubs]
theorem ubs_at {bs : List UInt8} {i : Nat} (h : i < bs.length) : (ubs bs)[i]? = some (.int .u8 (bs[i].toNat : Int)) := by simp [ubs, h, ub]
theorem ubs_drop (bs : List UInt8) (n : Nat) : (ubs bs).drop n = ubs (bs.drop n) := by simp [ubs]
theorem ubs_take (bs : List UInt8) (n : Nat) : (ubs bs).take n = ubs (bs.take n) := by simp [ubs]
/-- A byte slice of the call's own. -/
abbrev Ow (w : World) (base : Nat) (v : Value) (bs : List UInt8) : Prop := w.ownsRow base 5 1 v bs.length (ubs bs)
/-- A byte slice that is read. -/
abbrev Rb (w : World) (B : Nat) (A : Option Addr) (bs : List UInt8) : Prop := Rd w B A (ubs bs)

theorem rb_take {w : World} {B : Nat} {A : Option Addr} {bs : List UInt8} (h : Rb w B A bs) (n : Nat) : Rb w B A (bs.take n) := by
  have := Rd.take h n
  rwa [ubs_take] at this
theorem rb_drop {w : World} {B : Nat} {A : Option Addr} {bs : List UInt8} (h : Rb w B A bs) {n cap : Nat} (hn : n ≤ bs.length) (hc : bs.length ≤ cap) : Rb w B (if cap = n then A else A.map (·.add n)) (bs.drop n) := by
  have := Rd.drop h (n := n) (cap := cap) (by rwa [ubs_length]) (by rwa [ubs_length])
  rwa [ubs_drop] at this

end Go.Proofs.YtfmbpdjcoopaeaaDoor

namespace Go.Proofs.YtfmbpdjcoopaeaaDoor

section
variable {P : Program} {ops : Array Oper} {Q : Exit → Act → World → Prop} {md : Region.Mode} {S : World → Prop} {z : Nat}

/-- Whatever comes up next; behind every operation but number z the condition S holds. -/
def wpUpto (P : Program) (md : Region.Mode) (ops : Array Oper) (Q : Exit → Act → World → Prop) (S : World → Prop) (z : Nat) : Nat → Array Bool → Act → World → Prop
  | 0, listed, a, w => Region.ready md ops listed = [] ∧ Q .normal a w
  | fuel + 1, listed, a, w =>
    (Region.ready md ops listed = [] → Q .normal a w) ∧
    ∀ i ∈ Region.ready md ops listed, wpOp P ops Q i (fun a' w' => (i ≠ z → S w') ∧ wpUpto P md ops Q S z fuel (listed.setIfInBounds i true) a' w') a w

theorem wpUpto_any : ∀ (fuel : Nat) (listed : Array Bool) (a : Act) (w : World), wpUpto P md ops Q S z fuel listed a w → wpAny P md ops Q fuel listed a w
  | 0, _, _, _, h => h
  | fuel + 1, _, _, _, h => ⟨h.1, fun i hi => wpOp_mono (fun a' w' h' => wpUpto_any fuel _ a' w' h'.2) (h.2 i hi)⟩

/-- Number z waits for number i. -/
def waits (md : Region.Mode) (ops : Array Oper) (z i : Nat) : Bool := ((ops[z]?).map fun o => o.after.any fun e => Region.binds md e && e.on == i).getD true
theorem waits_spec {i : Nat} {listed : Array Bool} (h : waits md ops z i = true) (hz : z ∈ Region.ready md ops listed) : listed.getD i false = true := by
  obtain ⟨_, o, ho, hall⟩ := mem_ready.1 hz
  simp only [waits, ho, Option.map_some, Option.getD_some, Array.any_eq_true', Bool.and_eq_true, beq_iff_eq] at h
  obtain ⟨e, he, hb, rfl⟩ := h
  exact hall e he hb

theorem wpUpto_first {i : Nat} {oi : Oper} {v : Value} (hi : ops[i]? = some oi) (hsel : ∀ (j : Nat) (o : Oper) cs b, ops[j]? = some o → o.op ≠ .select cs b)
    (hQ : ∀ c a w, Q (.panic c) (a.put oi.dst v) w → Q (.panic c) a w) (hw : waits md ops z i = true) (hiz : i ≠ z) :
    ∀ (fuel : Nat) (listed : Array Bool) (a : Act) (w : World),
      (∀ j oj, ops[j]? = some oj → j ≠ i → listed.getD j true = false → (∀ e ∈ oj.after, Region.binds md e = true → e.on ≠ i) → oi.apart ops oj = true) →
      i ∈ Region.ready md ops listed → YieldsIf P ops S oi v a → S w →
      wpUpto P md ops Q S z fuel (listed.setIfInBounds i true) (a.put oi.dst v) w → wpUpto P md ops Q S z (fuel + 1) listed a w := by
  intro fuel
  induction fuel with
  | zero =>
    intro listed a w _ hr hy hS H
    refine ⟨fun h => (by rw [h] at hr; cases hr), fun j hj => ?_⟩
    by_cases hji : j = i
    · subst hji
      exact hy.wpOp hi hS ⟨fun _ => hS, H⟩
    · have := ready_mono hj hji
      rw [H.1] at this
      cases this
  | succ fuel ih =>
    intro listed a w hfree hr hy hS H
    refine ⟨fun h => (by rw [h] at hr; cases hr), fun j hj => ?_⟩
    by_cases hji : j = i
    · subst hji
      exact hy.wpOp hi hS ⟨fun _ => hS, H⟩
    · have hun := (mem_ready.1 hr).1
      have hun' : listed.getD i false = false := by
        rcases Nat.lt_or_ge i listed.size with h' | h'
        · simpa [h'] using hun
        · simp [Array.getElem?_eq_none h']
      have hjz : j ≠ z := by
        rintro rfl
        have := waits_spec hw hj
        rw [hun'] at this
        cases this
      have h1 := H.2 j (ready_mono hj hji)
      obtain ⟨hjun, oj, hoj, hall⟩ := mem_ready.1 hj
      have hnot : ∀ e ∈ oj.after, Region.binds md e = true → e.on ≠ i := fun e he hb heq => by
        have h2 := hall e he hb
        rw [heq, hun'] at h2
        cases h2
      have h2 := wpOp_putIf hoj (hfree j oj hoj hji hjun hnot) (fun cs b => hsel i oi cs b hi) (fun cs b => hsel j oj cs b hoj) hQ hy h1
      have hfree' : ∀ k ok, ops[k]? = some ok → k ≠ i → (listed.setIfInBounds j true).getD k true = false →
          (∀ e ∈ ok.after, Region.binds md e = true → e.on ≠ i) → oi.apart ops ok = true := fun k ok hk hki hkun hno => by
        refine hfree k ok hk hki ?_ hno
        by_cases hjk : j = k
        · subst hjk
          exact hjun
        · rw [getD_set_ne true hjk] at hkun
          exact hkun
      refine wpOp_mono (fun a' w' h3 => ⟨fun _ => h3.2.1 hjz, ih (listed.setIfInBounds j true) a' w' hfree' (ready_mono hr (Ne.symm hji)) h3.1 (h3.2.1 hjz) ?_⟩) h2
      rw [Array.setIfInBounds_comm _ _ hji]
      exact h3.2.2

/-- Number i is taken first. -/
theorem wpUpto_take {i : Nat} {oi : Oper} {v : Value} {fuel : Nat} {listed : Array Bool} {a : Act} {w : World} (hi : ops[i]? = some oi)
    (hs : Region.noSelect ops = true) (hf : Region.free md ops listed i = true) (hr : (Region.ready md ops listed).contains i = true) (hw : waits md ops z i = true) (hiz : i ≠ z)
    (hQ : ∀ c a w, Q (.panic c) (a.put oi.dst v) w → Q (.panic c) a w) (hy : YieldsIf P ops S oi v a) (hS : S w)
    (h : wpUpto P md ops Q S z fuel (listed.setIfInBounds i true) (a.put oi.dst v) w) : wpUpto P md ops Q S z (fuel + 1) listed a w :=
  wpUpto_first hi (Region.noSelect_spec hs) hQ hw hiz fuel listed a w (Region.free_spec hi hf) (by simpa using hr) hy hS h
/-- One alone can come up. -/
theorem wpUpto_one {i : Nat} {o : Oper} {fuel : Nat} {listed : Array Bool} {a : Act} {w : World} (ho : ops[i]? = some o) (hr : Region.ready md ops listed = [i]) (hg : o.guard = none)
    (h : ∀ K : Act → World → Prop, RowKit.Hid (∀ a' w', (i ≠ z → S w') → wpUpto P md ops Q S z fuel (listed.setIfInBounds i true) a' w' → K a' w') → o.wp P a w K Q) : wpUpto P md ops Q S z (fuel + 1) listed a w := by
  refine ⟨fun h0 => (by rw [hr] at h0; cases h0), fun j hj => ?_⟩
  rw [hr] at hj
  obtain rfl : j = i := by simpa using hj
  unfold wpOp
  rw [ho]
  simp only [Region.wanted, hg, if_true]
  exact .inl (h _ (fun _ _ h1 h2 => ⟨h1, h2⟩))
theorem wpUpto_done {listed : Array Bool} {a : Act} {w : World} (hr : Region.ready md ops listed = []) (h : Q .normal a w) : ∀ fuel, wpUpto P md ops Q S z fuel listed a w
  | 0 => ⟨hr, h⟩
  | _ + 1 => ⟨fun _ => h, by rw [hr]; simp⟩
theorem wp_region_upto {id : Nat} {a : Act} {w : World} (S : World → Prop) (z n : Nat) (hn : ops.size = n) (hm : P.follows .mixedOrders = true)
    (h : wpUpto P .any ops Q S z n (Array.replicate n false) a w.drew) : (Code.region id ops true).wp P Q a w :=
  wp_region_any hm (by rw [hn]; exact wpUpto_any _ _ _ _ h)
end
end Go.Proofs.YtfmbpdjcoopaeaaDoor

namespace Go.Proofs.YtfmbpdjcoopaeaaDoor

section
variable {P : Program} {ops : Array Oper} {Q : Exit → Act → World → Prop} {md : Region.Mode} {S : World → Prop} {z : Nat}

end
end Go.Proofs.YtfmbpdjcoopaeaaDoor

namespace Go.Proofs.YtfmbpdjcoopaeaaDoor
open Go.ChangeShapes Go.WideShapes Go.ChangeAt Go.RowKit

section
variable {H : Type} {enc : TypeId × Value → H} {P : Program} {W W' : World}
theorem trodAll_kept (hl : laidOutB P = true) {sp : Nat → Bool} : ∀ (ts : List TypeId) {vs : List Value} {ds : List (DataW H)} {ps : List MemPlace}, (∀ t ∈ ts, P.readableRec t = true ∧ t < P.types.size) →
    DataW.TrodAll enc P W 0 (fun _ => true) true ts vs ds ps → (∀ p ∈ ps, W.sameAt W' p) → (∀ p ∈ ps, sp p.block = true) → DataW.TrodAll enc P W' 0 sp true ts vs ds ps
  | [], vs, ds, ps, _, h, _, _ => by
    obtain ⟨rfl, rfl, rfl⟩ := trodAll_nil h
    rfl
  | t :: ts, vs, ds, ps, ht, h, h1, h2 => by
    obtain ⟨v, vs', d, ds', p, q, rfl, rfl, rfl, hd, hr⟩ := trodAll_cons h
    have hh := ht t (by simp)
    exact trodAll_cons_mk (WideElems.Trod_stays hl hh.1 hh.2 hd (fun x hx => h1 x (by simp [hx])) (fun x hx => h2 x (by simp [hx])))
      (trodAll_kept hl ts (fun t' ht' => ht t' (by simp [ht'])) hr (fun x hx => h1 x (by simp [hx])) (fun x hx => h2 x (by simp [hx])))

theorem post_law {f : Func} {s : ChangeSpec} {args : Array Value} {ds gs : List (DataW H)} {before : List MemPlace} {tb : TypeId} (hl : laidOutB P = true)
    (hr : ∀ t ∈ f.params.toList, P.readableRec t = true ∧ t < P.types.size) (hv : s.vars = []) (hrt : f.resultTypes = #[tb]) (htb : P.underlying tb = some .bool)
    (hs : s.fn H (ds ++ []) = { results := [.lit (.bool true)], args := ds })
    (hW : DataW.Whole enc P f.params.toList s.vars false W args.toList ds gs before) (hb : Below W.heap.size W W') : s.post enc P f false true false false W args (.bool true) W' := by
  have hW' := hW
  obtain ⟨p, q, hA, hV, rfl, hfz, _⟩ := hW
  rw [hv] at hV
  obtain ⟨rfl, rfl⟩ := trodVars_none hV
  have hlt : ∀ x ∈ p, x.block < W.heap.size := fun x hx => hW'.lt x (by simp [hx])
  refine ⟨ds, [], p ++ [], [], p, [], hW', ?_, ?_, ?_, ?_, fun h => by cases h⟩
  · rw [hs, hrt]
    exact trodAll_cons_mk (shut_bool htb _) trodAll_mk0
  · rw [hs]
    exact trodAll_kept hl _ hr hA (fun x hx => hb.same (hlt x hx)) (fun x hx => by simpa using hlt x hx)
  · rw [hs, hv]
    exact rfl
  · exact hb.frame _
end
end Go.Proofs.YtfmbpdjcoopaeaaDoor

namespace Go.Proofs.YtfmbpdjcoopaeaaDoor
open Go.RowKit

/-- The number that bytes are; the last k bytes of a number. -/
def beN (l : List UInt8) : Nat := l.foldl (fun a b => a * 256 + b.toNat) 0
def toBE (k v : Nat) : List UInt8 := (List.range k).map fun i => UInt8.ofNat (v / 256 ^ (k - 1 - i))
theorem toBE_length (k v : Nat) : (toBE k v).length = k := by simp [toBE]
theorem beN_nil : beN [] = 0 := rfl
theorem beN_snoc (l : List UInt8) (b : UInt8) : beN (l ++ [b]) = beN l * 256 + b.toNat := by simp [beN]
theorem toBE_succ (k v : Nat) : toBE (k + 1) v = toBE k (v / 256) ++ [UInt8.ofNat v] := by
  unfold toBE
  rw [List.range_succ, List.map_append, List.map_singleton, show k + 1 - 1 - k = 0 by omega, Nat.pow_zero, Nat.div_one]
  congr 1
  refine List.map_congr_left fun i hi => ?_
  have : i < k := List.mem_range.1 hi
  rw [Nat.div_div_eq_div_mul, show k + 1 - 1 - i = (k - 1 - i) + 1 by omega, Nat.pow_succ, Nat.mul_comm 256]
theorem beN_toBE (k : Nat) : ∀ v, beN (toBE k v) = v % 256 ^ k := by
  induction k with
  | zero =>
    intro v
    rw [Nat.pow_zero, Nat.mod_one]
    unfold toBE
    exact beN_nil
  | succ k ih =>
    intro v
    have h : v % 256 ^ (k + 1) = v % 256 + 256 * (v / 256 % 256 ^ k) := by rw [show 256 ^ (k + 1) = 256 * 256 ^ k by rw [Nat.pow_succ, Nat.mul_comm], Nat.mod_mul]
    rw [toBE_succ, beN_snoc, ih, UInt8.toNat_ofNat', h]
    omega
theorem toBE_beN : ∀ (n : Nat) (l : List UInt8), l.length = n → toBE n (beN l) = l := by
  intro n
  induction n with
  | zero =>
    intro l h
    rw [List.eq_nil_of_length_eq_zero h]
    unfold toBE
    rfl
  | succ n ih =>
    intro l h
    rcases List.eq_nil_or_concat l with rfl | ⟨L, b, e⟩
    · cases h
    · rw [List.concat_eq_append] at e
      subst e
      have hb := b.toNat_lt
      rw [toBE_succ, beN_snoc, show (beN L * 256 + b.toNat) / 256 = beN L by omega, ih L (by simpa using h)]
      congr 2
      apply UInt8.toNat_inj.1
      rw [UInt8.toNat_ofNat']
      omega
theorem toBE_cons (k v : Nat) : toBE (k + 1) v = UInt8.ofNat (v / 256 ^ k) :: toBE k v := by
  unfold toBE
  rw [List.range_succ_eq_map, List.map_cons, List.map_map]
  congr 1
  refine List.map_congr_left fun i hi => ?_
  have : i < k := List.mem_range.1 hi
  simp only [Function.comp]
  rw [show k + 1 - 1 - (i + 1) = k - 1 - i by omega]
theorem toBE_zero (v : Nat) : toBE 0 v = [] := by unfold toBE; rfl
attribute [irreducible] toBE beN
end Go.Proofs.YtfmbpdjcoopaeaaDoor

namespace Go.Proofs.YtfmbpdjcoopaeaaDoor
open Go.RowKit

theorem run_load_row {P : Program} {o : Oper} {a : Go.Act} {w : World} (ty : TypeId) (x : Operand) (ho : o.op = .load ty x) (g : Nat) (hx : a.eval x = .pointer (some ⟨g, 0, none⟩)) (t : TypeId) (cs : Array Value) (d : TypeDesc) (hg : w.heap[g]? = some (.cells cs t (0, 0)))
    (hu : P.underlying ty = some d) (hd : (match d with | .struct _ | .array _ _ => true | _ => false) = true) (hi : (P.info? ty).map (·.size) = some cs.size) : (execOp a.eval o).run P w = .ok (.value (.agg cs)) w := by
  unfold execOp
  simp only [ho, hx, Instr.loadAt, Instr.sureAddr, Sem.run_bind, Sem.run_pure, Result.andThen_ok, run_loadVar_row w g t ty cs (0, 0) d hg hu hd hi]

section
variable {F : Fence} {n : Nat} {P : Program} {ops : Array Oper} {rest : List Oper} {o : Oper} {a : Go.Act} {w w' : World} {Q : Exit → Go.Act → World → Prop}
theorem wpListIn_value (v : Value) (hg : o.guard = none) (hd : ∀ c, o.op ≠ .defer c) (hab : o.about P w a.eval = none) (hrun : (execOp a.eval o).run P w = .ok (.value v) w')
    (h : wpListIn F n P ops Q rest (a.put o.dst v) w') : wpListIn F n P ops Q (o :: rest) a w := by
  refine wpListIn_plain hg fun K hK => ?_
  unfold Oper.wpIn
  refine ⟨fun f hf => (by rw [hab] at hf; cases hf), ?_⟩
  rw [Oper.semAt_plain F _ _ hd, hrun]
  exact hK _ _ h
theorem wpListIn_unit (hg : o.guard = none) (hd : ∀ c, o.op ≠ .defer c) (hab : o.about P w a.eval = none) (hrun : (execOp a.eval o).run P w = .ok .skip w')
    (h : wpListIn F n P ops Q rest (a.put o.dst undef) w') : wpListIn F n P ops Q (o :: rest) a w := by
  refine wpListIn_plain hg fun K hK => ?_
  unfold Oper.wpIn
  refine ⟨fun f hf => (by rw [hab] at hf; cases hf), ?_⟩
  rw [Oper.semAt_plain F _ _ hd, hrun]
  exact hK _ _ h
theorem wpListIn_load_row (hgd : o.guard = none) (ty : TypeId) (x : Operand) (ho : o.op = .load ty x) (g : Nat) (hx : a.eval x = .pointer (some ⟨g, 0, none⟩)) (t : TypeId) (cs : Array Value) (d : TypeDesc) (hg : w.heap[g]? = some (.cells cs t (0, 0)))
    (hu : P.underlying ty = some d) (hd : (match d with | .struct _ | .array _ _ => true | _ => false) = true) (hi : (P.info? ty).map (·.size) = some cs.size) (h : wpListIn F n P ops Q rest (a.put o.dst (.agg cs)) w) : wpListIn F n P ops Q (o :: rest) a w :=
  wpListIn_value _ hgd (fun c => by rw [ho]; intro e; cases e) (by simp [Oper.about, ho]) (run_load_row ty x ho g hx t cs d hg hu hd hi) h
theorem wpListIn_store_row (hgd : o.guard = none) (ty : TypeId) (x y : Operand) (ho : o.op = .store ty x y) (g : Nat) (cells : Array Value) (hx : a.eval x = .pointer (some ⟨g, 0, none⟩)) (hy : a.eval y = .agg cells)
    (t : TypeId) (old : Array Value) (hg : w.heap[g]? = some (.cells old t (0, 0))) (hi : (P.info? ty).map (·.size) = some cells.size) (hold : old.size = cells.size) (h1 : cells.all (·.oneCell') = true)
    (h : wpListIn F n P ops Q rest (a.put o.dst undef) (w.setRow g cells)) : wpListIn F n P ops Q (o :: rest) a w := by
  refine wpListIn_unit hgd (fun c => by rw [ho]; intro e; cases e) (by simp [Oper.about, ho]) ?_ h
  unfold execOp
  simp only [ho, hx, hy, Instr.storeAt, Instr.sureAddr, Sem.run_bind, Sem.run_pure, Result.andThen_ok, run_storeVar_row w g t ty old cells hg hi hold h1]
/-- An array is loaded out of the middle of a row. -/
theorem wpListIn_load_piece (hgd : o.guard = none) (ty : TypeId) (x : Operand) (ho : o.op = .load ty x) (g off : Nat) (hx : a.eval x = .pointer (some ⟨g, off, none⟩)) (xs : List Value) (d : TypeDesc) (hg : ∀ j v, xs[j]? = some v → w.cell? ⟨g, off + j, none⟩ = some v)
    (hu : P.underlying ty = some d) (hd : (match d with | .struct _ | .array _ _ => true | _ => false) = true) (hi : (P.info? ty).map (·.size) = some xs.length) (h : wpListIn F n P ops Q rest (a.put o.dst (.agg xs.toArray)) w) : wpListIn F n P ops Q (o :: rest) a w := by
  refine wpListIn_value _ hgd (fun c => by rw [ho]; intro e; cases e) (by simp [Oper.about, ho]) ?_ h
  have hl : (loadCells ⟨g, off, none⟩ xs.length).run P w = .ok xs.toArray w :=
    run_loadCells_list (P := P) w ⟨g, off, none⟩ xs (fun j v hv => by rw [add_plain]; exact hg j v hv)
  have hr : (loadVar ty ⟨g, off, none⟩).run P w = .ok (.agg xs.toArray) w := by
    cases hq : P.info? ty with
    | none => simp [hq] at hi
    | some i =>
      have hs : i.size = xs.length := by simpa [hq] using hi
      have hagg : (isAgg ty).run P w = .ok true w := by
        unfold isAgg
        rw [Sem.run_bind, run_underlying hu w]
        cases d <;> simp_all
      simp [loadVar, Sem.run_bind, hagg, sizeOf, typeInfo, hq, hs, hl]
  unfold execOp
  simp only [ho, hx, Instr.loadAt, Instr.sureAddr, Sem.run_bind, Sem.run_pure, Result.andThen_ok, hr]
/-- A slice as an array's address. -/
theorem wpListIn_arrayAt (hgd : o.guard = none) (ty : TypeId) (x : Operand) (ho : o.op = .sliceToArrayPointer ty x) (A : Option Addr) (len cap k : Nat) (e : TypeId) (hx : a.eval x = .slice A len cap) (hu : P.underlying ty = some (.array k e)) (hk : k ≤ len)
    (h : wpListIn F n P ops Q rest (a.put o.dst (.pointer A)) w) : wpListIn F n P ops Q (o :: rest) a w := by
  refine wpListIn_value _ hgd (fun c => by rw [ho]; intro e; cases e) (by simp [Oper.about, ho]) ?_ h
  unfold execOp
  simp only [ho, hx, Instr.arrayAt, Sem.run_bind, run_underlying hu, Result.andThen_ok]
  rw [if_neg (by omega)]
  rfl
end

/-- What a round of the loop keeps: every row of cells but block C. -/
structure KeepsBut (C : Nat) (A B : World) : Prop where
  size : A.heap.size ≤ B.heap.size
  same : ∀ (k : Nat) (cs : Array Value) (t : TypeId) (fr : Nat × Nat), k ≠ C → A.heap[k]? = some (.cells cs t fr) → B.heap[k]? = some (.cells cs t fr)
theorem KeepsBut.refl (C : Nat) (A : World) : KeepsBut C A A := ⟨Nat.le_refl _, fun _ _ _ _ _ h => h⟩
theorem KeepsBut.trans {C : Nat} {A B D : World} (h : KeepsBut C A B) (k : KeepsBut C B D) : KeepsBut C A D := ⟨Nat.le_trans h.size k.size, fun i cs t fr hi h0 => k.same i cs t fr hi (h.same i cs t fr hi h0)⟩
theorem KeepsBut.putObj {C : Nat} (W : World) (l : Nat) (o o' : Obj) (h : W.heap[l]? = some o) (hc : o.isCells = false) : KeepsBut C W (W.putObj l o') :=
  ⟨(grownBy_putObj' W l o').size, fun k cs t fr _ h0 => by
    by_cases e : k = l
    · subst e
      rw [h] at h0
      cases h0
      cases hc
    · exact ((grownBy_putObj' W l o').block k (Array.getElem?_eq_some_iff.1 h0).1 (by simpa using e)).trans h0⟩
theorem KeepsBut.of_below {C : Nat} {A B : World} (h : Below A.heap.size A B) : KeepsBut C A B := ⟨h.size, fun k _ _ _ _ h0 => (h.block k (Array.getElem?_eq_some_iff.1 h0).1).trans h0⟩
theorem KeepsBut.setRow {C : Nat} (A : World) (cs : Array Value) : KeepsBut C A (A.setRow C cs) := ⟨by simp, fun k _ _ _ hk h0 => (setRow_other A C k cs hk).trans h0⟩
theorem KeepsBut.at_ {C g : Nat} {A B : World} {cs : Array Value} {t : TypeId} (h : KeepsBut C A B) (hA : At A g cs t) (hg : g ≠ C) : At B g cs t := h.same g cs t (0, 0) hg hA
theorem grown_of_below {A B : World} (h : Below A.heap.size A B) : A.grownBy B none := ⟨h.os, h.tape, h.output, h.size, fun k hk _ => h.block k hk⟩
theorem others_of_below {A B : World} (h : Below A.heap.size A B) : KeepsOthers A B := ⟨h.size, fun k _ hk _ => (h.block k (Array.getElem?_eq_some_iff.1 hk).1).trans hk⟩
theorem others_setRow {A : World} {C : Nat} {cs ds : Array Value} {t : TypeId} (h : At A C ds t) : KeepsOthers A (A.setRow C cs) := ⟨by simp, fun k _ hk ho => by
  by_cases e : k = C
  · subst e
    have h' : A.heap[k]? = some (.cells ds t (0, 0)) := h
    rw [h'] at hk
    cases hk
    cases ho
  · exact (setRow_other A C k cs e).trans hk⟩
/-- What speaks of a row abides what the loop does beside the body. -/
theorem at_own (g : Nat) (t : TypeId) {β : Type} (f : β → Array Value) : Own (fun (x : β) W => At W g (f x) t) := fun x _ _ _ hs hg hr =>
  (hg.block g hs.lt (fun e => by
    obtain ⟨_, ho, hc⟩ := hr g e.symm
    have h' : _ = some (Obj.cells (f x) t (0, 0)) := hs
    rw [h'] at ho
    cases ho
    cases hc)).trans hs
end Go.Proofs.YtfmbpdjcoopaeaaDoor

namespace Go.Proofs.YtfmbpdjcoopaeaaDoor
open Go.RowKit

section
variable {w : World} {g : Nat} {t : TypeId}
theorem at_ub_put {bs : List UInt8} (h : At w g (ubs bs).toArray t) (i : Nat) (b : UInt8) : At (w.setCell ⟨g, i, none⟩ (.int .u8 (b.toNat : Int))) g (ubs (bs.set i b)).toArray t := by
  have := h.put i (ub b)
  have e : ubs (bs.set i b) = (ubs bs).set i (ub b) := by simp [ubs, List.map_set]
  rw [e, ← List.setIfInBounds_toArray]
  exact this
theorem at_ub_cell {bs : List UInt8} (h : At w g (ubs bs).toArray t) {i : Nat} (hi : i < bs.length) : w.cell? ⟨g, i, none⟩ = some (.int .u8 ((bs.getD i 0).toNat : Int)) := by
  rw [h.cell i, List.getElem?_toArray, ubs_get, List.getD_eq_getElem?_getD, List.getElem?_eq_getElem hi]
  rfl
theorem At.new_at {cs : Array Value} {n : Nat} (h : n = w.heap.size) : At (w.alloc (.cells cs t)) n cs t := by subst h; exact At.new _ _ _
theorem At.setRow_far {w : World} {g j : Nat} {t : TypeId} {cs : Array Value} (h : At w g cs t) (hn : g ≠ j) {ds : Array Value} : At (w.setRow j ds) g cs t := (setRow_other w j g ds hn).trans h
theorem below_drewN {B : Nat} {a w : World} (h : Below B a w) (n : Nat) : Below B a (w.drewN n) := h.trans ⟨rfl, rfl, rfl, Nat.le_refl _, fun _ _ => rfl⟩
theorem below_setRow {B g : Nat} {a w : World} (h : Below B a w) (hg : B ≤ g) (cs : Array Value) : Below B a (w.setRow g cs) :=
  ⟨h.os, h.tape, h.output, by simpa using h.size, fun k hk => (setRow_other w g k cs (by omega)).trans (h.block k hk)⟩
end
def n16 : List UInt8 := List.replicate 16 0
theorem n16_length : n16.length = 16 := by simp [n16]
theorem ubs_all (h : List UInt8) : (ubs h).toArray.all (·.oneCell') = true :=
  Array.all_eq_true_iff_forall_mem.2 (fun v hv => ubs_one h v (by simpa using hv))
theorem b_xor (t : TypeId) (a b : UInt8) : binOp .xor t (.int .u8 (a.toNat : Int)) (.int .u8 (b.toNat : Int)) = pure (.int .u8 ((a ^^^ b).toNat : Int)) := by
  simp only [binOp_xor, Op.intBits]
  show (pure (.int .u8 (IntKind.u8.wrap ((BitVec.ofInt 8 (a.toNat : Int) ^^^ BitVec.ofInt 8 (b.toNat : Int)).toNat : Int))) : Sem Value) = _
  congr 2
  rw [BitVec.ofInt_natCast, BitVec.ofInt_natCast, BitVec.toNat_xor, UInt8.toNat_xor]
  have h1 := a.toNat_lt
  have h2 := b.toNat_lt
  have h3 : a.toNat ^^^ b.toNat < 2 ^ 8 := Nat.xor_lt_two_pow h1 h2
  simp [IntKind.wrap, IntKind.signed, IntKind.bits]
  omega
theorem infoB : (Tryd.prog.info? 5).map (fun i => (i.zero, i.size, i.bytes)) = some (some (.int .u8 0), 1, 1) := by kernel_rfl
structure Own1 (w : World) (n : Nat) (bs : List UInt8) (v : Value) (w' : World) : Prop where
  len : n = bs.length
  own : w'.ownsRow w.heap.size 5 1 v n (ubs bs)
  below : Below w.heap.size w w'
theorem rb_one (w : World) (b : UInt8) : Rb (w.alloc (.cells #[.int .u8 (b.toNat : Int)] 5)) (w.heap.size + 1) (some ⟨w.heap.size, 0, none⟩) [b] :=
  Rd.of_at (At.new w #[.int .u8 (b.toNat : Int)] 5) 0 (fun j u hj => by
    rcases j with _ | j
    · simp [ubs, ub] at hj; subst hj; rfl
    · simp [ubs] at hj) (by omega)
theorem Own1.next {w w' w2 : World} {n : Nat} {bs : List UInt8} {b : UInt8} {v v2 : Value} {o : Obj} (h : Own1 w n bs v w') (h2 : w2.ownsRow w.heap.size 5 1 v2 (n + 1) (ubs bs ++ ubs [b])) (hg : (w'.alloc o).grownBy w2 v.ownBlock) : Own1 w (n + 1) (bs ++ [b]) v2 w2 :=
  ⟨by rw [List.length_append, h.len]; rfl, by rw [ubs_append]; exact h2, (h.below.alloc h.below.size o).grown hg (by have := h.below.size; simp; omega) (fun k hk => (World.ownsRow.lt h.own k hk).1)⟩
theorem Own1.more {w w' w2 : World} {bs cs : List UInt8} {v v2 : Value} {n m : Nat} (h : Own1 w m bs v w') (h2 : w2.ownsRow w.heap.size 5 1 v2 (m + n) (ubs bs ++ ubs cs)) (hn : n = cs.length) (hg : w'.grownBy w2 v.ownBlock) : Own1 w (m + n) (bs ++ cs) v2 w2 :=
  ⟨by rw [List.length_append, h.len, hn], by rw [ubs_append]; exact h2, h.below.grown hg h.below.size (fun k hk => (World.ownsRow.lt h.own k hk).1)⟩
theorem own_grown {w w' : World} {base n : Nat} {e : TypeId} {v : Value} {xs : List Value} {row : Option Nat} (h : w.ownsRow base e 1 v n xs) (hg : w.grownBy w' row) (hne : ∀ g, v.ownBlock = some g → row ≠ some g) : w'.ownsRow base e 1 v n xs := by
  refine ⟨h.1, ?_⟩
  rcases h.2 with h2 | ⟨g, cap, cur, rfl, hb, hh, r⟩
  · exact .inl h2
  · exact .inr ⟨g, cap, cur, rfl, hb, (hg.block g (lt_of_block hh) (fun e' => hne g rfl e'.symm)).trans hh, r⟩
theorem own_start (w : World) : Own1 w 0 [] (.slice (some ⟨w.heap.size, 0, none⟩) 0 0) (w.alloc (.cells #[] 5)) :=
  ⟨rfl, by have := World.ownsRow_made (base := w.heap.size) (e := 5) (size := 1) w #[] 0 (by omega) (by simp [maxLen]) rfl; simpa [ubs] using this, (Below.refl _ _).alloc (Nat.le_refl _) _⟩
theorem rb_at {w : World} {g : Nat} {bs : List UInt8} {t : TypeId} (h : At w g (ubs bs).toArray t) : Rb w w.heap.size (some ⟨g, 0, none⟩) bs :=
  Rd.of_at h 0 (fun j u hj => by rw [Nat.zero_add, List.getElem?_toArray]; exact hj) h.lt
theorem sizeU8 : (Tryd.prog.info? 5).map (·.size) = some 1 := by kernel_rfl
theorem still_of_run {P : Program} {o : Oper} {a : Go.Act} {w : World} {v : Value} {K : Go.Act → Prop} (h : (execOp a.eval o).run P w = .ok (.value v) w) (hK : K (a.put o.dst v)) : o.still P a w K := by
  unfold Oper.still
  rw [h]
  exact ⟨rfl, hK⟩
theorem wpStill_run {P : Program} {ops : Array Oper} {w : World} {Q : Go.Act → Prop} {o : Oper} {rest : List Oper} {a : Go.Act} (v : Value) (hgd : o.guard = none) (h : (execOp a.eval o).run P w = .ok (.value v) w)
    (hK : wpStill P ops w Q rest (a.put o.dst v)) : wpStill P ops w Q (o :: rest) a :=
  wpStill_step (fun K hk => by
    rw [if_pos (by simp [Region.wanted, hgd])]
    exact still_of_run h (hk _ hK))
theorem plainB : Tryd.prog.plainKey 5 = true := by kernel_rfl
theorem cellsB : Tryd.prog.cellsOf 5 = 1 := by kernel_rfl
theorem run_eqItems_ub (w : World) (d : Nat) (a b : List UInt8) (hl : a.length = b.length) : ∀ (m k : Nat), k + m = a.length →
    (Op.eqItems (d + 1) 5 1 (ubs a).toArray (ubs b).toArray (List.range' k m)).run Tryd.prog w = .ok (a.drop k == b.drop k) w := by
  intro m
  induction m with
  | zero =>
    intro k hk
    have h1 : a.drop k = [] := List.drop_eq_nil_of_le (by omega)
    have h2 : b.drop k = [] := List.drop_eq_nil_of_le (by omega)
    simp [Op.eqItems, h1, h2]
  | succ m ih =>
    intro k hk
    have ha : k < a.length := by omega
    have hb : k < b.length := by omega
    have p1 := run_part_plain (P := Tryd.prog) w plainB (xs := (ubs a).toArray) (off := k * 1) (v := .int .u8 (a[k].toNat : Int)) (by rw [Nat.mul_one, List.getElem?_toArray]; exact ubs_at ha)
    have p2 := run_part_plain (P := Tryd.prog) w plainB (xs := (ubs b).toArray) (off := k * 1) (v := .int .u8 (b[k].toNat : Int)) (by rw [Nat.mul_one, List.getElem?_toArray]; exact ubs_at hb)
    have p3 := run_equalIn_int (P := Tryd.prog) w d 5 .u8 .u8 (a[k].toNat : Int) (b[k].toNat : Int) Tryd.underlying5
    rw [List.range'_succ]
    simp only [Op.eqItems, Sem.run_bind, p1, p2, p3, Result.andThen_ok]
    rw [List.drop_eq_getElem_cons ha, List.drop_eq_getElem_cons hb]
    by_cases he : a[k] = b[k]
    · have e1 : (((a[k].toNat : Int) == (b[k].toNat : Int))) = true := by rw [he]; simp
      simp only [e1, Bool.not_true, Bool.false_eq_true, if_false]
      rw [ih (k + 1) (by omega), List.cons_beq_cons, he]
      simp only [beq_self_eq_true, Bool.true_and]
    · have e1 : (((a[k].toNat : Int) == (b[k].toNat : Int))) = false := by
        simp only [beq_eq_false_iff_ne, ne_eq]
        exact fun h => he (UInt8.toNat_inj.1 (by omega))
      have e2 : (a[k] == b[k]) = false := by simpa using he
      simp only [e1, Bool.not_false, if_true, Sem.run_pure]
      rw [List.cons_beq_cons, e2]
      rfl
theorem run_eql_op {o : Oper} {a : Go.Act} (T t2 : TypeId) (x y : Operand) (ho : o.op = .binOp .eql T x y t2) (u v : Array Value) (hx : a.eval x = .agg u) (hy : a.eval y = .agg v) (hgt : Tryd.prog.eqGuardType Tryd.prog.depth T = false) (b : Bool) (w : World) (h : (binOp .eql T (.agg u) (.agg v)).run Tryd.prog w = .ok (.bool b) w) :
    (execOp a.eval o).run Tryd.prog w = .ok (.value (.bool b)) w := by
  unfold execOp
  simp only [ho, hx, hy, Sem.run_bind]
  have hg : (eqGuard .eql T x y (.agg u) (.agg v)).run Tryd.prog w = .ok () w := run_eqGuard_agg w .eql T x y u v hgt
  rw [hg]
  simp only [Result.andThen_ok, h, Sem.run_pure]
section
variable {P : Program} {ops : Array Oper} {Q : Exit → Act → World → Prop} {md : Region.Mode} {S : World → Prop} {z : Nat}
theorem wpUpto_takeL {i t : Nat} {oi : Oper} {v : Value} {fuel : Nat} {listed : Array Bool} {l : List Value} {d : List Deferred} {w : World} (hi : ops[i]? = some oi) (hd : oi.dst = some t)
    (hs : Region.noSelect ops = true) (hf : Region.free md ops listed i = true) (hr : (Region.ready md ops listed).contains i = true) (hw : waits md ops z i = true) (hiz : i ≠ z)
    (hQ : ∀ c a w, Q (.panic c) (a.put oi.dst v) w → Q (.panic c) a w) (hy : YieldsIf P ops S oi v ⟨l.toArray, d⟩) (hS : S w)
    (h : wpUpto P md ops Q S z fuel (listed.setIfInBounds i true) ⟨(l.set t v).toArray, d⟩ w) : wpUpto P md ops Q S z (fuel + 1) listed ⟨l.toArray, d⟩ w := by
  refine wpUpto_take hi hs hf hr hw hiz hQ hy hS ?_
  rw [hd]
  simpa [Act.put] using h
end
end Go.Proofs.YtfmbpdjcoopaeaaDoor

namespace Go.Proofs.YtfmbpdjcoopaeaaDoor
open Go.RowKit

end Go.Proofs.YtfmbpdjcoopaeaaDoor

namespace Go.Proofs.YtfmbpdjcoopaeaaDoor
open Go.RowKit

theorem madeB (n : Nat) : madeCells (Value.int .u8 0).cells (n * 1) = (ubs (List.replicate n 0)).toArray := by
  apply Array.toList_inj.1
  rw [Nat.mul_one]
  show (madeCells #[Value.int .u8 0] n).toList = _
  rw [toList_madeCells_one]
  simp [ubs, ub]
/-- make([]byte, n). -/
theorem run_makeB (n : Nat) (h : n ≤ 281474976710656) (w : World) : (Instr.makeSlice 22 (.int .i64 (n : Int)) (.int .i64 (n : Int))).run Tryd.prog w = .ok (.slice (some ⟨w.heap.size, 0, none⟩) n n) (w.alloc (.cells (ubs (List.replicate n 0)).toArray 5)) := by
  obtain ⟨i0, hi, hz0, hz1, hz2⟩ := info_parts infoB
  have := run_make (P := Tryd.prog) w 22 5 i0 _ Tryd.underlying22 hi hz0 .i64 .i64 n n (by omega) (by omega) (by rw [hz2]; omega) (by omega)
  rw [hz1, Int.toNat_natCast, madeB] at this
  exact this
end Go.Proofs.YtfmbpdjcoopaeaaDoor

namespace Go.Proofs.YtfmbpdjcoopaeaaDoor
open Go.RowKit

end Go.Proofs.YtfmbpdjcoopaeaaDoor

namespace Go.Proofs.YtfmbpdjcoopaeaaDoor
open Go.RowKit

section
variable {w : World}
end
/-- An operation behind a guard that lets it, which yields a value. -/
theorem wpList_valW {P : Program} {ops : Array Oper} {rest : List Oper} {o : Oper} {a : Go.Act} {w w' : World} {Q : Exit → Go.Act → World → Prop} {v : Value} (hw : Region.wanted o (yielded ops a.tmps) = true) (hrun : (execOp a.eval o).run P w = .ok (.value v) w')
    (h : wpList P ops Q rest (a.put o.dst v) w') : wpList P ops Q (o :: rest) a w :=
  BigFrame.wpList_want hw fun K hK => by
    unfold Oper.wp
    rw [hrun]
    exact hK _ _ h
theorem run_neq_op {o : Oper} {a : Go.Act} (T t2 : TypeId) (x y : Operand) (ho : o.op = .binOp .neq T x y t2) (u v : Array Value) (hx : a.eval x = .agg u) (hy : a.eval y = .agg v) (hgt : Tryd.prog.eqGuardType Tryd.prog.depth T = false) (b : Bool) (w : World) (h : (binOp .neq T (.agg u) (.agg v)).run Tryd.prog w = .ok (.bool b) w) :
    (execOp a.eval o).run Tryd.prog w = .ok (.value (.bool b)) w := by
  unfold execOp
  simp only [ho, hx, hy, Sem.run_bind]
  have hg : (eqGuard .neq T x y (.agg u) (.agg v)).run Tryd.prog w = .ok () w := run_eqGuard_agg w .neq T x y u v hgt
  rw [hg]
  simp only [Result.andThen_ok, h, Sem.run_pure]
theorem results_row_tmp {P : Program} {fn : Func} {u p : Tmp} {ty : TypeId} (h : fn.results = #[.cell p ty, .tmp u]) (tmps : Array Value) (w : World) (g : Nat) (t : TypeId) (cs : Array Value) (fr : Nat × Nat) (d : TypeDesc)
    (hp : tmps.getD p undef = .pointer (some ⟨g, 0, none⟩)) (hg : w.heap[g]? = some (.cells cs t fr))
    (hu : P.underlying ty = some d) (hd : (match d with | .struct _ | .array _ _ => true | _ => false) = true) (hi : (P.info? ty).map (·.size) = some cs.size) :
    (results fn tmps).run P w = .ok (.tuple #[.agg cs, tmps.getD u undef]) w := by
  have hp' : tmps[p]?.getD undef = .pointer (some ⟨g, 0, none⟩) := by simpa using hp
  simp [results, h, hp', asAddr, Result.andThen, run_loadVar_row w g t ty cs fr d hg hu hd hi]
end Go.Proofs.YtfmbpdjcoopaeaaDoor

namespace Go.Proofs.YtfmbpdjcoopaeaaDoor
open Go.RowKit

/-- The frame with what the first operations yield. -/
def frm (vals : Nat → Value) : Nat → List Nat → List Value → List Value
  | _, [], l => l
  | i, t :: r, l => frm vals (i + 1) r (l.set t (vals i))
theorem frm_nil (vals : Nat → Value) (i : Nat) (l : List Value) : frm vals i [] l = l := rfl
theorem frm_cons (vals : Nat → Value) (i t : Nat) (r : List Nat) (l : List Value) : frm vals i (t :: r) l = frm vals (i + 1) r (l.set t (vals i)) := rfl
theorem frm_set (vals : Nat → Value) (ds : List Nat) : ∀ (i t : Nat) (l : List Value) (v : Value), t ∉ ds → (frm vals i ds l).set t v = frm vals i ds (l.set t v) := by
  induction ds with
  | nil => exact fun _ _ _ _ _ => rfl
  | cons s r ih =>
    intro i t l v h
    rw [frm_cons, frm_cons, ih _ _ _ _ (fun e => h (List.mem_cons_of_mem _ e)), List.set_comm]
    rintro rfl
    exact h (List.mem_cons_self ..)
theorem frm_congr (vals vals' : Nat → Value) (ds : List Nat) : ∀ (i : Nat) (l : List Value), (∀ j, i ≤ j → vals j = vals' j) → frm vals i ds l = frm vals' i ds l := by
  induction ds with
  | nil => exact fun _ _ _ => rfl
  | cons t r ih =>
    intro i l h
    rw [frm_cons, frm_cons, ih _ _ (fun j hj => h j (by omega)), h i (Nat.le_refl _)]
/-- One value more. -/
def upv (vals : Nat → Value) (i : Nat) (v : Value) : Nat → Value := fun j => if j = i then v else vals j
theorem frm_put (vals : Nat → Value) (v : Value) (ds : List Nat) (hd : ds.Nodup) : ∀ (i k t : Nat) (l : List Value), ds[k]? = some t → (frm vals i ds l).set t v = frm (upv vals (i + k) v) i ds l := by
  induction ds with
  | nil => intro i k t l h; cases h
  | cons s r ih =>
    intro i k t l h
    obtain ⟨h1, h2⟩ := List.nodup_cons.1 hd
    cases k with
    | zero =>
      obtain rfl : s = t := by simpa using h
      rw [frm_cons, frm_cons, frm_set _ _ _ _ _ _ h1, List.set_set, show upv vals (i + 0) v i = v by simp [upv]]
      exact frm_congr _ _ _ _ _ (fun j hj => by simp only [upv]; rw [if_neg (by omega)])
    | succ k =>
      rw [frm_cons, frm_cons, ih h2 (i + 1) k t _ (by simpa using h), show i + (k + 1) = i + 1 + k by omega]
      rw [show upv vals (i + 1 + k) v i = vals i by simp only [upv]; rw [if_neg (by omega)]]
/-- What the slots hold as it is. -/
def was (ds : List Nat) (l : List Value) (i : Nat) : Value := l.getD (ds.getD i 0) undef
theorem frm_id (vals : Nat → Value) (ds : List Nat) : ∀ (i : Nat) (l : List Value), (∀ k t, ds[k]? = some t → l[t]? = some (vals (i + k))) → frm vals i ds l = l := by
  induction ds with
  | nil => exact fun _ _ _ => rfl
  | cons t r ih =>
    intro i l h
    have h0 := h 0 t rfl
    have e : l.set t (vals i) = l := by
      apply List.ext_getElem?
      intro j
      rw [List.getElem?_set]
      by_cases hj : t = j
      · subst hj
        rw [if_pos rfl]
        obtain ⟨hlt, hv⟩ := List.getElem?_eq_some_iff.1 h0
        rw [if_pos hlt, h0]
        rfl
      · rw [if_neg hj]
    rw [frm_cons, e]
    exact ih (i + 1) l (fun k s hs => by rw [show i + 1 + k = i + (k + 1) by omega]; exact h (k + 1) s (by simpa using hs))

section
variable {ops : Array Oper} {step : Nat → (Act → World → Prop) → Act → World → Prop} {Qn : Act → World → Prop}
/-- Whatever comes up next, by whatever an operation's step is. -/
def gAny (step : Nat → (Act → World → Prop) → Act → World → Prop) (ops : Array Oper) (Qn : Act → World → Prop) : Nat → Array Bool → Act → World → Prop
  | 0, listed, a, w => Region.ready .any ops listed = [] ∧ Qn a w
  | fuel + 1, listed, a, w => (Region.ready .any ops listed = [] → Qn a w) ∧ ∀ i ∈ Region.ready .any ops listed, step i (gAny step ops Qn fuel (listed.setIfInBounds i true)) a w
/-- Operation i waits for operation j. -/
def needs (ops : Array Oper) (i j : Nat) : Bool := ((ops[i]?).map fun o => o.after.any fun e => Region.binds .any e && e.on == j).getD false
/-- What is asked of the region: the first m operations have slots of their own, wait for earlier ones alone, and all others wait for them. -/
def factsB (ops : Array Oper) (m n : Nat) (ds : List Nat) (len : Nat) : Bool :=
  ops.size == n && ds.length == m && decide (m ≤ n) && decide ds.Nodup && ds.all (· < len) &&
  (List.range m).all (fun i => ((ops[i]?).map fun o => o.dst == ds[i]? && o.after.all fun e => !Region.binds .any e || decide (e.on < i)).getD false) &&
  (List.range n).all (fun j => decide (j < m) || (List.range m).all fun i => needs ops j i)
/-- The first m are listed. -/
def listedTo (n m : Nat) : Array Bool := Array.ofFn (n := n) fun i => decide (i.val < m)
def left (listed : Array Bool) (m : Nat) : Nat := ((List.range m).filter fun i => !listed.getD i true).length
theorem left_set (listed : Array Bool) (i : Nat) : ∀ m, i < m → listed.getD i true = false → left (listed.setIfInBounds i true) m + 1 = left listed m := by
  intro m
  induction m with
  | zero => intro h; omega
  | succ m ih =>
    intro hi hl
    have hlt : i < listed.size := by
      rcases Nat.lt_or_ge i listed.size with h | h
      · exact h
      · rw [Array.getD_eq_getD_getElem?, Array.getElem?_eq_none h] at hl
        cases hl
    unfold left at ih ⊢
    rw [List.range_succ, List.filter_append, List.filter_append, List.length_append, List.length_append]
    by_cases e : i = m
    · subst e
      have h1 : (List.range i).filter (fun k => !(listed.setIfInBounds i true).getD k true) = (List.range i).filter (fun k => !listed.getD k true) :=
        List.filter_congr fun k hk => by rw [getD_set_ne true (by have := List.mem_range.1 hk; omega)]
      have h2 : (listed.setIfInBounds i true).getD i true = true := by simp [hlt]
      have h5 : (List.filter (fun k => !(listed.setIfInBounds i true).getD k true) [i]) = [] := List.filter_cons_of_neg (by rw [h2]; simp)
      have h6 : (List.filter (fun k => !listed.getD k true) [i]) = [i] := by rw [List.filter_cons_of_pos (by rw [hl]; rfl), List.filter_nil]
      rw [h1, h5, h6]
      simp
    · have h3 := ih (by omega) hl
      rw [← h3]
      have h4 : (listed.setIfInBounds i true).getD m true = listed.getD m true := getD_set_ne true e
      simp only [List.filter_cons, List.filter_nil, h4]
      split <;> simp <;> omega
theorem left_pos (listed : Array Bool) (m i : Nat) (hi : i < m) (h : listed.getD i true = false) : 0 < left listed m := by
  have := left_set listed i m hi h
  omega
theorem left_zero (listed : Array Bool) (m : Nat) (h : left listed m = 0) (i : Nat) (hi : i < m) : listed.getD i true = true := by
  cases e : listed.getD i true with
  | true => rfl
  | false => have := left_pos listed m i hi e; omega
/-- The least one that isn't listed. -/
theorem least_left (listed : Array Bool) (m : Nat) (h : left listed m ≠ 0) : ∃ i, i < m ∧ listed.getD i true = false ∧ ∀ j, j < i → listed.getD j true = true := by
  have hex : ∃ i, i < m ∧ listed.getD i true = false := by
    refine Classical.byContradiction fun hno => h ?_
    unfold left
    rw [List.length_eq_zero_iff, List.filter_eq_nil_iff]
    intro i hi
    cases e : listed.getD i true with
    | true => simp
    | false => exact (hno ⟨i, List.mem_range.1 hi, e⟩).elim
  have key : ∀ k, (∃ i, i < m ∧ listed.getD i true = false ∧ i ≤ k) → ∃ i, i < m ∧ listed.getD i true = false ∧ ∀ j, j < i → listed.getD j true = true := by
    intro k
    induction k with
    | zero =>
      rintro ⟨i, h1, h2, h3⟩
      exact ⟨i, h1, h2, fun j hj => by omega⟩
    | succ k ih =>
      rintro ⟨i, h1, h2, h3⟩
      by_cases hsm : ∃ j, j < i ∧ listed.getD j true = false
      · obtain ⟨j, hj, hf⟩ := hsm
        exact ih ⟨j, by omega, hf, by omega⟩
      · refine ⟨i, h1, h2, fun j hj => ?_⟩
        cases e : listed.getD j true with
        | true => rfl
        | false => exact (hsm ⟨j, hj, e⟩).elim
  obtain ⟨i, h1, h2⟩ := hex
  exact key i ⟨i, h1, h2, Nat.le_refl _⟩

theorem gAny_facts {l : List Value} {d : List Deferred} (m n : Nat) (ds : List Nat) (F : Nat → Value → World → Prop) (B : World → Prop) (hc : factsB ops m n ds l.length = true)
    (hB : ∀ W W', B W → Below W.heap.size W W' → B W') (hF : ∀ i v W W', F i v W → Below W.heap.size W W' → F i v W')
    (hstep : ∀ i, i < m → ∀ (vals : Nat → Value) (W : World) (K : Act → World → Prop), B W → (∀ j, needs ops i j = true → F j (vals j) W) →
      (∀ v W', F i v W' → Below W.heap.size W W' → K { tmps := ((frm vals 0 ds l).set (ds.getD i 0) v).toArray, defers := d } W') → step i K { tmps := (frm vals 0 ds l).toArray, defers := d } W)
    (hend : ∀ (vals : Nat → Value) (W : World), B W → (∀ i, i < m → F i (vals i) W) → gAny step ops Qn (n - m) (listedTo n m) { tmps := (frm vals 0 ds l).toArray, defers := d } W) :
    ∀ (c : Nat) (listed : Array Bool) (vals : Nat → Value) (W : World), listed.size = n → (∀ j, m ≤ j → j < n → listed.getD j true = false) → left listed m = c → B W →
      (∀ i, i < m → listed.getD i true = true → F i (vals i) W) → gAny step ops Qn (c + (n - m)) listed { tmps := (frm vals 0 ds l).toArray, defers := d } W := by
  simp only [factsB, Bool.and_eq_true, beq_iff_eq, decide_eq_true_eq, List.all_eq_true, List.mem_range, Bool.or_eq_true] at hc
  obtain ⟨⟨⟨⟨⟨⟨hsz, hdl⟩, hmn⟩, hnd⟩, hlt⟩, hone⟩, hlast⟩ := hc
  have hops : ∀ i, i < m → ∃ o, ops[i]? = some o ∧ o.dst = ds[i]? ∧ ∀ e ∈ o.after, Region.binds .any e = true → e.on < i := by
    intro i hi
    have h1 := hone i hi
    cases ho : ops[i]? with
    | none => rw [ho] at h1; cases h1
    | some o =>
      rw [ho] at h1
      simp only [Option.map_some, Option.getD_some, Bool.and_eq_true, beq_iff_eq, Array.all_eq_true', Bool.or_eq_true, decide_eq_true_eq, Bool.not_eq_true'] at h1
      refine ⟨o, rfl, h1.1, fun e he hb => ?_⟩
      rcases h1.2 e he with h2 | h2
      · rw [hb] at h2; cases h2
      · exact h2
  intro c
  induction c with
  | zero =>
    intro listed vals W hs hun hl hBW hFW
    have e : listed = listedTo n m := by
      apply Array.ext_getElem?
      intro i
      by_cases hi : i < n
      · have h1 : listed.getD i true = decide (i < m) := by
          by_cases him : i < m
          · rw [left_zero listed m hl i him]; simp [him]
          · rw [hun i (by omega) hi]; simp [him]
        have h2 : i < listed.size := by omega
        rw [Array.getD_eq_getD_getElem?, Array.getElem?_eq_getElem h2] at h1
        rw [Array.getElem?_eq_getElem h2]
        simp only [Option.getD_some] at h1
        rw [h1]
        simp [listedTo, hi]
      · rw [Array.getElem?_eq_none (by omega), Array.getElem?_eq_none (by simp [listedTo]; omega)]
    rw [e, Nat.zero_add]
    exact hend vals W hBW (fun i hi => hFW i hi (left_zero listed m hl i hi))
  | succ c ih =>
    intro listed vals W hs hun hl hBW hFW
    rw [show c + 1 + (n - m) = (c + (n - m)) + 1 by omega]
    refine ⟨fun h0 => ?_, fun i hi => ?_⟩
    · obtain ⟨i, him, hif, hlo⟩ := least_left listed m (by omega)
      obtain ⟨o, ho, _, hed⟩ := hops i him
      have : i ∈ Region.ready .any ops listed := by
        rw [mem_ready]
        refine ⟨hif, o, ho, fun e he hb => ?_⟩
        have h1 := hlo e.on (hed e he hb)
        have h2 : e.on < listed.size := by have := hed e he hb; omega
        rw [Array.getD_eq_getD_getElem?, Array.getElem?_eq_getElem h2] at h1 ⊢
        exact h1
      rw [h0] at this
      cases this
    · obtain ⟨hif, o, ho, hall⟩ := mem_ready.1 hi
      have hin : i < n := by have := (Array.getElem?_eq_some_iff.1 ho).1; omega
      have him : i < m := by
        rcases Nat.lt_or_ge i m with h | h
        · exact h
        · exfalso
          obtain ⟨k, hkm, hkf, _⟩ := least_left listed m (by omega)
          have h1 := (hlast i hin).resolve_left (by omega) k hkm
          simp only [needs, ho, Option.map_some, Option.getD_some, Array.any_eq_true', Bool.and_eq_true, beq_iff_eq] at h1
          obtain ⟨e, he, hb, rfl⟩ := h1
          have h2 := hall e he hb
          have h3 : e.on < listed.size := by omega
          rw [Array.getD_eq_getD_getElem?, Array.getElem?_eq_getElem h3] at h2 hkf
          simp only [Option.getD_some] at h2 hkf
          rw [h2] at hkf
          cases hkf
      have hnl : ∀ j, needs ops i j = true → listed.getD j true = true ∧ j < i := by
        intro j hj
        simp only [needs, ho, Option.map_some, Option.getD_some, Array.any_eq_true', Bool.and_eq_true, beq_iff_eq] at hj
        obtain ⟨e, he, hb, rfl⟩ := hj
        obtain ⟨o', ho', _, hed⟩ := hops i him
        rw [ho] at ho'
        cases ho'
        have h1 := hall e he hb
        have h2 := hed e he hb
        have h3 : e.on < listed.size := by omega
        refine ⟨?_, h2⟩
        rw [Array.getD_eq_getD_getElem?, Array.getElem?_eq_getElem h3] at h1 ⊢
        exact h1
      have hdi : ds[i]? = some (ds.getD i 0) := by
        have : i < ds.length := by omega
        rw [List.getD_eq_getElem?_getD, List.getElem?_eq_getElem this]
        rfl
      refine hstep i him vals W _ hBW (fun j hj => hFW j (by have := (hnl j hj).2; omega) (hnl j hj).1) fun v W' hFi hb => ?_
      have hp := frm_put vals v ds hnd 0 i (ds.getD i 0) l hdi
      rw [Nat.zero_add] at hp
      rw [hp]
      refine ih _ (upv vals i v) W' (by simp [hs]) (fun j h1 h2 => by rw [getD_set_ne true (by omega)]; exact hun j h1 h2) (by have := left_set listed i m him hif; omega) (hB _ _ hBW hb) (fun k hk hkl => ?_)
      by_cases hki : k = i
      · subst hki
        rw [show upv vals k v k = v by simp [upv]]
        exact hFi
      · rw [show upv vals i v k = vals k by simp [upv, hki]]
        rw [getD_set_ne true (Ne.symm hki)] at hkl
        exact hF _ _ _ _ (hFW k hk hkl) hb

theorem gAny_region {l : List Value} {d : List Deferred} {w : World} (m n : Nat) (ds : List Nat) (F : Nat → Value → World → Prop) (B : World → Prop) (hc : factsB ops m n ds l.length = true)
    (hB : ∀ W W', B W → Below W.heap.size W W' → B W') (hF : ∀ i v W W', F i v W → Below W.heap.size W W' → F i v W') (h0 : B w)
    (hstep : ∀ i, i < m → ∀ (vals : Nat → Value) (W : World) (K : Act → World → Prop), B W → (∀ j, needs ops i j = true → F j (vals j) W) →
      (∀ v W', F i v W' → Below W.heap.size W W' → K { tmps := ((frm vals 0 ds l).set (ds.getD i 0) v).toArray, defers := d } W') → step i K { tmps := (frm vals 0 ds l).toArray, defers := d } W)
    (hend : ∀ (vals : Nat → Value) (W : World), B W → (∀ i, i < m → F i (vals i) W) → gAny step ops Qn (n - m) (listedTo n m) { tmps := (frm vals 0 ds l).toArray, defers := d } W) :
    gAny step ops Qn ops.size (Array.replicate ops.size false) { tmps := l.toArray, defers := d } w := by
  have hc' := hc
  simp only [factsB, Bool.and_eq_true, beq_iff_eq, decide_eq_true_eq, List.all_eq_true, List.mem_range, Bool.or_eq_true] at hc'
  obtain ⟨⟨⟨⟨⟨⟨hsz, hdl⟩, hmn⟩, hnd⟩, hlt⟩, hone⟩, hlast⟩ := hc'
  have hid0 : frm (was ds l) 0 ds l = l := frm_id _ _ _ _ fun k t hk => by
    have h1 := hlt t (List.mem_of_getElem? hk)
    rw [Nat.zero_add, was, List.getD_eq_getElem?_getD (l := ds), hk, Option.getD_some, List.getD_eq_getElem?_getD, List.getElem?_eq_getElem h1]
    rfl
  have hr0 : ∀ i, i < n → (Array.replicate n false).getD i true = false := fun i hi => by rw [Array.getD_eq_getD_getElem?, Array.getElem?_replicate, if_pos hi]; rfl
  have hl0 : left (Array.replicate n false) m = m := by
    unfold left
    rw [List.filter_eq_self.2 (fun i hi => by rw [hr0 i (by have := List.mem_range.1 hi; omega)]; rfl), List.length_range]
  have := gAny_facts (step := step) (Qn := Qn) m n ds F B hc hB hF hstep hend m (Array.replicate n false) (was ds l) w (by simp) (fun j _ hj => hr0 j hj) hl0 h0
    (fun i hi h => by rw [hr0 i (by omega)] at h; cases h)
  rw [hid0, show m + (n - m) = n by omega] at this
  rw [hsz]
  exact this
end
section
variable {P : Program} {ops : Array Oper} {Q : Exit → Act → World → Prop}
theorem gAny_any : ∀ (fuel : Nat) (listed : Array Bool) (a : Act) (w : World), gAny (wpOp P ops Q) ops (Q .normal) fuel listed a w → wpAny P .any ops Q fuel listed a w
  | 0, _, _, _, h => h
  | fuel + 1, _, _, _, h => ⟨h.1, fun i hi => wpOp_mono (fun a' w' h' => gAny_any fuel _ a' w' h') (h.2 i hi)⟩
theorem any_gAny : ∀ (fuel : Nat) (listed : Array Bool) (a : Act) (w : World), wpAny P .any ops Q fuel listed a w → gAny (wpOp P ops Q) ops (Q .normal) fuel listed a w
  | 0, _, _, _, h => h
  | fuel + 1, _, _, _, h => ⟨h.1, fun i hi => wpOp_mono (fun a' w' h' => any_gAny fuel _ a' w' h') (h.2 i hi)⟩
theorem wp_region_facts {id : Nat} {l : List Value} {d : List Deferred} {w : World} (m n : Nat) (ds : List Nat) (F : Nat → Value → World → Prop) (B : World → Prop) (hm : P.follows .mixedOrders = true) (hc : factsB ops m n ds l.length = true)
    (hB : ∀ W W', B W → Below W.heap.size W W' → B W') (hF : ∀ i v W W', F i v W → Below W.heap.size W W' → F i v W') (h0 : B w.drew)
    (hstep : ∀ i, i < m → ∀ (vals : Nat → Value) (W : World) (K : Act → World → Prop), B W → (∀ j, needs ops i j = true → F j (vals j) W) →
      (∀ v W', F i v W' → Below W.heap.size W W' → K { tmps := ((frm vals 0 ds l).set (ds.getD i 0) v).toArray, defers := d } W') → wpOp P ops Q i K { tmps := (frm vals 0 ds l).toArray, defers := d } W)
    (hend : ∀ (vals : Nat → Value) (W : World), B W → (∀ i, i < m → F i (vals i) W) → wpUpto P .any ops Q (fun _ => True) n (n - m) (listedTo n m) { tmps := (frm vals 0 ds l).toArray, defers := d } W) :
    (Code.region id ops true).wp P Q { tmps := l.toArray, defers := d } w := by
  refine wp_region_any hm (gAny_any _ _ _ _ ?_)
  exact gAny_region m n ds F B hc hB hF h0 hstep (fun vals W hb hf => any_gAny _ _ _ _ (wpUpto_any _ _ _ _ (hend vals W hb hf)))
theorem wpOp_plain {i : Nat} {o : Oper} {K : Act → World → Prop} {a : Act} {w : World} (ho : ops[i]? = some o) (hg : o.guard = none) (h : o.wp P a w K Q) : wpOp P ops Q i K a w := by
  unfold wpOp
  rw [ho]
  simp only [Region.wanted, hg, if_true]
  exact .inl h
/-- Behind a guard that lets it. -/
theorem wpOp_on {i : Nat} {o : Oper} {K : Act → World → Prop} {a : Act} {w : World} (ho : ops[i]? = some o) (hg : Region.wanted o (yielded ops a.tmps) = true) (h : o.wp P a w K Q) : wpOp P ops Q i K a w := by
  unfold wpOp
  rw [ho]
  simp only [hg, if_true]
  exact .inl h
/-- Behind a guard that doesn't. -/
theorem wpOp_off {i : Nat} {o : Oper} {K : Act → World → Prop} {a : Act} {w : World} (ho : ops[i]? = some o) (hg : Region.wanted o (yielded ops a.tmps) = false) (h : K (a.put o.dst undef) w) : wpOp P ops Q i K a w := by
  unfold wpOp
  rw [ho]
  simp only [hg]
  exact h
theorem wp_val {o : Oper} {K : Act → World → Prop} {a : Act} {w w' : World} {v : Value} (hrun : (execOp a.eval o).run P w = .ok (.value v) w') (h : K (a.put o.dst v) w') : o.wp P a w K Q := by
  unfold Oper.wp
  rw [hrun]
  exact h
end
section
variable {F : Fence} {rm : Nat} {P : Program} {ops : Array Oper} {Q : Exit → Act → World → Prop}
end
end Go.Proofs.YtfmbpdjcoopaeaaDoor

namespace Go.Proofs.YtfmbpdjcoopaeaaDoor
open Go.RowKit

section
variable {ops : Array Oper} {step : Nat → (Act → World → Prop) → Act → World → Prop} {Qn : Act → World → Prop}
/-- Operation j waits for operation a, by way of those of ns. -/
def comes (ops : Array Oper) (ns : List Nat) : Nat → Nat → Nat → Bool
  | 0, j, a => needs ops j a
  | f + 1, j, a => needs ops j a || ns.any fun i => needs ops j i && comes ops ns f i a
/-- What is asked: ns (slots ds) wait for earlier ones of ns and for what is done; what is left waits for all of ns, or for something else that is left. -/
def factsG (ops : Array Oper) (n : Nat) (ns ds : List Nat) (done : Array Bool) (len : Nat) : Bool :=
  ops.size == n && done.size == n && ns.length == ds.length && decide ns.Nodup && decide ds.Nodup && ds.all (· < len) && ns.all (· < n) && ns.all (fun a => !done.getD a true) &&
  (List.range ns.length).all (fun k => ((ops[ns.getD k 0]?).map fun o => o.dst == ds[k]? && o.after.all fun e => !Region.binds .any e || (ns.take k).contains e.on || done.getD e.on false).getD false) &&
  (List.range n).all (fun j => done.getD j true || ns.contains j || ((ns.all fun a => comes ops ns 12 j a) || (List.range n).any fun k => needs ops j k && (!ns.contains k && !done.getD k true)))
def leftG (listed : Array Bool) (ns : List Nat) : Nat := (ns.filter fun i => !listed.getD i true).length
theorem leftG_set (listed : Array Bool) (i : Nat) (hlt : i < listed.size) (hl : listed.getD i true = false) : ∀ ns : List Nat, ns.Nodup → i ∈ ns → leftG (listed.setIfInBounds i true) ns + 1 = leftG listed ns := by
  intro ns
  induction ns with
  | nil => intro _ h; cases h
  | cons a r ih =>
    intro hn hm
    obtain ⟨h1, h2⟩ := List.nodup_cons.1 hn
    have hself : (listed.setIfInBounds i true).getD i true = true := by simp [hlt]
    unfold leftG at ih ⊢
    by_cases e : a = i
    · subst e
      have h3 : r.filter (fun k => !(listed.setIfInBounds a true).getD k true) = r.filter (fun k => !listed.getD k true) := List.filter_congr fun k hk => by rw [getD_set_ne true (fun e => h1 (by rw [e]; exact hk))]
      rw [List.filter_cons_of_neg (by rw [hself]; simp), List.filter_cons_of_pos (by rw [hl]; rfl), h3, List.length_cons]
    · have h4 : i ∈ r := by
        rcases List.mem_cons.1 hm with h | h
        · exact absurd h.symm e
        · exact h
      have h5 := ih h2 h4
      have h6 : (listed.setIfInBounds i true).getD a true = listed.getD a true := getD_set_ne true (Ne.symm e)
      by_cases h7 : listed.getD a true = true
      · rw [List.filter_cons_of_neg (by rw [h6, h7]; simp), List.filter_cons_of_neg (by rw [h7]; simp)]
        exact h5
      · have h8 : listed.getD a true = false := by simpa using h7
        rw [List.filter_cons_of_pos (by rw [h6, h8]; rfl), List.filter_cons_of_pos (by rw [h8]; rfl), List.length_cons, List.length_cons]
        omega
theorem leftG_zero (listed : Array Bool) (ns : List Nat) (h : leftG listed ns = 0) (a : Nat) (ha : a ∈ ns) : listed.getD a true = true := by
  unfold leftG at h
  rw [List.length_eq_zero_iff, List.filter_eq_nil_iff] at h
  simpa using h a ha
/-- The first one of ns that isn't listed. -/
theorem first_left (listed : Array Bool) : ∀ ns : List Nat, leftG listed ns ≠ 0 → ∃ k, k < ns.length ∧ listed.getD (ns.getD k 0) true = false ∧ ∀ a ∈ ns.take k, listed.getD a true = true := by
  intro ns
  induction ns with
  | nil => intro h; exact absurd rfl h
  | cons a r ih =>
    intro h
    by_cases h7 : listed.getD a true = true
    · obtain ⟨k, h1, h2, h3⟩ := ih (by
        unfold leftG at h ⊢
        rw [List.filter_cons_of_neg (by rw [h7]; simp)] at h
        exact h)
      refine ⟨k + 1, by simp; omega, by simpa using h2, fun b hb => ?_⟩
      rw [List.take_succ_cons] at hb
      rcases List.mem_cons.1 hb with rfl | hb
      · exact h7
      · exact h3 b hb
    · exact ⟨0, by simp, by simpa using h7, fun b hb => by simp at hb⟩
theorem getD_both' {listed : Array Bool} {i : Nat} (hi : i < listed.size) (h : listed.getD i true = true) : listed.getD i false = true := by
  rw [Array.getD_eq_getD_getElem?, Array.getElem?_eq_getElem hi] at h ⊢
  exact h
/-- All of ns are listed behind what is done. -/
def doneTo (done : Array Bool) (ns : List Nat) : Array Bool := ns.foldl (fun l a => l.setIfInBounds a true) done
theorem doneTo_size (ns : List Nat) : ∀ done : Array Bool, (doneTo done ns).size = done.size := by
  induction ns with
  | nil => exact fun _ => rfl
  | cons a r ih => intro d; show (doneTo (d.setIfInBounds a true) r).size = _; rw [ih]; simp
theorem doneTo_get (ns : List Nat) : ∀ (done : Array Bool) (j : Nat), j < done.size → (doneTo done ns).getD j true = (ns.contains j || done.getD j true) := by
  induction ns with
  | nil => intro d j h; simp [doneTo]
  | cons a r ih =>
    intro d j h
    show (doneTo (d.setIfInBounds a true) r).getD j true = _
    rw [ih _ j (by simpa using h)]
    by_cases e : a = j
    · subst e
      simp [h]
    · rw [getD_set_ne true e]
      have : (a :: r).contains j = r.contains j := by
        rw [List.contains_cons]
        have : (j == a) = false := by simpa using Ne.symm e
        rw [this, Bool.false_or]
      rw [this]

theorem gAny_factsG {l : List Value} {d : List Deferred} (n r : Nat) (ns ds : List Nat) (done : Array Bool) (F : Nat → Value → World → Prop) (B : (Nat → Value) → World → Prop) (hc : factsG ops n ns ds done l.length = true)
    (hF : ∀ i v W W', F i v W → Below W.heap.size W W' → F i v W')
    (hstep : ∀ k, k < ns.length → ∀ (vals : Nat → Value) (W : World) (K : Act → World → Prop), B vals W → (∀ j, j < ns.length → needs ops (ns.getD k 0) (ns.getD j 0) = true → F j (vals j) W) →
      (∀ v W', F k v W' → Below W.heap.size W W' → B (upv vals k v) W' → K { tmps := ((frm vals 0 ds l).set (ds.getD k 0) v).toArray, defers := d } W') → step (ns.getD k 0) K { tmps := (frm vals 0 ds l).toArray, defers := d } W)
    (hend : ∀ (vals : Nat → Value) (W : World), B vals W → (∀ k, k < ns.length → F k (vals k) W) → gAny step ops Qn r (doneTo done ns) { tmps := (frm vals 0 ds l).toArray, defers := d } W) :
    ∀ (c : Nat) (listed : Array Bool) (vals : Nat → Value) (W : World), listed.size = n → (∀ j, done.getD j false = true → listed.getD j false = true) → (∀ j, j < n → j ∉ ns → listed.getD j true = done.getD j true) →
      (∀ i ∈ ns, listed.getD i true = true → ∀ k, needs ops i k = true → listed.getD k false = true) → leftG listed ns = c → B vals W →
      (∀ k, k < ns.length → listed.getD (ns.getD k 0) true = true → F k (vals k) W) → gAny step ops Qn (c + r) listed { tmps := (frm vals 0 ds l).toArray, defers := d } W := by
  simp only [factsG, Bool.and_eq_true, beq_iff_eq, decide_eq_true_eq, List.all_eq_true, List.mem_range, Bool.or_eq_true] at hc
  obtain ⟨⟨⟨⟨⟨⟨⟨⟨⟨hsz, hds⟩, hdl⟩, hna⟩, hnd⟩, hlt⟩, has⟩, hno⟩, hone⟩, hlast⟩ := hc
  have mem_at : ∀ k, k < ns.length → ns.getD k 0 ∈ ns := fun k hk => by
    rw [List.getD_eq_getElem?_getD, List.getElem?_eq_getElem hk]
    exact List.getElem_mem hk
  have hops : ∀ k, k < ns.length → ∃ o, ops[ns.getD k 0]? = some o ∧ o.dst = ds[k]? ∧ ∀ e ∈ o.after, Region.binds .any e = true → (e.on ∈ ns.take k ∨ done.getD e.on false = true) := by
    intro k hk
    have h1 := hone k hk
    cases ho : ops[ns.getD k 0]? with
    | none => rw [ho] at h1; cases h1
    | some o =>
      rw [ho] at h1
      simp only [Option.map_some, Option.getD_some, Bool.and_eq_true, beq_iff_eq, Array.all_eq_true', Bool.or_eq_true, Bool.not_eq_true', List.contains_iff_mem] at h1
      refine ⟨o, rfl, h1.1, fun e he hb => ?_⟩
      rcases h1.2 e he with (h2 | h2) | h2
      · rw [hb] at h2; cases h2
      · exact .inl h2
      · exact .inr h2
  intro c
  induction c with
  | zero =>
    intro listed vals W hs hdn hun hcl hl hBW hFW
    have e : listed = doneTo done ns := by
      apply Array.ext_getElem?
      intro i
      by_cases hi : i < n
      · have h1 : listed.getD i true = (doneTo done ns).getD i true := by
          rw [doneTo_get ns done i (by omega)]
          by_cases him : i ∈ ns
          · rw [leftG_zero listed ns hl i him]; simp [him]
          · rw [hun i hi him]; simp [him]
        have h2 : i < listed.size := by omega
        have h3 : i < (doneTo done ns).size := by rw [doneTo_size]; omega
        rw [Array.getD_eq_getD_getElem?, Array.getD_eq_getD_getElem?, Array.getElem?_eq_getElem h2, Array.getElem?_eq_getElem h3] at h1
        rw [Array.getElem?_eq_getElem h2, Array.getElem?_eq_getElem h3]
        simpa using h1
      · rw [Array.getElem?_eq_none (by omega), Array.getElem?_eq_none (by rw [doneTo_size]; omega)]
    rw [e, Nat.zero_add]
    exact hend vals W hBW (fun k hk => hFW k hk (leftG_zero listed ns hl _ (mem_at k hk)))
  | succ c ih =>
    intro listed vals W hs hdn hun hcl hl hBW hFW
    rw [show c + 1 + r = (c + r) + 1 by omega]
    refine ⟨fun h0 => ?_, fun i hi => ?_⟩
    · obtain ⟨k, hk, hkf, hlo⟩ := first_left listed ns (by omega)
      obtain ⟨o, ho, _, hed⟩ := hops k hk
      have : ns.getD k 0 ∈ Region.ready .any ops listed := by
        rw [mem_ready]
        refine ⟨hkf, o, ho, fun e he hb => ?_⟩
        rcases hed e he hb with h | h
        · exact getD_both' (by have := has _ (List.mem_of_mem_take h); omega) (hlo _ h)
        · exact hdn _ h
      rw [h0] at this
      cases this
    · obtain ⟨hif, o, ho, hall⟩ := mem_ready.1 hi
      have hin : i < n := by have := (Array.getElem?_eq_some_iff.1 ho).1; omega
      have hnd' : ∀ k, needs ops i k = true → listed.getD k false = true := by
        intro k hk
        simp only [needs, ho, Option.map_some, Option.getD_some, Array.any_eq_true', Bool.and_eq_true, beq_iff_eq] at hk
        obtain ⟨e, he, hb, rfl⟩ := hk
        exact hall e he hb
      have tr : ∀ {k : Nat}, listed.getD k false = true → listed.getD k true = true := by
        intro k h
        rcases Nat.lt_or_ge k listed.size with h2 | h2
        · rw [Array.getD_eq_getD_getElem?, Array.getElem?_eq_getElem h2] at h ⊢
          exact h
        · rw [Array.getD_eq_getD_getElem?, Array.getElem?_eq_none h2]
          rfl
      have hcm : ∀ f j, (∀ k, needs ops j k = true → listed.getD k false = true) → ∀ a, comes ops ns f j a = true → listed.getD a false = true := by
        intro f
        induction f with
        | zero => exact fun j hj a h => hj a h
        | succ f ihf =>
          intro j hj a h
          simp only [comes, Bool.or_eq_true, List.any_eq_true, Bool.and_eq_true] at h
          rcases h with h | ⟨i', hi', h1, h2⟩
          · exact hj a h
          · exact ihf i' (hcl i' hi' (tr (hj i' h1))) a h2
      have him : i ∈ ns := by
        refine Classical.byContradiction fun hni => ?_
        obtain ⟨k, hk, hkf, _⟩ := first_left listed ns (by omega)
        have h1 := hlast i hin
        rcases h1 with (h1 | h1) | h1
        · rw [← hun i hin hni, hif] at h1
          cases h1
        · exact hni (by simpa using h1)
        · rcases h1 with h1 | h1
          · have h2 := tr (hcm 12 i hnd' _ (h1 _ (mem_at k hk)))
            rw [hkf] at h2
            cases h2
          · rw [List.any_eq_true] at h1
            obtain ⟨k', hk', h3⟩ := h1
            simp only [Bool.and_eq_true, Bool.not_eq_true'] at h3
            have h4 := tr (hnd' k' h3.1)
            rw [hun k' (List.mem_range.1 hk') (by have := h3.2.1; simpa using this), h3.2.2] at h4
            cases h4
      obtain ⟨k, hk, rfl⟩ : ∃ k, k < ns.length ∧ i = ns.getD k 0 := by
        obtain ⟨k, hk, e⟩ := List.getElem_of_mem him
        exact ⟨k, hk, by rw [List.getD_eq_getElem?_getD, List.getElem?_eq_getElem hk, ← e]; rfl⟩
      have hdi : ds[k]? = some (ds.getD k 0) := by
        have : k < ds.length := by omega
        rw [List.getD_eq_getElem?_getD, List.getElem?_eq_getElem this]
        rfl
      refine hstep k hk vals W _ hBW (fun j hj hnj => hFW j hj (tr (hnd' _ hnj))) fun v W' hFi hb hBn => ?_
      have hp := frm_put vals v ds hnd 0 k (ds.getD k 0) l hdi
      rw [Nat.zero_add] at hp
      rw [hp]
      have hset : ∀ j, j ≠ ns.getD k 0 → (listed.setIfInBounds (ns.getD k 0) true).getD j true = listed.getD j true := fun j hj => getD_set_ne true (Ne.symm hj)
      refine ih _ (upv vals k v) W' (by simp [hs]) (fun j h => getD_set_true (hdn j h)) (fun j h1 h2 => by rw [hset j (fun e => h2 (by rw [e]; exact him))]; exact hun j h1 h2) (fun i' hi' hl' k' hk' => ?_) (by have := leftG_set listed (ns.getD k 0) (by omega) hif ns hna him; omega) hBn (fun j hj hjl => ?_)
      · refine getD_set_true ?_
        by_cases e : i' = ns.getD k 0
        · rw [e] at hk'
          exact hnd' k' hk'
        · rw [hset i' e] at hl'
          exact hcl i' hi' hl' k' hk'
      · by_cases hjk : j = k
        · subst hjk
          rw [show upv vals j v j = v by simp [upv]]
          exact hFi
        · rw [show upv vals k v j = vals j by simp [upv, hjk]]
          rw [hset _ (fun e => hjk ((List.getElem_inj hna).1 (by
            have e1 : ns.getD j 0 = ns[j] := by rw [List.getD_eq_getElem?_getD, List.getElem?_eq_getElem hj]; rfl
            have e2 : ns.getD k 0 = ns[k] := by rw [List.getD_eq_getElem?_getD, List.getElem?_eq_getElem hk]; rfl
            rw [← e1, ← e2]
            exact e)))] at hjl
          exact hF _ _ _ _ (hFW j hj hjl) hb
end
section
variable {P : Program} {ops : Array Oper} {Q : Exit → Act → World → Prop} {z : Nat}
theorem upto_any : ∀ (fuel : Nat) (listed : Array Bool) (a : Act) (w : World), wpAny P .any ops Q fuel listed a w → wpUpto P .any ops Q (fun _ => True) z fuel listed a w
  | 0, _, _, _, h => h
  | fuel + 1, _, _, _, h => ⟨h.1, fun i hi => wpOp_mono (fun a' w' h' => ⟨fun _ => trivial, upto_any fuel _ a' w' h'⟩) (h.2 i hi)⟩
/-- From any state on: ns by facts, then on from there. -/
theorem wpUpto_factsV {l : List Value} {d : List Deferred} {w : World} {done : Array Bool} (n r : Nat) (ns ds : List Nat) (F : Nat → Value → World → Prop) (B : (Nat → Value) → World → Prop) (hc : factsG ops n ns ds done l.length = true)
    (hF : ∀ i v W W', F i v W → Below W.heap.size W W' → F i v W') (h0 : B (was ds l) w)
    (hstep : ∀ k, k < ns.length → ∀ (vals : Nat → Value) (W : World) (K : Act → World → Prop), B vals W → (∀ j, j < ns.length → needs ops (ns.getD k 0) (ns.getD j 0) = true → F j (vals j) W) →
      (∀ v W', F k v W' → Below W.heap.size W W' → B (upv vals k v) W' → K { tmps := ((frm vals 0 ds l).set (ds.getD k 0) v).toArray, defers := d } W') → wpOp P ops Q (ns.getD k 0) K { tmps := (frm vals 0 ds l).toArray, defers := d } W)
    (hend : ∀ (vals : Nat → Value) (W : World), B vals W → (∀ k, k < ns.length → F k (vals k) W) → wpUpto P .any ops Q (fun _ => True) z r (doneTo done ns) { tmps := (frm vals 0 ds l).toArray, defers := d } W) :
    wpUpto P .any ops Q (fun _ => True) z (ns.length + r) done { tmps := l.toArray, defers := d } w := by
  have hc' := hc
  simp only [factsG, Bool.and_eq_true, beq_iff_eq, decide_eq_true_eq, List.all_eq_true, List.mem_range, Bool.or_eq_true] at hc'
  obtain ⟨⟨⟨⟨⟨⟨⟨⟨⟨hsz, hds⟩, hdl⟩, hna⟩, hnd⟩, hlt⟩, has⟩, hno⟩, hone⟩, hlast⟩ := hc'
  refine upto_any _ _ _ _ (gAny_any _ _ _ _ ?_)
  have hid0 : frm (was ds l) 0 ds l = l := frm_id _ _ _ _ fun k t hk => by
    have h1 := hlt t (List.mem_of_getElem? hk)
    rw [Nat.zero_add, was, List.getD_eq_getElem?_getD (l := ds), hk, Option.getD_some, List.getD_eq_getElem?_getD, List.getElem?_eq_getElem h1]
    rfl
  have hnot : ∀ a ∈ ns, done.getD a true = false := fun a ha => by have := hno a ha; simpa using this
  have hl0 : leftG done ns = ns.length := by
    unfold leftG
    rw [List.filter_eq_self.2 (fun i hi => by rw [hnot i hi]; rfl)]
  have := gAny_factsG (step := wpOp P ops Q) (Qn := Q .normal) n r ns ds done F B hc hF hstep (fun vals W hb hf => any_gAny _ _ _ _ (wpUpto_any _ _ _ _ (hend vals W hb hf))) ns.length done (was ds l) w hds (fun _ h => h) (fun _ _ _ => rfl)
    (fun i hi h => by rw [hnot i hi] at h; cases h) hl0 h0 (fun k hk h => by
      have hm : ns.getD k 0 ∈ ns := by
        rw [List.getD_eq_getElem?_getD, List.getElem?_eq_getElem hk]
        exact List.getElem_mem hk
      rw [hnot _ hm] at h
      cases h)
  rwa [hid0] at this
/-- From any state on: ns by facts, then on from there. -/
theorem wpUpto_facts {l : List Value} {d : List Deferred} {w : World} {done : Array Bool} (n r : Nat) (ns ds : List Nat) (F : Nat → Value → World → Prop) (B : World → Prop) (hc : factsG ops n ns ds done l.length = true)
    (hB : ∀ W W', B W → Below W.heap.size W W' → B W') (hF : ∀ i v W W', F i v W → Below W.heap.size W W' → F i v W') (h0 : B w)
    (hstep : ∀ k, k < ns.length → ∀ (vals : Nat → Value) (W : World) (K : Act → World → Prop), B W → (∀ j, j < ns.length → needs ops (ns.getD k 0) (ns.getD j 0) = true → F j (vals j) W) →
      (∀ v W', F k v W' → Below W.heap.size W W' → K { tmps := ((frm vals 0 ds l).set (ds.getD k 0) v).toArray, defers := d } W') → wpOp P ops Q (ns.getD k 0) K { tmps := (frm vals 0 ds l).toArray, defers := d } W)
    (hend : ∀ (vals : Nat → Value) (W : World), B W → (∀ k, k < ns.length → F k (vals k) W) → wpUpto P .any ops Q (fun _ => True) z r (doneTo done ns) { tmps := (frm vals 0 ds l).toArray, defers := d } W) :
    wpUpto P .any ops Q (fun _ => True) z (ns.length + r) done { tmps := l.toArray, defers := d } w :=
  wpUpto_factsV n r ns ds F (fun _ W => B W) hc hF h0 (fun k hk vals W K hb hn hK => hstep k hk vals W K hb hn (fun v W' h1 h2 => hK v W' h1 h2 (hB _ _ hb h2))) hend
end
end Go.Proofs.YtfmbpdjcoopaeaaDoor

namespace Go.Proofs.YtfmbpdjcoopaeaaDoor
open Go.RowKit

section
variable {F : Fence} {n : Nat} {P : Program}
/-- What speaks of nothing from block B on. -/
def FreeFrom {β : Type} (B : Nat) (J : β → World → Prop) : Prop :=
  ∀ s W W' row, J s W → W.grownBy W' row → (∀ r, row = some r → B ≤ r) → J s W'
theorem FreeFrom.own {β : Type} {B : Nat} {J : β → World → Prop} (h : FreeFrom B J) : OwnFrom B J := fun s W W' row hs hg hr => h s W W' row hs hg fun r e => (hr r e).1
theorem FreeFrom.and {β : Type} {B : Nat} {I J : β → World → Prop} (h : FreeFrom B I) (h' : FreeFrom B J) : FreeFrom B (fun s W => I s W ∧ J s W) := fun s W W' row hs hg hr => ⟨h s W W' row hs.1 hg hr, h' s W W' row hs.2 hg hr⟩
/-- An iterator without end: it hands element k to the body while the body goes on, which it does fewer than N times. -/
def SeqEnds (F : Fence) (n : Nat) (P : Program) (g : Nat) (lb : Array Value) (el : Nat → Array Value) (Kp : World → World → Prop) (w : World) : Prop :=
  ∀ (l N : Nat) (J : Nat → World → Prop) (Jx : Unit → World → Prop) (W : World), Below w.heap.size w W → FreeFrom W.heap.size J → (∀ k W', J k W' → k < N) →
    (∀ k W1, J k W1 → YieldAt F (n - 1) P l (el k) W1 fun e W' => (e = .returned (.bool true) ∧ J (k + 1) W' ∧ Kp W1 W') ∨ (e = .returned (.bool false) ∧ Jx () W')) →
    J 0 W →
    CallsIn F n P g (#[.func (.yield l) #[] #[]] ++ lb) W fun e W' => (∃ v, e = .returned v) ∧ Jx () W'
theorem SeqEnds.later {g : Nat} {lb : Array Value} {el : Nat → Array Value} {Kp : World → World → Prop} {w w' : World} (h : SeqEnds F n P g lb el Kp w) (hb : Below w.heap.size w w') : SeqEnds F n P g lb el Kp w' :=
  fun l N J Jx W hW => h l N J Jx W (hb.trans (hW.mono hb.size))
/-- The loop's record and the block for deferred calls lie as they lay. -/
structure Booked (w : World) (rec : LoopState → Option Code → Loop) (st : LoopState) (c : Option Code) (W : World) : Prop where
  l : W.heap[w.heap.size + 1]? = some (.loop (rec st c))
  d : W.heap[w.heap.size]? = some (.deferred (some []))
theorem Booked.kept {w W W' : World} {rec : LoopState → Option Code → Loop} {st : LoopState} {c : Option Code} (h : Booked w rec st c W) (k : KeepsFrom w.heap.size W W') : Booked w rec st c W' :=
  ⟨k.same _ _ (by omega) h.l rfl, k.same _ _ (Nat.le_refl _) h.d rfl⟩
theorem Booked.put {w W : World} {rec : LoopState → Option Code → Loop} {st st' : LoopState} {c c' : Option Code} (h : Booked w rec st c W) : Booked w rec st' c' (W.putObj (w.heap.size + 1) (.loop (rec st' c'))) :=
  ⟨World.putObj_heap_same (Array.getElem?_eq_some_iff.1 h.l).1, (World.putObj_heap_other (by omega)).trans h.d⟩

end
end Go.Proofs.YtfmbpdjcoopaeaaDoor

namespace Go.Proofs.YtfmbpdjcoopaeaaDoor
open Go.RowKit

section
variable {ops : Array Oper} {step : Nat → (Act → World → Prop) → Act → World → Prop} {Qn : Act → World → Prop}
end
section
variable {P : Program} {ops : Array Oper} {Q : Exit → Act → World → Prop} {z : Nat}
end
end Go.Proofs.YtfmbpdjcoopaeaaDoor
