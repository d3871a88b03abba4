/-
  Plain words for memory, used by the proofs of this seat: frames, blocks known whole, slices that read as lists; nothing here speaks of the program.
-/
import Derived.WalkKit
import Derived.ProofKit
import Derived.Handy
import Derived.WalkSpells
import Derived.Maps.AppendAt
import Derived.Laws.BytesArg
import Derived.Deep.Draws
import Derived.Laws.CopyOwn
import Derived.Deep.RegionLaw
namespace Go.Proofs.YtjfpdbhjbleffaaDoor
open Go.RowKit

/-- Kept from the walk. -/
theorem hid {p : Prop} (h : p) : Hid p := h

/-- What is said of a world and a later one: every block outside S is as it was. -/
structure Fr (S : Nat → Prop) (w w' : World) : Prop where
  os : w'.os = w.os
  tape : w'.tape = w.tape
  output : w'.output = w.output
  size : w.heap.size ≤ w'.heap.size
  block : ∀ k, k < w.heap.size → ¬ S k → w'.heap[k]? = w.heap[k]?

section
variable {S S' : Nat → Prop} {w w' w'' : World}
theorem Fr.refl (S : Nat → Prop) (w : World) : Fr S w w := ⟨rfl, rfl, rfl, Nat.le_refl _, fun _ _ _ => rfl⟩
theorem Fr.trans (h : Fr S w w') (k : Fr S w' w'') : Fr S w w'' :=
  ⟨k.os.trans h.os, k.tape.trans h.tape, k.output.trans h.output, Nat.le_trans h.size k.size, fun i hi hn => (k.block i (Nat.lt_of_lt_of_le hi h.size) hn).trans (h.block i hi hn)⟩
/-- Only what holds of old blocks is asked. -/
theorem Fr.mono (h : Fr S w w') (hs : ∀ k, k < w.heap.size → S k → S' k) : Fr S' w w' := ⟨h.os, h.tape, h.output, h.size, fun i hi hn => h.block i hi (fun c => hn (hs i hi c))⟩
theorem Fr.next (h : Fr S w w') (k : Fr S' w' w'') (hs : ∀ g, g < w.heap.size → S' g → S g) : Fr S w w'' :=
  ⟨k.os.trans h.os, k.tape.trans h.tape, k.output.trans h.output, Nat.le_trans h.size k.size, fun i hi hn => (k.block i (Nat.lt_of_lt_of_le hi h.size) (fun c => hn (hs i hi c))).trans (h.block i hi hn)⟩
theorem Fr.drew (h : Fr S w w') : Fr S w w'.drew := ⟨h.os, h.tape, h.output, h.size, h.block⟩
theorem Fr.drewN (h : Fr S w w') (n : Nat) : Fr S w (w'.drewN n) := ⟨h.os, h.tape, h.output, h.size, h.block⟩
theorem Fr.alloc (h : Fr S w w') (o : Obj) : Fr S w (w'.alloc o) :=
  h.trans ⟨rfl, rfl, rfl, by simp, fun k hk _ => Below.heap_alloc _ _ _ hk⟩
theorem Fr.setCell (h : Fr S w w') {p : Addr} (hp : w.heap.size ≤ p.block ∨ S p.block) (u : Value) : Fr S w (w'.setCell p u) :=
  ⟨h.os, h.tape, h.output, by simpa using h.size, fun k hk hn => (Below.heap_setCell _ _ _ _ (by rintro rfl; rcases hp with hp | hp; exact absurd hk (by omega); exact hn hp)).trans (h.block k hk hn)⟩
theorem Fr.grown (h : Fr S w w') {row : Option Nat} (hg : w'.grownBy w'' row) (hr : ∀ k, row = some k → w.heap.size ≤ k ∨ S k) : Fr S w w'' :=
  ⟨hg.os.trans h.os, hg.tape.trans h.tape, hg.output.trans h.output, Nat.le_trans h.size hg.size, fun k hk hn =>
    (hg.block k (Nat.lt_of_lt_of_le hk h.size) (fun e => by rcases hr k e.symm with h1 | h1; exact absurd hk (by omega); exact hn h1)).trans (h.block k hk hn)⟩
theorem Fr.setRow (h : Fr S w w') {g : Nat} (hg : w.heap.size ≤ g ∨ S g) (cs : Array Value) : Fr S w (w'.setRow g cs) :=
  ⟨h.os, h.tape, h.output, by simpa using h.size, fun k hk hn => (setRow_other w' g k cs (by rintro rfl; rcases hg with hg | hg; exact absurd hk (by omega); exact hn hg)).trans (h.block k hk hn)⟩
theorem Fr.below {B : Nat} (h : Fr S w w') (hs : ∀ k, S k → B ≤ k) (hB : B ≤ w.heap.size) : Below B w w' :=
  ⟨h.os, h.tape, h.output, h.size, fun k hk => h.block k (by omega) (fun c => by have := hs k c; omega)⟩
theorem Fr.of_below {B : Nat} (h : Below B w w') (hS : ∀ k, k < w.heap.size → B ≤ k → S k) : Fr S w w' :=
  ⟨h.os, h.tape, h.output, h.size, fun k hk hn => h.block k (by rcases Nat.lt_or_ge k B with h1 | h1; exact h1; exact absurd (hS k hk h1) hn)⟩
theorem Fr.of_new (h : Below w.heap.size w w') : Fr S w w' := Fr.of_below h (fun k h1 h2 => absurd h1 (by omega))
theorem Fr.cell (h : Fr S w w') {a : Addr} (hl : a.block < w.heap.size) (hn : ¬ S a.block) : w'.cell? a = w.cell? a := World.cell?_of_block (w := w) (h.block a.block hl hn)
theorem Fr.frozen (h : Fr S w w') {a : Addr} (hl : a.block < w.heap.size) (hn : ¬ S a.block) : w'.frozen? a = w.frozen? a := World.frozen?_of_block (w := w) (h.block a.block hl hn)
end

/-- Block g is just the cells cs, of element type t, none frozen. -/
def At (w : World) (g : Nat) (cs : Array Value) (t : TypeId) : Prop := w.heap[g]? = some (.cells cs t (0, 0))

section
variable {S : Nat → Prop} {w w' : World} {g : Nat} {t : TypeId} {cs : Array Value}
theorem At.lt (h : At w g cs t) : g < w.heap.size := lt_of_block h
theorem At.cell (h : At w g cs t) (i : Nat) : w.cell? ⟨g, i, none⟩ = cs[i]? := cell_of_row w g i cs t (0, 0) h
theorem At.frozen (h : At w g cs t) (i : Nat) : w.frozen? ⟨g, i, none⟩ = false := frozen_of_row w g i cs t h
theorem At.new (w : World) (cs : Array Value) (t : TypeId) : At (w.alloc (.cells cs t)) w.heap.size cs t := heap_alloc_new w _
theorem At.drew (h : At w g cs t) : At w.drew g cs t := h
theorem At.alloc (h : At w g cs t) (o : Obj) : At (w.alloc o) g cs t := (Below.heap_alloc w o g h.lt).trans h
theorem At.put (h : At w g cs t) (i : Nat) (u : Value) : At (w.setCell ⟨g, i, none⟩ u) g (cs.setIfInBounds i u) t := by
  unfold At at h ⊢
  simp [World.setCell, Array.getElem?_modify, h]
theorem At.far (h : At w g cs t) {p : Addr} (hp : g ≠ p.block) (u : Value) : At (w.setCell p u) g cs t := (Below.heap_setCell w p u g hp).trans h
theorem At.fr (h : At w g cs t) (hf : Fr S w w') (hn : ¬ S g) : At w' g cs t := (hf.block g h.lt hn).trans h
theorem At.below {B : Nat} (h : At w g cs t) (hf : Below B w w') (hn : g < B) : At w' g cs t := (hf.block g hn).trans h
theorem At.new_ (h : At w g cs t) (hf : Below w.heap.size w w') : At w' g cs t := h.below hf h.lt
theorem At.ne {g' : Nat} {t' : TypeId} {cs' : Array Value} (h : At w g cs t) (h' : At w g' cs' t') (hne : t ≠ t') : g ≠ g' := by
  rintro rfl
  unfold At at h h'
  rw [h] at h'
  injection h' with h'
  injection h' with _ ht
  exact hne ht
end

theorem add_block (a : Addr) (n : Nat) : (a.add n).block = a.block := by unfold Addr.add; split <;> rfl
theorem add_add' (a : Addr) (i j : Nat) : (a.add i).add j = a.add (i + j) := by
  unfold Addr.add
  by_cases hi : i = 0 <;> by_cases hj : j = 0 <;> simp [hi, hj, Nat.add_assoc]
theorem add_plain (b o n : Nat) : (⟨b, o, none⟩ : Addr).add n = ⟨b, o + n, none⟩ := by unfold Addr.add; split <;> simp_all

/-- A slice whose address is A reads as the cells xs, and lies below block B. -/
def Rd (w : World) (B : Nat) (A : Option Addr) (xs : List Value) : Prop :=
  xs ≠ [] → ∃ b o, A = some ⟨b, o, none⟩ ∧ b < B ∧ ∀ j u, xs[j]? = some u → w.cell? ⟨b, o + j, none⟩ = some u

section
variable {S : Nat → Prop} {w w' : World} {B B' : Nat} {A : Option Addr} {xs : List Value}
theorem Rd.nil (w : World) (B : Nat) (A : Option Addr) : Rd w B A [] := fun h => absurd rfl h
theorem Rd.mono (h : Rd w B A xs) (hB : B ≤ B') : Rd w B' A xs := fun hx => by
  obtain ⟨b, o, e, hb, hc⟩ := h hx
  exact ⟨b, o, e, by omega, hc⟩
theorem Rd.below (h : Rd w B A xs) (hf : Below B w w') : Rd w' B A xs := fun hx => by
  obtain ⟨b, o, e, hb, hc⟩ := h hx
  exact ⟨b, o, e, hb, fun j u hu => (hf.cell (p := ⟨b, o + j, none⟩) hb).trans (hc j u hu)⟩
theorem Rd.lt (h : Rd w B A xs) : Rd w w.heap.size A xs := fun hx => by
  obtain ⟨b, o, e, hb, hc⟩ := h hx
  refine ⟨b, o, e, ?_, hc⟩
  obtain ⟨u, hu⟩ : ∃ u, xs[0]? = some u := by
    cases xs with
    | nil => exact absurd rfl hx
    | cons x xs => exact ⟨x, rfl⟩
  exact block_lt_of_cell (a := ⟨b, o + 0, none⟩) (hc 0 u hu)
theorem Rd.fr (h : Rd w B A xs) (hf : Fr S w w') (hn : ∀ b o, A = some ⟨b, o, none⟩ → ¬ S b) : Rd w' B A xs := fun hx => by
  obtain ⟨b, o, e, hb, hc⟩ := h hx
  exact ⟨b, o, e, hb, fun j u hu => (hf.cell (a := ⟨b, o + j, none⟩) (block_lt_of_cell (hc j u hu)) (hn b o e)).trans (hc j u hu)⟩
theorem Rd.frB (h : Rd w B A xs) (hf : Fr S w w') (hn : ∀ k, k < B → ¬ S k) : Rd w' B A xs := fun hx => by
  obtain ⟨b, o, e, hb, hc⟩ := h hx
  exact ⟨b, o, e, hb, fun j u hu => (hf.cell (a := ⟨b, o + j, none⟩) (block_lt_of_cell (hc j u hu)) (hn b hb)).trans (hc j u hu)⟩
theorem Rd.drew (h : Rd w B A xs) : Rd w.drew B A xs := h
theorem Rd.drewN (h : Rd w B A xs) (n : Nat) : Rd (w.drewN n) B A xs := h
theorem Rd.alloc (h : Rd w B A xs) (o : Obj) : Rd (w.alloc o) B A xs := fun hx => by
  obtain ⟨b, o', e, hb, hc⟩ := h hx
  exact ⟨b, o', e, hb, fun j u hu => (World.cell?_alloc_lt w o ⟨b, o' + j, none⟩ (block_lt_of_cell (hc j u hu))).trans (hc j u hu)⟩
theorem Rd.setCell (h : Rd w B A xs) {p : Addr} (hn : ∀ b o, A = some ⟨b, o, none⟩ → b ≠ p.block) (v : Value) : Rd (w.setCell p v) B A xs := fun hx => by
  obtain ⟨b, o, e, hb, hc⟩ := h hx
  exact ⟨b, o, e, hb, fun j u hu => (World.cell?_setCell_other w p ⟨b, o + j, none⟩ v (fun e' => hn b o e (by rw [e']))).trans (hc j u hu)⟩
/-- The tail of a slice. -/
theorem Rd.drop (h : Rd w B A xs) {n cap : Nat} (hn : n ≤ xs.length) (hc : xs.length ≤ cap) : Rd w B (if cap = n then A else A.map (·.add n)) (xs.drop n) := fun hx => by
  have hl : n < xs.length := by
    rcases Nat.lt_or_ge n xs.length with h1 | h1
    · exact h1
    · exact absurd (List.drop_eq_nil_of_le h1) hx
  obtain ⟨b, o, rfl, hb, hcell⟩ := h (by rintro rfl; simp at hl)
  rw [if_neg (by omega)]
  refine ⟨b, o + n, by simp [add_plain], hb, fun j u hu => ?_⟩
  rw [Nat.add_assoc]
  exact hcell (n + j) u (by rw [← hu, List.getElem?_drop])
theorem Rd.take (h : Rd w B A xs) (n : Nat) : Rd w B A (xs.take n) := fun hx => by
  obtain ⟨b, o, rfl, hb, hcell⟩ := h (by rintro rfl; simp at hx)
  refine ⟨b, o, rfl, hb, fun j u hu => hcell j u ?_⟩
  rw [List.getElem?_take] at hu
  split at hu
  · exact hu
  · cases hu
theorem Rd.at_ (h : Rd w B A xs) {k : Nat} {u : Value} (hk : xs[k]? = some u) : ∃ b o, A = some ⟨b, o, none⟩ ∧ b < B ∧ w.cell? ⟨b, o + k, none⟩ = some u := by
  obtain ⟨b, o, e, hb, hc⟩ := h (by rintro rfl; simp at hk)
  exact ⟨b, o, e, hb, hc k u hk⟩
theorem Rd.src (h : Rd w B A xs) : 0 < xs.length → ∃ ad, A = some ad ∧ ∀ j v, xs[j]? = some v → w.cell? (ad.add j) = some v := fun h0 => by
  obtain ⟨b, o, rfl, _, hc⟩ := h (by rintro rfl; simp at h0)
  exact ⟨_, rfl, fun j u hu => by rw [add_plain]; exact hc j u hu⟩
theorem Rd.of_at {g : Nat} {cs : Array Value} {t : TypeId} (h : At w g cs t) (o : Nat) (hx : ∀ j u, xs[j]? = some u → cs[o + j]? = some u) (hB : g < B) : Rd w B (some ⟨g, o, none⟩) xs := fun _ =>
  ⟨g, o, rfl, hB, fun j u hu => (h.cell (o + j)).trans (hx j u hu)⟩
theorem Rd.of_drop {g : Nat} {cs : Array Value} {t : TypeId} (h : At w g cs t) (o : Nat) (hx : cs.toList.drop o = xs) (hB : g < B) : Rd w B (some ⟨g, o, none⟩) xs :=
  Rd.of_at h o (fun j u hu => by rw [← hx, List.getElem?_drop] at hu; simpa using hu) hB
theorem Rd.of_own {base n c : Nat} {e : TypeId} (h : w.ownsRow base e 1 (.slice A n c) n xs) : Rd w w.heap.size A xs := fun hx => by
  rcases h.2 with ⟨_, h0⟩ | ⟨g, cap, cur, hv, _, hh, _, _, _, _⟩
  · have := h.1
    subst h0
    exact absurd (List.eq_nil_of_length_eq_zero (by simpa using this)) hx
  · have hA : A = some ⟨g, 0, none⟩ := by injection hv
    subst hA
    exact ⟨g, 0, rfl, lt_of_block hh, fun j u hu => by have := h.cells (g := g) rfl j u hu; rw [add_plain] at this; exact this⟩
end

section
variable {S : Nat → Prop} {w w' : World} {base n : Nat} {e : TypeId} {v : Value} {xs : List Value}
/-- An owned row is kept where its block is. -/
theorem own_fr (h : w.ownsRow base e 1 v n xs) (hf : Fr S w w') (hn : ∀ k, v.ownBlock = some k → ¬ S k) : w'.ownsRow base e 1 v n xs := by
  refine ⟨h.1, ?_⟩
  rcases h.2 with h2 | ⟨g, cap, cur, rfl, hg, hh, r⟩
  · exact .inl h2
  · exact .inr ⟨g, cap, cur, rfl, hg, (hf.block g (lt_of_block hh) (hn g rfl)).trans hh, r⟩
theorem own_far (h : w.ownsRow base e 1 v n xs) {p : Addr} (hn : v.ownBlock ≠ some p.block) (u : Value) : (w.setCell p u).ownsRow base e 1 v n xs := ownsRow_setCell_other h hn u
theorem own_ne_at {g : Nat} {cs : Array Value} {t : TypeId} (h : w.ownsRow base e 1 v n xs) (hg : At w g cs t) (hne : e ≠ t) : v.ownBlock ≠ some g := by
  rcases h.2 with ⟨rfl, _⟩ | ⟨g', cap, cur, rfl, _, hh, _⟩
  · simp [Value.ownBlock]
  · intro he
    have : g' = g := by simpa [Value.ownBlock] using he
    subst this
    exact At.ne (t := e) (cs := cur) hh hg hne rfl
theorem at_grown {w' : World} {g : Nat} {cs : Array Value} {t : TypeId} (hg : At w g cs t) (h : w.ownsRow base e 1 v n xs) (hne : e ≠ t) (hw : w.grownBy w' v.ownBlock) : At w' g cs t :=
  (hw.block g hg.lt (fun e' => own_ne_at h hg hne e'.symm)).trans hg
theorem own_mono {base' : Nat} (h : w.ownsRow base e 1 v n xs) (hb : ∀ k, v.ownBlock = some k → base' ≤ k) : w.ownsRow base' e 1 v n xs := by
  refine ⟨h.1, ?_⟩
  rcases h.2 with h2 | ⟨g, cap, cur, rfl, hg, r⟩
  · exact .inl h2
  · exact .inr ⟨g, cap, cur, rfl, hb g rfl, r⟩
/-- The form of a value that owns n elements. -/
theorem own_form (h : w.ownsRow base e 1 v n xs) : ∃ A c, v = .slice A n c ∧ n ≤ c ∧ c ≤ maxLen ∧ (A = none → n = 0 ∧ c = 0) ∧ v.ownBlock = A.map (·.block) ∧ ∀ a, A = some a → a.off = 0 ∧ a.spot = none ∧ base ≤ a.block ∧ a.block < w.heap.size := by
  rcases h.2 with ⟨rfl, rfl⟩ | ⟨g, cap, cur, rfl, hg, hh, hc, hm, _⟩
  · exact ⟨none, 0, rfl, Nat.le_refl _, by simp [maxLen], fun _ => ⟨rfl, rfl⟩, rfl, fun a h => by cases h⟩
  · exact ⟨_, cap, rfl, hc, hm, fun h => (by cases h), rfl, fun a h => by cases h; exact ⟨rfl, rfl, hg, lt_of_block hh⟩⟩
end

/-- append of a slice that reads as 'news' onto a row of the call's own, nil or not. -/
theorem run_append_rd {P : Program} (w : World) (base : Nat) (t ty e : TypeId) (i : TypeInfo) (z : Value) (bytes : Nat) (ht : P.underlying t = some (.slice e)) (hi : P.info? e = some i) (hz : i.zero = some z)
    (hsize : i.size = 1) (hby : i.bytes = bytes) (hzs : z.cells.size = 1) (v : Value) (n : Nat) (xs : List Value) (hown : w.ownsRow base e 1 v n xs)
    (B : Nat) (A : Option Addr) (m c : Nat) (news : List Value) (hm : news.length = m) (hr : Rd w B A news) (h1 : ∀ u ∈ news, u.oneCell' = true)
    (h63 : n + m ≤ maxLen) (hbytes : (n + m) * bytes ≤ 140737488355328) (hbase : base ≤ w.heap.size) :
    ∃ v' w', (Builtin.append_ #[t, t] ty #[v, .slice A m c]).run P w = .ok v' w' ∧ w'.ownsRow base e 1 v' (n + m) (xs ++ news) ∧ w.grownBy w' v.ownBlock ∧
      (v'.ownBlock = v.ownBlock ∨ v'.ownBlock = some w.heap.size) := by
  rcases A with _ | ad
  · have hn : news = [] := by
      rcases news with _ | ⟨x, xs⟩
      · rfl
      · obtain ⟨_, _, h, _⟩ := hr (by simp)
        cases h
    subst hn
    have hm0 : m = 0 := by simpa using hm.symm
    subst hm0
    refine ⟨v, w, ?_, by simpa using hown, ⟨rfl, rfl, rfl, Nat.le_refl _, fun _ _ _ => rfl⟩, .inl rfl⟩
    rcases hown.2 with ⟨rfl, rfl⟩ | ⟨g, cap, cur, rfl, _, _, hnc, _⟩
    · simp [Builtin.append_, run_underlying ht, sizeOf, typeInfo, hi, Builtin.lenOf, Builtin.firstCells]
    · simp [Builtin.append_, run_underlying ht, sizeOf, typeInfo, hi, Builtin.lenOf, Builtin.firstCells, hnc, storeCells]
  · have hcells : ∀ j u, news[j]? = some u → w.cell? (ad.add j) = some u := by
      intro j u hu
      obtain ⟨b, o, h, _, hc⟩ := hr (by rintro rfl; simp at hu)
      injection h with h
      subst h
      rw [add_plain]
      exact hc j u hu
    obtain ⟨v', w', hrun, h2, h3, _, h5⟩ := run_append_own_at (P := P) w base t ty e i z 1 bytes ht hi hz hsize hby hzs (by omega) v n xs hown ad m c news (by omega) hcells h1 h63 hbytes hbase
    exact ⟨v', w', hrun, h2, h3, h5⟩

theorem wp_append_rd {P : Program} {w : World} {o : Oper} {a : Act} {K : Act → World → Prop} {Q : Exit → Act → World → Prop} (s x : Operand) (t : TypeId)
    (ho : o.op = .call { callee := .builtin .append, args := #[s, x], argTypes := #[t, t] })
    (base : Nat) (e : TypeId) (i : TypeInfo) (z : Value) (bytes : Nat) (ht : P.underlying t = some (.slice e)) (hi : P.info? e = some i) (hz : i.zero = some z)
    (hsize : i.size = 1) (hby : i.bytes = bytes) (hzs : z.cells.size = 1) (v : Value) (n : Nat) (xs : List Value) (hs : a.eval s = v) (hown : w.ownsRow base e 1 v n xs)
    (B : Nat) (A : Option Addr) (m c : Nat) (news : List Value) (hx : a.eval x = .slice A m c) (hm : news.length = m) (hr : Rd w B A news) (h1 : ∀ u ∈ news, u.oneCell' = true)
    (h63 : n + m ≤ maxLen) (hbytes : (n + m) * bytes ≤ 140737488355328) (hbase : base ≤ w.heap.size)
    (h : ∀ v' w', w'.ownsRow base e 1 v' (n + m) (xs ++ news) → w.grownBy w' v.ownBlock → (v'.ownBlock = v.ownBlock ∨ v'.ownBlock = some w.heap.size) → K (a.put o.dst v') w') : o.wp P a w K Q := by
  obtain ⟨v', w', hrun, h2, h3, h4⟩ := run_append_rd (P := P) w base t o.type e i z bytes ht hi hz hsize hby hzs v n xs hown B A m c news hm hr h1 h63 hbytes hbase
  unfold Oper.wp execOp
  simp only [ho, resolve, invoke, builtin, Sem.run_bind, Sem.run_pure, Result.andThen_ok, List.map_toArray, List.map_cons, List.map_nil, hs, hx, hrun]
  exact h v' w' h2 h3 h4

theorem wpList_append_rd {P : Program} {w : World} {ops : Array Oper} {rest : List Oper} {o : Oper} {a : Act} {Q : Exit → Act → World → Prop} (hgd : o.guard = none) (s x : Operand) (t : TypeId)
    (ho : o.op = .call { callee := .builtin .append, args := #[s, x], argTypes := #[t, t] })
    (base : Nat) (e : TypeId) (i : TypeInfo) (z : Value) (bytes : Nat) (ht : P.underlying t = some (.slice e)) (hi : P.info? e = some i) (hz : i.zero = some z)
    (hsize : i.size = 1) (hby : i.bytes = bytes) (hzs : z.cells.size = 1) (v : Value) (n : Nat) (xs : List Value) (hs : a.eval s = v) (hown : w.ownsRow base e 1 v n xs)
    (B : Nat) (A : Option Addr) (m c : Nat) (news : List Value) (hx : a.eval x = .slice A m c) (hm : news.length = m) (hr : Rd w B A news) (h1 : ∀ u ∈ news, u.oneCell' = true)
    (h63 : n + m ≤ maxLen) (hbytes : (n + m) * bytes ≤ 140737488355328) (hbase : base ≤ w.heap.size)
    (h : ∀ v' w', w'.ownsRow base e 1 v' (n + m) (xs ++ news) → w.grownBy w' v.ownBlock → (v'.ownBlock = v.ownBlock ∨ v'.ownBlock = some w.heap.size) → wpList P ops Q rest (a.put o.dst v') w') : wpList P ops Q (o :: rest) a w :=
  wpList_plain hgd fun _ hK => wp_append_rd s x t ho base e i z bytes ht hi hz hsize hby hzs v n xs hs hown B A m c news hx hm hr h1 h63 hbytes hbase fun v' w' h2 h3 h4 => hK _ _ (h v' w' h2 h3 h4)

/-- copy into a row that is known whole, from a slice that reads as xs. -/
theorem run_copy_rd {P : Program} (w : World) (dT sT ty e : TypeId) (hu : P.underlying dT = some (.slice e)) (hsz : (P.info? e).map (·.size) = some 1) (g off dLen dCap : Nat) (B : Nat) (A : Option Addr) (sLen sCap : Nat)
    (cur : List Value) (t : TypeId) (hg : At w g cur.toArray t) (xs : List Value) (hx : Rd w B A xs) (hl : xs.length = sLen) (hfit : off + min sLen dLen ≤ cur.length) (h1 : ∀ v ∈ xs, v.oneCell' = true) :
    ∃ w', (Builtin.copy_ #[dT, sT] ty #[.slice (some ⟨g, off, none⟩) dLen dCap, .slice A sLen sCap]).run P w = .ok (goInt ((min sLen dLen : Nat) : Int)) w' ∧ At w' g (splice cur off (xs.take dLen)).toArray t ∧ Fr (fun k => k = g) w w' := by
  by_cases h0 : Nat.min sLen dLen = 0
  · have hrun := run_copy_none (P := P) w dT sT ty e (some ⟨g, off, none⟩) A dLen dCap sLen sCap hu hsz h0
    have h0' : min sLen dLen = 0 := h0
    refine ⟨w, by rw [hrun, h0']; rfl, ?_, Fr.refl _ _⟩
    have : xs.take dLen = [] := by
      rcases Nat.eq_zero_or_pos dLen with h | h
      · subst h; simp
      · have : xs.length = 0 := by omega
        rw [List.eq_nil_of_length_eq_zero this]; simp
    rw [this]
    simpa [splice] using hg
  · have hlen : (xs.take dLen).length = Nat.min sLen dLen := by rw [List.length_take, hl]; exact Nat.min_comm _ _
    obtain ⟨ad, rfl, hsrc⟩ := (hx.take dLen).src (by omega)
    have hrun := run_copy_row (P := P) w dT sT ty e g off dLen dCap ad sLen sCap cur.toArray t (xs.take dLen) hu hsz hg hlen hsrc (by rw [hlen]; simpa using hfit) (fun v hv => h1 v (List.mem_of_mem_take hv))
    rw [hlen] at hrun
    refine ⟨_, hrun, ?_, (Fr.refl (fun k => k = g) _).setRow (g := g) (.inr rfl) _⟩
    have e1 : cur.toArray.toList.take off ++ xs.take dLen ++ cur.toArray.toList.drop (off + Nat.min sLen dLen) = splice cur off (xs.take dLen) := by
      unfold splice
      rw [hlen, List.append_assoc]
    rw [e1]
    exact setRow_heap w g cur.toArray (splice cur off (xs.take dLen)).toArray t (0, 0) hg

theorem wp_copy_rd {P : Program} {w : World} {o : Oper} {a : Act} {K : Act → World → Prop} {Q : Exit → Act → World → Prop} (d s : Operand) (dT sT : TypeId)
    (ho : o.op = .call { callee := .builtin .copy, args := #[d, s], argTypes := #[dT, sT] }) (e : TypeId) (hu : P.underlying dT = some (.slice e)) (hsz : (P.info? e).map (·.size) = some 1)
    (g off dLen dCap : Nat) (B : Nat) (A : Option Addr) (sLen sCap : Nat) (hd : a.eval d = .slice (some ⟨g, off, none⟩) dLen dCap) (hs : a.eval s = .slice A sLen sCap)
    (cur : List Value) (t : TypeId) (hg : At w g cur.toArray t) (xs : List Value) (hx : Rd w B A xs) (hl : xs.length = sLen) (hfit : off + min sLen dLen ≤ cur.length) (h1 : ∀ v ∈ xs, v.oneCell' = true)
    (h : ∀ w', At w' g (splice cur off (xs.take dLen)).toArray t → Fr (fun k => k = g) w w' → K (a.put o.dst (goInt ((min sLen dLen : Nat) : Int))) w') : o.wp P a w K Q := by
  obtain ⟨w', hrun, h2, h3⟩ := run_copy_rd (P := P) w dT sT o.type e hu hsz g off dLen dCap B A sLen sCap cur t hg xs hx hl hfit h1
  unfold Oper.wp execOp
  simp only [ho, resolve, invoke, builtin, Sem.run_bind, Sem.run_pure, Result.andThen_ok, List.map_toArray, List.map_cons, List.map_nil, hd, hs, hrun]
  exact h w' h2 h3
theorem wpList_copy_rd {P : Program} {w : World} {ops : Array Oper} {rest : List Oper} {o : Oper} {a : Act} {Q : Exit → Act → World → Prop} (hgd : o.guard = none) (d s : Operand) (dT sT : TypeId)
    (ho : o.op = .call { callee := .builtin .copy, args := #[d, s], argTypes := #[dT, sT] }) (e : TypeId) (hu : P.underlying dT = some (.slice e)) (hsz : (P.info? e).map (·.size) = some 1)
    (g off dLen dCap : Nat) (B : Nat) (A : Option Addr) (sLen sCap : Nat) (hd : a.eval d = .slice (some ⟨g, off, none⟩) dLen dCap) (hs : a.eval s = .slice A sLen sCap)
    (cur : List Value) (t : TypeId) (hg : At w g cur.toArray t) (xs : List Value) (hx : Rd w B A xs) (hl : xs.length = sLen) (hfit : off + min sLen dLen ≤ cur.length) (h1 : ∀ v ∈ xs, v.oneCell' = true)
    (h : ∀ w', At w' g (splice cur off (xs.take dLen)).toArray t → Fr (fun k => k = g) w w' → wpList P ops Q rest (a.put o.dst (goInt ((min sLen dLen : Nat) : Int))) w') : wpList P ops Q (o :: rest) a w :=
  wpList_plain hgd fun _ hK => wp_copy_rd d s dT sT ho e hu hsz g off dLen dCap B A sLen sCap hd hs cur t hg xs hx hl hfit h1 fun w' h2 h3 => hK _ _ (h w' h2 h3)
theorem step_copy_rd {P : Program} {w : World} {ops : Array Oper} {o : Oper} {a : Act} {K : Act → World → Prop} {Q : Exit → Act → World → Prop} {E : Prop} (hgd : o.guard = none) (d s : Operand) (dT sT : TypeId)
    (ho : o.op = .call { callee := .builtin .copy, args := #[d, s], argTypes := #[dT, sT] }) (e : TypeId) (hu : P.underlying dT = some (.slice e)) (hsz : (P.info? e).map (·.size) = some 1)
    (g off dLen dCap : Nat) (B : Nat) (A : Option Addr) (sLen sCap : Nat) (hd : a.eval d = .slice (some ⟨g, off, none⟩) dLen dCap) (hs : a.eval s = .slice A sLen sCap)
    (cur : List Value) (t : TypeId) (hg : At w g cur.toArray t) (xs : List Value) (hx : Rd w B A xs) (hl : xs.length = sLen) (hfit : off + min sLen dLen ≤ cur.length) (h1 : ∀ v ∈ xs, v.oneCell' = true)
    (h : ∀ w', At w' g (splice cur off (xs.take dLen)).toArray t → Fr (fun k => k = g) w w' → K (a.put o.dst (goInt ((min sLen dLen : Nat) : Int))) w') :
    if Region.wanted o (yielded ops a.tmps) = true then Oper.wp P o a w K Q else E := by
  have hw : Region.wanted o (yielded ops a.tmps) = true := by simp [Region.wanted, hgd]
  rw [if_pos hw]
  exact wp_copy_rd d s dT sT ho e hu hsz g off dLen dCap B A sLen sCap hd hs cur t hg xs hx hl hfit h1 h

/-- A byte as a cell; bytes as cells. -/
def ub (b : UInt8) : Value := .int .u8 (b.toNat : Int)
def ubs (bs : List UInt8) : List Value := bs.map ub
theorem ubs_length (bs : List UInt8) : (ubs bs).length = bs.length := by simp [ubs]
theorem ubs_one (bs : List UInt8) : ∀ u ∈ ubs bs, u.oneCell' = true := by
  intro u hu
  obtain ⟨b, _, rfl⟩ := List.mem_map.1 hu
  rfl
theorem ubs_append (a b : List UInt8) : ubs (a ++ b) = ubs a ++ ubs b := by simp [ubs]
theorem ubs_nil : ubs [] = [] := rfl
theorem ubs_get (bs : List UInt8) (i : Nat) : (ubs bs)[i]? = bs[i]?.map ub := by simp [ubs]
theorem ubs_at {bs : List UInt8} {i : Nat} (h : i < bs.length) : (ubs bs)[i]? = some (.int .u8 (bs[i].toNat : Int)) := by simp [ubs, h, ub]
theorem ubs_drop (bs : List UInt8) (n : Nat) : (ubs bs).drop n = ubs (bs.drop n) := by simp [ubs]
theorem ubs_take (bs : List UInt8) (n : Nat) : (ubs bs).take n = ubs (bs.take n) := by simp [ubs]
theorem ubs_inj {a b : List UInt8} (h : ubs a = ubs b) : a = b := by
  unfold ubs at h
  exact List.map_inj_right (fun x y hxy => by
    unfold ub at hxy
    injection hxy with _ hxy
    exact UInt8.toNat_inj.1 (by omega)) |>.1 h

/-- A byte slice of the call's own. -/
abbrev Ow (w : World) (base : Nat) (v : Value) (bs : List UInt8) : Prop := w.ownsRow base 5 1 v bs.length (ubs bs)
/-- A byte slice that is read. -/
abbrev Rb (w : World) (B : Nat) (A : Option Addr) (bs : List UInt8) : Prop := Rd w B A (ubs bs)

theorem rb_take {w : World} {B : Nat} {A : Option Addr} {bs : List UInt8} (h : Rb w B A bs) (n : Nat) : Rb w B A (bs.take n) := by
  have := Rd.take h n
  rwa [ubs_take] at this
theorem rb_drop {w : World} {B : Nat} {A : Option Addr} {bs : List UInt8} (h : Rb w B A bs) {n cap : Nat} (hn : n ≤ bs.length) (hc : bs.length ≤ cap) : Rb w B (if cap = n then A else A.map (·.add n)) (bs.drop n) := by
  have := Rd.drop h (n := n) (cap := cap) (by rwa [ubs_length]) (by rwa [ubs_length])
  rwa [ubs_drop] at this

/-- string(b): the conversion of a slice that reads as bytes. -/
theorem run_convert_rb {P : Program} {w : World} {B : Nat} {A : Option Addr} {bs : List UInt8} (src dst e : TypeId) (hs : P.underlying src = some (.slice e)) (he : P.underlying e = some (.int .u8)) (hd : P.underlying dst = some .string)
    (h : Rb w B A bs) (c : Nat) : (convert src dst (.slice A bs.length c)).run P w = .ok (.string ⟨bs.toArray⟩) w := by
  rcases bs with _ | ⟨x, bs⟩
  · rw [run_convert_bytes_string w src dst e A _ c hs he hd]
    rcases A with _ | a
    · simp [Conv.bytesToString]; rfl
    · have := run_bytesToString (P := P) w a 0 c [] (by simp [loadCells, loadCellsFrom])
      rw [List.length_nil, this]; rfl
  · obtain ⟨b, o, rfl, hb, hc⟩ := h (by simp [ubs])
    have := run_convert_bytes_arg (P := P) w src e hs he b o (x :: bs).length c ((x :: bs).map fun b => (b.toNat : Int)) (by simp) (fun i hi => by
      rw [hc i (.int .u8 ((x :: bs)[i].toNat : Int)) (ubs_at hi), List.getD, List.getElem?_map, List.getElem?_eq_getElem hi]
      rfl) dst hd
    rw [this]
    congr 2
    simp only [strOfNums, List.map_map]
    congr 2
    exact (List.map_congr_left (g := id) fun b _ => by simp).trans (List.map_id _)
end Go.Proofs.YtjfpdbhjbleffaaDoor
