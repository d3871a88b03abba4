/-
  Layer 10, the document's side: climb: a node that is one of the proof's; a leaf.
  Layer 10, the document's side: climb: a leaf.
  Layer 10: the texts and the root that leaves and a proof come to, by definition; slices of texts kept where older memory is written.
  Layer 10: what a walk down to some indices reaches, and what is made of it: nodes beside, leaves, nodes joined; a stack of hashes. Nothing here walks.
  Layer 10: a stack of hashes, fed by what a walk reaches, comes to what the document's climb comes to. Nothing here walks.
-/
import Derived.Test.YtlmecjnlinalkaaDoorK4
import Derived.Test.YtlmecjnlinalkaaDoorJ5
namespace Go.Proofs.YtlmecjnlinalkaaDoor
open Go.RowKit

theorem sptR_in {W : World} {A : Option Addr} {S : List (Nat × Nat)} (h : Rd W W.heap.size A (sptR S)) {i : Nat} (hi : i < S.length) : ∃ g o, A = some ⟨g, o, none⟩ ∧ W.rangeAt g (o + 2 * i) (sptV S[i]) := by
  obtain ⟨g, o, e, -, r⟩ := h (by intro e; have := congrArg List.length e; rw [sptR_length] at this; simp at this; omega)
  refine ⟨g, o, e, fun j u hu => ?_⟩
  have h1 := sptR_at hi
  rcases j with _ | _ | j
  · have := r _ _ h1.1
    obtain rfl : Value.int .i64 ((S[i].1 : Nat) : Int) = u := by simpa [sptV] using hu
    exact this
  · have := r _ _ h1.2
    obtain rfl : Value.int .u64 ((S[i].2 : Nat) : Int) = u := by simpa [sptV] using hu
    exact this
  · simp [sptV] at hu
theorem eqf_two {P : Program} (w : World) (d : Nat) (xs ys : Array Value) (f1 f2 : Field) (n1 : f1.name ≠ "_") (n2 : f2.name ≠ "_") (a1 a2 b1 b2 : Value) (r1 r2 : Bool)
    (x1 : (part f1.type xs f1.offset).run P w = .ok a1 w) (y1 : (part f1.type ys f1.offset).run P w = .ok b1 w) (e1 : (Op.equalIn d f1.type a1 b1).run P w = .ok r1 w)
    (x2 : (part f2.type xs f2.offset).run P w = .ok a2 w) (y2 : (part f2.type ys f2.offset).run P w = .ok b2 w) (e2 : (Op.equalIn d f2.type a2 b2).run P w = .ok r2 w) :
    (Op.eqFields d xs ys [f1, f2]).run P w = .ok (r1 && r2) w := by
  unfold Op.eqFields
  rw [if_pos n1]
  simp only [Sem.run_bind, x1, y1, e1, Result.andThen_ok]
  cases r1
  · simp
  simp only [Bool.not_true, Bool.false_eq_true, if_false]
  unfold Op.eqFields
  rw [if_pos n2]
  simp only [Sem.run_bind, x2, y2, e2, Result.andThen_ok]
  cases r2
  · simp
  simp [Op.eqFields]
theorem cast_beq (e f : Nat) : ((e : Int) == (f : Int)) = (e == f) := by
  by_cases h : e = f
  · simp [h]
  · rw [beq_eq_false_iff_ne.2 h, beq_eq_false_iff_ne.2 (by omega)]
theorem plainIx : Tryd.prog.plainKey 3 = true := by kernel_rfl
theorem plainUx : Tryd.prog.plainKey 23 = true := by kernel_rfl
end Go.Proofs.YtlmecjnlinalkaaDoor

namespace Go.Proofs.YtlmecjnlinalkaaDoor
open Go.RowKit

end Go.Proofs.YtlmecjnlinalkaaDoor

namespace Go.Proofs.YtlmecjnlinalkaaDoor
open Go.RowKit

section
variable {l : List Nat} {lv bes : List UInt8} {S : List (Nat × Nat)}
end
section
variable {W W' : World} {base g : Nat} {v : Value} {ps : List Part} {A : Option Addr} {bs : List UInt8} {rr : Option Nat}
theorem Rb.grown (h : Rb W W.heap.size A bs) (hg : W.grownBy W' rr) (hne : ∀ b o, A = some ⟨b, o, none⟩ → rr ≠ some b) : Rb W' W'.heap.size A bs := by
  have hfr : Fr (fun k => rr = some k) W W' := (Fr.refl _ W).grown hg (fun k hk => .inr hk)
  exact (Rd.fr h hfr (fun b o e hS => hne b o e hS)).mono hfr.size
theorem Apt.row (h : Apt W base v ps) (hg : g < base) (cs : Array Value) : Apt (W.setRow g cs) base v ps := by
  have hsz : (W.setRow g cs).heap.size = W.heap.size := by simp [World.setRow]
  have hfr : Fr (fun k => k = g) W (W.setRow g cs) := ⟨rfl, rfl, rfl, by rw [hsz]; exact Nat.le_refl _, fun k _ hk => setRow_other W g k cs hk⟩
  refine ⟨⟨h.1.1, ?_⟩, fun p hp => ⟨?_, fun k hk => by rw [hsz]; exact (h.2 p hp).2 k hk⟩⟩
  · rcases h.1.2 with h2 | ⟨g', cap, cur, rfl, hb1, hh, r⟩
    · exact .inl h2
    · exact .inr ⟨g', cap, cur, rfl, hb1, (setRow_other W g g' cs (by omega)).trans hh, r⟩
  · rw [hsz]
    refine Rd.fr (h.2 p hp).1 hfr (fun b o e hS => ?_)
    have := ((h.2 p hp).2 b (by unfold Part.v; rw [e]; rfl)).1
    omega
end
end Go.Proofs.YtlmecjnlinalkaaDoor

namespace Go.Proofs.YtlmecjnlinalkaaDoor

/-- What a walk reaches: 0 a node beside, 1 a leaf, 2 a node that is joined; its level and its place. -/
abbrev Evt := Nat × Nat × Nat
def walkE : Nat → Nat → List Nat → List Evt
  | 0, p, l => if l = [] then [(0, 0, p)] else [(1, 0, p)]
  | k + 1, p, l => if l = [] then [(0, k + 1, p)] else walkE k (2 * p) (l.filter fun x => decide (x < (2 * p + 1) * 2 ^ k)) ++ (walkE k (2 * p + 1) (l.filter fun x => !decide (x < (2 * p + 1) * 2 ^ k)) ++ [(2, k + 1, p)])
theorem walkE_nil (k p : Nat) : walkE k p [] = [(0, k, p)] := by cases k <;> simp [walkE]
theorem walkE_leaf {p : Nat} {l : List Nat} (h : l ≠ []) : walkE 0 p l = [(1, 0, p)] := by simp [walkE, h]
theorem walkE_step {k p : Nat} {l : List Nat} (h : l ≠ []) : walkE (k + 1) p l = walkE k (2 * p) (l.filter fun x => decide (x < (2 * p + 1) * 2 ^ k)) ++ (walkE k (2 * p + 1) (l.filter fun x => !decide (x < (2 * p + 1) * 2 ^ k)) ++ [(2, k + 1, p)]) := by simp [walkE, h]
attribute [irreducible] walkE
/-- The indices below a node. -/
def subI (l : List Nat) (k p : Nat) : List Nat := l.filter fun x => x >>> k == p
theorem subI_nil {l : List Nat} {k p : Nat} : subI l k p = [] ↔ belowB l k p = false := by
  unfold subI belowB
  rw [List.filter_eq_nil_iff, List.any_eq_false]
theorem shr_step (x k p : Nat) : (x >>> (k + 1) = p ∧ x < (2 * p + 1) * 2 ^ k ↔ x >>> k = 2 * p) ∧ (x >>> (k + 1) = p ∧ ¬ x < (2 * p + 1) * 2 ^ k ↔ x >>> k = 2 * p + 1) := by
  have h1 : x >>> (k + 1) = (x >>> k) / 2 := by rw [Nat.shiftRight_succ]
  have h2 : x < (2 * p + 1) * 2 ^ k ↔ x >>> k < 2 * p + 1 := by
    rw [Nat.shiftRight_eq_div_pow, Nat.div_lt_iff_lt_mul (Nat.two_pow_pos k)]
  rw [h1, h2]
  generalize x >>> k = y
  omega
theorem subI_left (l : List Nat) (k p : Nat) : (subI l (k + 1) p).filter (fun x => decide (x < (2 * p + 1) * 2 ^ k)) = subI l k (2 * p) := by
  unfold subI
  rw [List.filter_filter]
  refine List.filter_congr fun x _ => ?_
  have h := (shr_step x k p).1
  rw [Bool.eq_iff_iff]
  simp only [Bool.and_eq_true, decide_eq_true_eq, beq_iff_eq]
  rw [← h]
  exact And.comm
theorem subI_right (l : List Nat) (k p : Nat) : (subI l (k + 1) p).filter (fun x => !decide (x < (2 * p + 1) * 2 ^ k)) = subI l k (2 * p + 1) := by
  unfold subI
  rw [List.filter_filter]
  refine List.filter_congr fun x _ => ?_
  have h := (shr_step x k p).2
  rw [Bool.eq_iff_iff]
  simp only [Bool.and_eq_true, Bool.not_eq_true', decide_eq_false_iff_not, beq_iff_eq]
  rw [← h]
  exact And.comm
theorem subI_all {l : List Nat} {h : Nat} (hl : ∀ x ∈ l, x < 2 ^ h) : subI l h 0 = l := by
  unfold subI
  refine List.filter_eq_self.2 fun x hx => ?_
  have := hl x hx
  rw [Nat.shiftRight_eq_div_pow, Nat.div_eq_of_lt this]
  rfl
/-- The nodes beside, and the leaves, among what is reached. -/
def asides (E : List Evt) : List (Nat × Nat) := (E.filter fun e => e.1 == 0).map (·.2)
def leafs (E : List Evt) : List Nat := (E.filter fun e => e.1 == 1).map (·.2.2)
theorem asides_append (E F : List Evt) : asides (E ++ F) = asides E ++ asides F := by simp [asides]
theorem leafs_append (E F : List Evt) : leafs (E ++ F) = leafs E ++ leafs F := by simp [leafs]
theorem mod64 {n : Nat} (h : n < 18446744073709551616) : n % 18446744073709551616 = n := Nat.mod_eq_of_lt h
theorem walk_asides (l : List Nat) : ∀ k p, (p + 1) * 2 ^ k ≤ 4294967296 → asides (walkE k p (subI l k p)) = spotsS l k p
  | 0, p, _ => by
    by_cases h : subI l 0 p = []
    · rw [h, walkE_nil, spotsS_out (subI_nil.1 h)]; rfl
    · rw [walkE_leaf h, spotsS_leaf (by simpa [subI_nil] using h)]; rfl
  | k + 1, p, hp => by
    by_cases h : subI l (k + 1) p = []
    · rw [h, walkE_nil, spotsS_out (subI_nil.1 h)]; rfl
    · have h1 : (2 * p + 1 + 1) * 2 ^ k ≤ 4294967296 := by rw [Nat.pow_succ] at hp; rw [show (2 * p + 1 + 1) * 2 ^ k = (p + 1) * (2 ^ k * 2) by rw [show 2 * p + 1 + 1 = 2 * (p + 1) by omega, Nat.mul_comm 2 (p + 1), Nat.mul_assoc, Nat.mul_comm 2]]; exact hp
      have h2 : (2 * p + 1) * 2 ^ k ≤ 4294967296 := Nat.le_trans (Nat.mul_le_mul_right _ (by omega)) h1
      have h3 : 2 * p + 1 + 1 ≤ 4294967296 := Nat.le_trans (Nat.le_mul_of_pos_right _ (Nat.two_pow_pos k)) h1
      rw [walkE_step h, subI_left, subI_right, asides_append, asides_append, walk_asides l k _ h2, walk_asides l k _ h1, spotsS_step (by simpa [subI_nil] using h), mod64 (by omega), mod64 (by omega)]
      simp [asides]
/-- How many hashes what is reached leaves on the stack. -/
def netE : List Evt → Int
  | [] => 0
  | e :: E => (if e.1 = 0 ∨ e.1 = 1 then 1 else -1) + netE E
theorem netE_append (E F : List Evt) : netE (E ++ F) = netE E + netE F := by
  induction E with
  | nil => simp [netE]
  | cons e E ih => simp only [List.cons_append, netE, ih]; omega
theorem walk_net : ∀ k p l, netE (walkE k p l) = 1
  | 0, p, l => by
    by_cases h : l = []
    · rw [h, walkE_nil]; rfl
    · rw [walkE_leaf h]; rfl
  | k + 1, p, l => by
    by_cases h : l = []
    · rw [h, walkE_nil]; rfl
    · rw [walkE_step h, netE_append, netE_append, walk_net, walk_net]; rfl
/-- What is reached is of three kinds; where a node is joined there are two hashes. -/
theorem split_append {α : Type} {A B pre post : List α} {e : α} (h : A ++ B = pre ++ e :: post) : (∃ q, A = pre ++ e :: q) ∨ ∃ q, pre = A ++ q ∧ B = q ++ e :: post := by
  rcases List.append_eq_append_iff.1 h with ⟨q, h1, h2⟩ | ⟨q, h1, h2⟩
  · exact .inr ⟨q, h1, h2⟩
  · cases q with
    | nil => exact .inr ⟨[], by simpa using h1.symm, by simpa using h2.symm⟩
    | cons c q =>
      injection h2 with h3 h4
      subst h3
      exact .inl ⟨q, h1⟩
theorem walk_join : ∀ k p l (pre : List Evt) (e : Evt) (post : List Evt), walkE k p l = pre ++ e :: post → e.1 = 0 ∨ e.1 = 1 ∨ (e.1 = 2 ∧ 2 ≤ netE pre)
  | 0, p, l, pre, e, post, h => by
    by_cases hl : l = []
    · rw [hl, walkE_nil] at h
      cases pre with
      | nil => injection h with h1 h2; subst h1; exact .inl rfl
      | cons a pre => injection h with h1 h2; cases pre <;> cases h2
    · rw [walkE_leaf hl] at h
      cases pre with
      | nil => injection h with h1 h2; subst h1; exact .inr (.inl rfl)
      | cons a pre => injection h with h1 h2; cases pre <;> cases h2
  | k + 1, p, l, pre, e, post, h => by
    by_cases hl : l = []
    · rw [hl, walkE_nil] at h
      cases pre with
      | nil => injection h with h1 h2; subst h1; exact .inl rfl
      | cons a pre => injection h with h1 h2; cases pre <;> cases h2
    · rw [walkE_step hl] at h
      rcases split_append h with ⟨q, h1⟩ | ⟨q, rfl, h1⟩
      · exact walk_join k _ _ pre e q h1
      · rcases split_append h1 with ⟨q2, h2⟩ | ⟨q2, rfl, h2⟩
        · rcases walk_join k _ _ q e q2 h2 with h3 | h3 | ⟨h3, h4⟩
          · exact .inl h3
          · exact .inr (.inl h3)
          · exact .inr (.inr ⟨h3, by rw [netE_append, walk_net]; omega⟩)
        · cases q2 with
          | nil =>
            injection h2 with h3 h4
            subst h3
            exact .inr (.inr ⟨rfl, by rw [netE_append, netE_append, walk_net, walk_net]; decide⟩)
          | cons a q2 => injection h2 with h3 h4; cases q2 <;> cases h4
end Go.Proofs.YtlmecjnlinalkaaDoor

namespace Go.Proofs.YtlmecjnlinalkaaDoor

/-- A walk's beginning is such that two hashes lie there where two are joined. -/
def okE (E : List Evt) : Prop := ∀ (pre : List Evt) (e : Evt) (post : List Evt), E = pre ++ e :: post → e.1 = 0 ∨ e.1 = 1 ∨ (e.1 = 2 ∧ 2 ≤ netE pre)
theorem okE_walk (k p : Nat) (l : List Nat) : okE (walkE k p l) := fun pre e post h => walk_join k p l pre e post h
theorem okE.left {E F : List Evt} (h : okE (E ++ F)) : okE E := fun pre e post he => h pre e (post ++ F) (by rw [he]; simp)
theorem half_room {k p : Nat} (hp : (p + 1) * 2 ^ (k + 1) ≤ 4294967296) : (2 * p + 1) * 2 ^ k ≤ 4294967296 ∧ (2 * p + 1 + 1) * 2 ^ k ≤ 4294967296 ∧ 2 * p + 1 + 1 ≤ 4294967296 := by
  have h1 : (2 * p + 1 + 1) * 2 ^ k ≤ 4294967296 := by rw [Nat.pow_succ] at hp; rw [show (2 * p + 1 + 1) * 2 ^ k = (p + 1) * (2 ^ k * 2) by rw [show 2 * p + 1 + 1 = 2 * (p + 1) by omega, Nat.mul_comm 2 (p + 1), Nat.mul_assoc, Nat.mul_comm 2]]; exact hp
  exact ⟨Nat.le_trans (Nat.mul_le_mul_right _ (by omega)) h1, h1, Nat.le_trans (Nat.le_mul_of_pos_right _ (Nat.two_pow_pos k)) h1⟩
theorem spotsS_half {l : List Nat} {k p : Nat} (hp : (p + 1) * 2 ^ (k + 1) ≤ 4294967296) (h : belowB l (k + 1) p = true) : spotsS l (k + 1) p = spotsS l k (2 * p) ++ spotsS l k (2 * p + 1) := by
  have := (half_room hp).2.2
  rw [spotsS_step h, mod64 (by omega), mod64 (by omega)]
end Go.Proofs.YtlmecjnlinalkaaDoor
