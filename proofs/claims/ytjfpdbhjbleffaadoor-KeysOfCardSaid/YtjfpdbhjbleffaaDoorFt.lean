/-
  A region whose order is open, walked once: what each operation yields is said by a fact that new memory does not turn. Nothing here speaks of the program.
-/
import Derived.OrdersIn
import Derived.Test.YtjfpdbhjbleffaaDoorReg
import Derived.Test.YtjfpdbhjbleffaaDoorIn
namespace Go.Proofs.YtjfpdbhjbleffaaDoor
open Go.RowKit

/-- The frame with what the first operations yield. -/
def frm (vals : Nat → Value) : Nat → List Nat → List Value → List Value
  | _, [], l => l
  | i, t :: r, l => frm vals (i + 1) r (l.set t (vals i))
theorem frm_nil (vals : Nat → Value) (i : Nat) (l : List Value) : frm vals i [] l = l := rfl
theorem frm_cons (vals : Nat → Value) (i t : Nat) (r : List Nat) (l : List Value) : frm vals i (t :: r) l = frm vals (i + 1) r (l.set t (vals i)) := rfl
theorem frm_length (vals : Nat → Value) (ds : List Nat) : ∀ (i : Nat) (l : List Value), (frm vals i ds l).length = l.length := by
  induction ds with
  | nil => exact fun _ _ => rfl
  | cons t r ih => exact fun i l => by rw [frm_cons, ih, List.length_set]
theorem frm_set (vals : Nat → Value) (ds : List Nat) : ∀ (i t : Nat) (l : List Value) (v : Value), t ∉ ds → (frm vals i ds l).set t v = frm vals i ds (l.set t v) := by
  induction ds with
  | nil => exact fun _ _ _ _ _ => rfl
  | cons s r ih =>
    intro i t l v h
    rw [frm_cons, frm_cons, ih _ _ _ _ (fun e => h (List.mem_cons_of_mem _ e)), List.set_comm]
    rintro rfl
    exact h (List.mem_cons_self ..)
theorem frm_congr (vals vals' : Nat → Value) (ds : List Nat) : ∀ (i : Nat) (l : List Value), (∀ j, i ≤ j → vals j = vals' j) → frm vals i ds l = frm vals' i ds l := by
  induction ds with
  | nil => exact fun _ _ _ => rfl
  | cons t r ih =>
    intro i l h
    rw [frm_cons, frm_cons, ih _ _ (fun j hj => h j (by omega)), h i (Nat.le_refl _)]
/-- One value more. -/
def upv (vals : Nat → Value) (i : Nat) (v : Value) : Nat → Value := fun j => if j = i then v else vals j
theorem frm_put (vals : Nat → Value) (v : Value) (ds : List Nat) (hd : ds.Nodup) : ∀ (i k t : Nat) (l : List Value), ds[k]? = some t → (frm vals i ds l).set t v = frm (upv vals (i + k) v) i ds l := by
  induction ds with
  | nil => intro i k t l h; cases h
  | cons s r ih =>
    intro i k t l h
    obtain ⟨h1, h2⟩ := List.nodup_cons.1 hd
    cases k with
    | zero =>
      obtain rfl : s = t := by simpa using h
      rw [frm_cons, frm_cons, frm_set _ _ _ _ _ _ h1, List.set_set, show upv vals (i + 0) v i = v by simp [upv]]
      exact frm_congr _ _ _ _ _ (fun j hj => by simp only [upv]; rw [if_neg (by omega)])
    | succ k =>
      rw [frm_cons, frm_cons, ih h2 (i + 1) k t _ (by simpa using h), show i + (k + 1) = i + 1 + k by omega]
      rw [show upv vals (i + 1 + k) v i = vals i by simp only [upv]; rw [if_neg (by omega)]]
/-- What the slots hold as it is. -/
def was (ds : List Nat) (l : List Value) (i : Nat) : Value := l.getD (ds.getD i 0) undef
theorem frm_id (vals : Nat → Value) (ds : List Nat) : ∀ (i : Nat) (l : List Value), (∀ k t, ds[k]? = some t → l[t]? = some (vals (i + k))) → frm vals i ds l = l := by
  induction ds with
  | nil => exact fun _ _ _ => rfl
  | cons t r ih =>
    intro i l h
    have h0 := h 0 t rfl
    have e : l.set t (vals i) = l := by
      apply List.ext_getElem?
      intro j
      rw [List.getElem?_set]
      by_cases hj : t = j
      · subst hj
        rw [if_pos rfl]
        obtain ⟨hlt, hv⟩ := List.getElem?_eq_some_iff.1 h0
        rw [if_pos hlt, h0]
        rfl
      · rw [if_neg hj]
    rw [frm_cons, e]
    exact ih (i + 1) l (fun k s hs => by rw [show i + 1 + k = i + (k + 1) by omega]; exact h (k + 1) s (by simpa using hs))

section
variable {ops : Array Oper} {step : Nat → (Act → World → Prop) → Act → World → Prop} {Qn : Act → World → Prop}
/-- Whatever comes up next, by whatever an operation's step is. -/
def gAny (step : Nat → (Act → World → Prop) → Act → World → Prop) (ops : Array Oper) (Qn : Act → World → Prop) : Nat → Array Bool → Act → World → Prop
  | 0, listed, a, w => Region.ready .any ops listed = [] ∧ Qn a w
  | fuel + 1, listed, a, w => (Region.ready .any ops listed = [] → Qn a w) ∧ ∀ i ∈ Region.ready .any ops listed, step i (gAny step ops Qn fuel (listed.setIfInBounds i true)) a w
/-- Operation i waits for operation j. -/
def needs (ops : Array Oper) (i j : Nat) : Bool := ((ops[i]?).map fun o => o.after.any fun e => Region.binds .any e && e.on == j).getD false
/-- What is asked of the region: the first m operations have slots of their own, wait for earlier ones alone, and all others wait for them. -/
def factsB (ops : Array Oper) (m n : Nat) (ds : List Nat) (len : Nat) : Bool :=
  ops.size == n && ds.length == m && decide (m ≤ n) && decide ds.Nodup && ds.all (· < len) &&
  (List.range m).all (fun i => ((ops[i]?).map fun o => o.dst == ds[i]? && o.after.all fun e => !Region.binds .any e || decide (e.on < i)).getD false) &&
  (List.range n).all (fun j => decide (j < m) || (List.range m).all fun i => needs ops j i)
/-- The first m are listed. -/
def listedTo (n m : Nat) : Array Bool := Array.ofFn (n := n) fun i => decide (i.val < m)
def left (listed : Array Bool) (m : Nat) : Nat := ((List.range m).filter fun i => !listed.getD i true).length
theorem left_set (listed : Array Bool) (i : Nat) : ∀ m, i < m → listed.getD i true = false → left (listed.setIfInBounds i true) m + 1 = left listed m := by
  intro m
  induction m with
  | zero => intro h; omega
  | succ m ih =>
    intro hi hl
    have hlt : i < listed.size := by
      rcases Nat.lt_or_ge i listed.size with h | h
      · exact h
      · rw [Array.getD_eq_getD_getElem?, Array.getElem?_eq_none h] at hl
        cases hl
    unfold left at ih ⊢
    rw [List.range_succ, List.filter_append, List.filter_append, List.length_append, List.length_append]
    by_cases e : i = m
    · subst e
      have h1 : (List.range i).filter (fun k => !(listed.setIfInBounds i true).getD k true) = (List.range i).filter (fun k => !listed.getD k true) :=
        List.filter_congr fun k hk => by rw [getD_set_ne true (by have := List.mem_range.1 hk; omega)]
      have h2 : (listed.setIfInBounds i true).getD i true = true := by simp [hlt]
      have h5 : (List.filter (fun k => !(listed.setIfInBounds i true).getD k true) [i]) = [] := List.filter_cons_of_neg (by rw [h2]; simp)
      have h6 : (List.filter (fun k => !listed.getD k true) [i]) = [i] := by rw [List.filter_cons_of_pos (by rw [hl]; rfl), List.filter_nil]
      rw [h1, h5, h6]
      simp
    · have h3 := ih (by omega) hl
      rw [← h3]
      have h4 : (listed.setIfInBounds i true).getD m true = listed.getD m true := getD_set_ne true e
      simp only [List.filter_cons, List.filter_nil, h4]
      split <;> simp <;> omega
theorem left_pos (listed : Array Bool) (m i : Nat) (hi : i < m) (h : listed.getD i true = false) : 0 < left listed m := by
  have := left_set listed i m hi h
  omega
theorem left_zero (listed : Array Bool) (m : Nat) (h : left listed m = 0) (i : Nat) (hi : i < m) : listed.getD i true = true := by
  cases e : listed.getD i true with
  | true => rfl
  | false => have := left_pos listed m i hi e; omega
/-- The least one that isn't listed. -/
theorem least_left (listed : Array Bool) (m : Nat) (h : left listed m ≠ 0) : ∃ i, i < m ∧ listed.getD i true = false ∧ ∀ j, j < i → listed.getD j true = true := by
  have hex : ∃ i, i < m ∧ listed.getD i true = false := by
    refine Classical.byContradiction fun hno => h ?_
    unfold left
    rw [List.length_eq_zero_iff, List.filter_eq_nil_iff]
    intro i hi
    cases e : listed.getD i true with
    | true => simp
    | false => exact (hno ⟨i, List.mem_range.1 hi, e⟩).elim
  have key : ∀ k, (∃ i, i < m ∧ listed.getD i true = false ∧ i ≤ k) → ∃ i, i < m ∧ listed.getD i true = false ∧ ∀ j, j < i → listed.getD j true = true := by
    intro k
    induction k with
    | zero =>
      rintro ⟨i, h1, h2, h3⟩
      exact ⟨i, h1, h2, fun j hj => by omega⟩
    | succ k ih =>
      rintro ⟨i, h1, h2, h3⟩
      by_cases hsm : ∃ j, j < i ∧ listed.getD j true = false
      · obtain ⟨j, hj, hf⟩ := hsm
        exact ih ⟨j, by omega, hf, by omega⟩
      · refine ⟨i, h1, h2, fun j hj => ?_⟩
        cases e : listed.getD j true with
        | true => rfl
        | false => exact (hsm ⟨j, hj, e⟩).elim
  obtain ⟨i, h1, h2⟩ := hex
  exact key i ⟨i, h1, h2, Nat.le_refl _⟩

theorem gAny_facts {l : List Value} {d : List Deferred} (m n : Nat) (ds : List Nat) (F : Nat → Value → World → Prop) (B : World → Prop) (hc : factsB ops m n ds l.length = true)
    (hB : ∀ W W', B W → Below W.heap.size W W' → B W') (hF : ∀ i v W W', F i v W → Below W.heap.size W W' → F i v W')
    (hstep : ∀ i, i < m → ∀ (vals : Nat → Value) (W : World) (K : Act → World → Prop), B W → (∀ j, needs ops i j = true → F j (vals j) W) →
      (∀ v W', F i v W' → Below W.heap.size W W' → K { tmps := ((frm vals 0 ds l).set (ds.getD i 0) v).toArray, defers := d } W') → step i K { tmps := (frm vals 0 ds l).toArray, defers := d } W)
    (hend : ∀ (vals : Nat → Value) (W : World), B W → (∀ i, i < m → F i (vals i) W) → gAny step ops Qn (n - m) (listedTo n m) { tmps := (frm vals 0 ds l).toArray, defers := d } W) :
    ∀ (c : Nat) (listed : Array Bool) (vals : Nat → Value) (W : World), listed.size = n → (∀ j, m ≤ j → j < n → listed.getD j true = false) → left listed m = c → B W →
      (∀ i, i < m → listed.getD i true = true → F i (vals i) W) → gAny step ops Qn (c + (n - m)) listed { tmps := (frm vals 0 ds l).toArray, defers := d } W := by
  simp only [factsB, Bool.and_eq_true, beq_iff_eq, decide_eq_true_eq, List.all_eq_true, List.mem_range, Bool.or_eq_true] at hc
  obtain ⟨⟨⟨⟨⟨⟨hsz, hdl⟩, hmn⟩, hnd⟩, hlt⟩, hone⟩, hlast⟩ := hc
  have hops : ∀ i, i < m → ∃ o, ops[i]? = some o ∧ o.dst = ds[i]? ∧ ∀ e ∈ o.after, Region.binds .any e = true → e.on < i := by
    intro i hi
    have h1 := hone i hi
    cases ho : ops[i]? with
    | none => rw [ho] at h1; cases h1
    | some o =>
      rw [ho] at h1
      simp only [Option.map_some, Option.getD_some, Bool.and_eq_true, beq_iff_eq, Array.all_eq_true', Bool.or_eq_true, decide_eq_true_eq, Bool.not_eq_true'] at h1
      refine ⟨o, rfl, h1.1, fun e he hb => ?_⟩
      rcases h1.2 e he with h2 | h2
      · rw [hb] at h2; cases h2
      · exact h2
  intro c
  induction c with
  | zero =>
    intro listed vals W hs hun hl hBW hFW
    have e : listed = listedTo n m := by
      apply Array.ext_getElem?
      intro i
      by_cases hi : i < n
      · have h1 : listed.getD i true = decide (i < m) := by
          by_cases him : i < m
          · rw [left_zero listed m hl i him]; simp [him]
          · rw [hun i (by omega) hi]; simp [him]
        have h2 : i < listed.size := by omega
        rw [Array.getD_eq_getD_getElem?, Array.getElem?_eq_getElem h2] at h1
        rw [Array.getElem?_eq_getElem h2]
        simp only [Option.getD_some] at h1
        rw [h1]
        simp [listedTo, hi]
      · rw [Array.getElem?_eq_none (by omega), Array.getElem?_eq_none (by simp [listedTo]; omega)]
    rw [e, Nat.zero_add]
    exact hend vals W hBW (fun i hi => hFW i hi (left_zero listed m hl i hi))
  | succ c ih =>
    intro listed vals W hs hun hl hBW hFW
    rw [show c + 1 + (n - m) = (c + (n - m)) + 1 by omega]
    refine ⟨fun h0 => ?_, fun i hi => ?_⟩
    · obtain ⟨i, him, hif, hlo⟩ := least_left listed m (by omega)
      obtain ⟨o, ho, _, hed⟩ := hops i him
      have : i ∈ Region.ready .any ops listed := by
        rw [mem_ready]
        refine ⟨hif, o, ho, fun e he hb => ?_⟩
        have h1 := hlo e.on (hed e he hb)
        have h2 : e.on < listed.size := by have := hed e he hb; omega
        rw [Array.getD_eq_getD_getElem?, Array.getElem?_eq_getElem h2] at h1 ⊢
        exact h1
      rw [h0] at this
      cases this
    · obtain ⟨hif, o, ho, hall⟩ := mem_ready.1 hi
      have hin : i < n := by have := (Array.getElem?_eq_some_iff.1 ho).1; omega
      have him : i < m := by
        rcases Nat.lt_or_ge i m with h | h
        · exact h
        · exfalso
          obtain ⟨k, hkm, hkf, _⟩ := least_left listed m (by omega)
          have h1 := (hlast i hin).resolve_left (by omega) k hkm
          simp only [needs, ho, Option.map_some, Option.getD_some, Array.any_eq_true', Bool.and_eq_true, beq_iff_eq] at h1
          obtain ⟨e, he, hb, rfl⟩ := h1
          have h2 := hall e he hb
          have h3 : e.on < listed.size := by omega
          rw [Array.getD_eq_getD_getElem?, Array.getElem?_eq_getElem h3] at h2 hkf
          simp only [Option.getD_some] at h2 hkf
          rw [h2] at hkf
          cases hkf
      have hnl : ∀ j, needs ops i j = true → listed.getD j true = true ∧ j < i := by
        intro j hj
        simp only [needs, ho, Option.map_some, Option.getD_some, Array.any_eq_true', Bool.and_eq_true, beq_iff_eq] at hj
        obtain ⟨e, he, hb, rfl⟩ := hj
        obtain ⟨o', ho', _, hed⟩ := hops i him
        rw [ho] at ho'
        cases ho'
        have h1 := hall e he hb
        have h2 := hed e he hb
        have h3 : e.on < listed.size := by omega
        refine ⟨?_, h2⟩
        rw [Array.getD_eq_getD_getElem?, Array.getElem?_eq_getElem h3] at h1 ⊢
        exact h1
      have hdi : ds[i]? = some (ds.getD i 0) := by
        have : i < ds.length := by omega
        rw [List.getD_eq_getElem?_getD, List.getElem?_eq_getElem this]
        rfl
      refine hstep i him vals W _ hBW (fun j hj => hFW j (by have := (hnl j hj).2; omega) (hnl j hj).1) fun v W' hFi hb => ?_
      have hp := frm_put vals v ds hnd 0 i (ds.getD i 0) l hdi
      rw [Nat.zero_add] at hp
      rw [hp]
      refine ih _ (upv vals i v) W' (by simp [hs]) (fun j h1 h2 => by rw [getD_set_ne true (by omega)]; exact hun j h1 h2) (by have := left_set listed i m him hif; omega) (hB _ _ hBW hb) (fun k hk hkl => ?_)
      by_cases hki : k = i
      · subst hki
        rw [show upv vals k v k = v by simp [upv]]
        exact hFi
      · rw [show upv vals i v k = vals k by simp [upv, hki]]
        rw [getD_set_ne true (Ne.symm hki)] at hkl
        exact hF _ _ _ _ (hFW k hk hkl) hb

theorem gAny_region {l : List Value} {d : List Deferred} {w : World} (m n : Nat) (ds : List Nat) (F : Nat → Value → World → Prop) (B : World → Prop) (hc : factsB ops m n ds l.length = true)
    (hB : ∀ W W', B W → Below W.heap.size W W' → B W') (hF : ∀ i v W W', F i v W → Below W.heap.size W W' → F i v W') (h0 : B w)
    (hstep : ∀ i, i < m → ∀ (vals : Nat → Value) (W : World) (K : Act → World → Prop), B W → (∀ j, needs ops i j = true → F j (vals j) W) →
      (∀ v W', F i v W' → Below W.heap.size W W' → K { tmps := ((frm vals 0 ds l).set (ds.getD i 0) v).toArray, defers := d } W') → step i K { tmps := (frm vals 0 ds l).toArray, defers := d } W)
    (hend : ∀ (vals : Nat → Value) (W : World), B W → (∀ i, i < m → F i (vals i) W) → gAny step ops Qn (n - m) (listedTo n m) { tmps := (frm vals 0 ds l).toArray, defers := d } W) :
    gAny step ops Qn ops.size (Array.replicate ops.size false) { tmps := l.toArray, defers := d } w := by
  have hc' := hc
  simp only [factsB, Bool.and_eq_true, beq_iff_eq, decide_eq_true_eq, List.all_eq_true, List.mem_range, Bool.or_eq_true] at hc'
  obtain ⟨⟨⟨⟨⟨⟨hsz, hdl⟩, hmn⟩, hnd⟩, hlt⟩, hone⟩, hlast⟩ := hc'
  have hid0 : frm (was ds l) 0 ds l = l := frm_id _ _ _ _ fun k t hk => by
    have h1 := hlt t (List.mem_of_getElem? hk)
    rw [Nat.zero_add, was, List.getD_eq_getElem?_getD (l := ds), hk, Option.getD_some, List.getD_eq_getElem?_getD, List.getElem?_eq_getElem h1]
    rfl
  have hr0 : ∀ i, i < n → (Array.replicate n false).getD i true = false := fun i hi => by rw [Array.getD_eq_getD_getElem?, Array.getElem?_replicate, if_pos hi]; rfl
  have hl0 : left (Array.replicate n false) m = m := by
    unfold left
    rw [List.filter_eq_self.2 (fun i hi => by rw [hr0 i (by have := List.mem_range.1 hi; omega)]; rfl), List.length_range]
  have := gAny_facts (step := step) (Qn := Qn) m n ds F B hc hB hF hstep hend m (Array.replicate n false) (was ds l) w (by simp) (fun j _ hj => hr0 j hj) hl0 h0
    (fun i hi h => by rw [hr0 i (by omega)] at h; cases h)
  rw [hid0, show m + (n - m) = n by omega] at this
  rw [hsz]
  exact this
end
section
variable {P : Program} {ops : Array Oper} {Q : Exit → Act → World → Prop}
theorem gAny_any : ∀ (fuel : Nat) (listed : Array Bool) (a : Act) (w : World), gAny (wpOp P ops Q) ops (Q .normal) fuel listed a w → wpAny P .any ops Q fuel listed a w
  | 0, _, _, _, h => h
  | fuel + 1, _, _, _, h => ⟨h.1, fun i hi => wpOp_mono (fun a' w' h' => gAny_any fuel _ a' w' h') (h.2 i hi)⟩
theorem any_gAny : ∀ (fuel : Nat) (listed : Array Bool) (a : Act) (w : World), wpAny P .any ops Q fuel listed a w → gAny (wpOp P ops Q) ops (Q .normal) fuel listed a w
  | 0, _, _, _, h => h
  | fuel + 1, _, _, _, h => ⟨h.1, fun i hi => wpOp_mono (fun a' w' h' => any_gAny fuel _ a' w' h') (h.2 i hi)⟩
theorem wp_region_facts {id : Nat} {l : List Value} {d : List Deferred} {w : World} (m n : Nat) (ds : List Nat) (F : Nat → Value → World → Prop) (B : World → Prop) (hm : P.follows .mixedOrders = true) (hc : factsB ops m n ds l.length = true)
    (hB : ∀ W W', B W → Below W.heap.size W W' → B W') (hF : ∀ i v W W', F i v W → Below W.heap.size W W' → F i v W') (h0 : B w.drew)
    (hstep : ∀ i, i < m → ∀ (vals : Nat → Value) (W : World) (K : Act → World → Prop), B W → (∀ j, needs ops i j = true → F j (vals j) W) →
      (∀ v W', F i v W' → Below W.heap.size W W' → K { tmps := ((frm vals 0 ds l).set (ds.getD i 0) v).toArray, defers := d } W') → wpOp P ops Q i K { tmps := (frm vals 0 ds l).toArray, defers := d } W)
    (hend : ∀ (vals : Nat → Value) (W : World), B W → (∀ i, i < m → F i (vals i) W) → wpUpto P .any ops Q (fun _ => True) n (n - m) (listedTo n m) { tmps := (frm vals 0 ds l).toArray, defers := d } W) :
    (Code.region id ops true).wp P Q { tmps := l.toArray, defers := d } w := by
  refine wp_region_any hm (gAny_any _ _ _ _ ?_)
  exact gAny_region m n ds F B hc hB hF h0 hstep (fun vals W hb hf => any_gAny _ _ _ _ (wpUpto_any _ _ _ _ (hend vals W hb hf)))
theorem wpOp_plain {i : Nat} {o : Oper} {K : Act → World → Prop} {a : Act} {w : World} (ho : ops[i]? = some o) (hg : o.guard = none) (h : o.wp P a w K Q) : wpOp P ops Q i K a w := by
  unfold wpOp
  rw [ho]
  simp only [Region.wanted, hg, if_true]
  exact .inl h
/-- Behind a guard that lets it. -/
theorem wpOp_on {i : Nat} {o : Oper} {K : Act → World → Prop} {a : Act} {w : World} (ho : ops[i]? = some o) (hg : Region.wanted o (yielded ops a.tmps) = true) (h : o.wp P a w K Q) : wpOp P ops Q i K a w := by
  unfold wpOp
  rw [ho]
  simp only [hg, if_true]
  exact .inl h
/-- Behind a guard that doesn't. -/
theorem wpOp_off {i : Nat} {o : Oper} {K : Act → World → Prop} {a : Act} {w : World} (ho : ops[i]? = some o) (hg : Region.wanted o (yielded ops a.tmps) = false) (h : K (a.put o.dst undef) w) : wpOp P ops Q i K a w := by
  unfold wpOp
  rw [ho]
  simp only [hg]
  exact h
theorem wp_val {o : Oper} {K : Act → World → Prop} {a : Act} {w w' : World} {v : Value} (hrun : (execOp a.eval o).run P w = .ok (.value v) w') (h : K (a.put o.dst v) w') : o.wp P a w K Q := by
  unfold Oper.wp
  rw [hrun]
  exact h
end
section
variable {F : Fence} {rm : Nat} {P : Program} {ops : Array Oper} {Q : Exit → Act → World → Prop}
theorem gAny_anyIn : ∀ (fuel : Nat) (listed : Array Bool) (a : Act) (w : World), gAny (wpOpIn F rm P ops Q) ops (Q .normal) fuel listed a w → wpAnyIn F rm P .any ops Q fuel listed a w
  | 0, _, _, _, h => h
  | fuel + 1, _, _, _, h => ⟨h.1, fun i hi => wpOpIn_mono (fun a' w' h' => gAny_anyIn fuel _ a' w' h') (h.2 i hi)⟩
/-- The same inside a fence: all operations by facts. -/
theorem wpIn_region_facts {id : Nat} {l : List Value} {d : List Deferred} {w : World} (n : Nat) (ds : List Nat) (G : Nat → Value → World → Prop) (B : World → Prop) (hm : P.follows .mixedOrders = true) (hc : factsB ops n n ds l.length = true)
    (hB : ∀ W W', B W → Below W.heap.size W W' → B W') (hF : ∀ i v W W', G i v W → Below W.heap.size W W' → G i v W') (h0 : B w.drew)
    (hstep : ∀ i, i < n → ∀ (vals : Nat → Value) (W : World) (K : Act → World → Prop), B W → (∀ j, needs ops i j = true → G j (vals j) W) →
      (∀ v W', G i v W' → Below W.heap.size W W' → K { tmps := ((frm vals 0 ds l).set (ds.getD i 0) v).toArray, defers := d } W') → wpOpIn F rm P ops Q i K { tmps := (frm vals 0 ds l).toArray, defers := d } W)
    (hend : ∀ (vals : Nat → Value) (W : World), B W → (∀ i, i < n → G i (vals i) W) → Region.ready .any ops (listedTo n n) = [] ∧ Q .normal { tmps := (frm vals 0 ds l).toArray, defers := d } W) :
    (Code.region id ops true).wpIn F rm P Q { tmps := l.toArray, defers := d } w := by
  refine wpIn_region_any hm (gAny_anyIn _ _ _ _ ?_)
  exact gAny_region n n ds G B hc hB hF h0 hstep (fun vals W hb hf => by rw [Nat.sub_self]; exact hend vals W hb hf)
theorem wpOpIn_plain {i : Nat} {o : Oper} {K : Act → World → Prop} {a : Act} {w : World} (ho : ops[i]? = some o) (hg : o.guard = none) (h : o.wpIn F rm P a w K Q) : wpOpIn F rm P ops Q i K a w := by
  unfold wpOpIn
  rw [ho]
  simp only [Region.wanted, hg, if_true]
  exact h
theorem wpIn_val {o : Oper} {K : Act → World → Prop} {a : Act} {w w' : World} {v : Value} (hd : ∀ c, o.op ≠ .defer c) (hab : o.about P w a.eval = none) (hrun : (execOp a.eval o).run P w = .ok (.value v) w') (h : K (a.put o.dst v) w') : o.wpIn F rm P a w K Q := by
  unfold Oper.wpIn
  refine ⟨fun f hf => (by rw [hab] at hf; cases hf), ?_⟩
  rw [Oper.semAt_plain F _ _ hd, hrun]
  exact h
end
end Go.Proofs.YtjfpdbhjbleffaaDoor
