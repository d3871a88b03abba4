/-
  A region whose order is open, walked by facts from any state on: some operations are done, some are walked by facts, the rest waits for these. Nothing here speaks of the program.
-/
import Derived.Test.YtjfpdbhjbleffaaDoorFt
namespace Go.Proofs.YtjfpdbhjbleffaaDoor
open Go.RowKit

section
variable {ops : Array Oper} {step : Nat → (Act → World → Prop) → Act → World → Prop} {Qn : Act → World → Prop}
/-- Operation j waits for operation a, by way of those of ns. -/
def comes (ops : Array Oper) (ns : List Nat) : Nat → Nat → Nat → Bool
  | 0, j, a => needs ops j a
  | f + 1, j, a => needs ops j a || ns.any fun i => needs ops j i && comes ops ns f i a
/-- What is asked: ns (slots ds) wait for earlier ones of ns and for what is done; what is left waits for all of ns. -/
def factsG (ops : Array Oper) (n : Nat) (ns ds : List Nat) (done : Array Bool) (len : Nat) : Bool :=
  ops.size == n && done.size == n && ns.length == ds.length && decide ns.Nodup && decide ds.Nodup && ds.all (· < len) && ns.all (· < n) && ns.all (fun a => !done.getD a true) &&
  (List.range ns.length).all (fun k => ((ops[ns.getD k 0]?).map fun o => o.dst == ds[k]? && o.after.all fun e => !Region.binds .any e || (ns.take k).contains e.on || done.getD e.on false).getD false) &&
  (List.range n).all (fun j => done.getD j true || ns.contains j || ns.all fun a => comes ops ns 12 j a)
def leftG (listed : Array Bool) (ns : List Nat) : Nat := (ns.filter fun i => !listed.getD i true).length
theorem leftG_set (listed : Array Bool) (i : Nat) (hlt : i < listed.size) (hl : listed.getD i true = false) : ∀ ns : List Nat, ns.Nodup → i ∈ ns → leftG (listed.setIfInBounds i true) ns + 1 = leftG listed ns := by
  intro ns
  induction ns with
  | nil => intro _ h; cases h
  | cons a r ih =>
    intro hn hm
    obtain ⟨h1, h2⟩ := List.nodup_cons.1 hn
    have hself : (listed.setIfInBounds i true).getD i true = true := by simp [hlt]
    unfold leftG at ih ⊢
    by_cases e : a = i
    · subst e
      have h3 : r.filter (fun k => !(listed.setIfInBounds a true).getD k true) = r.filter (fun k => !listed.getD k true) := List.filter_congr fun k hk => by rw [getD_set_ne true (fun e => h1 (by rw [e]; exact hk))]
      rw [List.filter_cons_of_neg (by rw [hself]; simp), List.filter_cons_of_pos (by rw [hl]; rfl), h3, List.length_cons]
    · have h4 : i ∈ r := by
        rcases List.mem_cons.1 hm with h | h
        · exact absurd h.symm e
        · exact h
      have h5 := ih h2 h4
      have h6 : (listed.setIfInBounds i true).getD a true = listed.getD a true := getD_set_ne true (Ne.symm e)
      by_cases h7 : listed.getD a true = true
      · rw [List.filter_cons_of_neg (by rw [h6, h7]; simp), List.filter_cons_of_neg (by rw [h7]; simp)]
        exact h5
      · have h8 : listed.getD a true = false := by simpa using h7
        rw [List.filter_cons_of_pos (by rw [h6, h8]; rfl), List.filter_cons_of_pos (by rw [h8]; rfl), List.length_cons, List.length_cons]
        omega
theorem leftG_zero (listed : Array Bool) (ns : List Nat) (h : leftG listed ns = 0) (a : Nat) (ha : a ∈ ns) : listed.getD a true = true := by
  unfold leftG at h
  rw [List.length_eq_zero_iff, List.filter_eq_nil_iff] at h
  simpa using h a ha
/-- The first one of ns that isn't listed. -/
theorem first_left (listed : Array Bool) : ∀ ns : List Nat, leftG listed ns ≠ 0 → ∃ k, k < ns.length ∧ listed.getD (ns.getD k 0) true = false ∧ ∀ a ∈ ns.take k, listed.getD a true = true := by
  intro ns
  induction ns with
  | nil => intro h; exact absurd rfl h
  | cons a r ih =>
    intro h
    by_cases h7 : listed.getD a true = true
    · obtain ⟨k, h1, h2, h3⟩ := ih (by
        unfold leftG at h ⊢
        rw [List.filter_cons_of_neg (by rw [h7]; simp)] at h
        exact h)
      refine ⟨k + 1, by simp; omega, by simpa using h2, fun b hb => ?_⟩
      rw [List.take_succ_cons] at hb
      rcases List.mem_cons.1 hb with rfl | hb
      · exact h7
      · exact h3 b hb
    · exact ⟨0, by simp, by simpa using h7, fun b hb => by simp at hb⟩
theorem getD_both' {listed : Array Bool} {i : Nat} (hi : i < listed.size) (h : listed.getD i true = true) : listed.getD i false = true := by
  rw [Array.getD_eq_getD_getElem?, Array.getElem?_eq_getElem hi] at h ⊢
  exact h
/-- All of ns are listed behind what is done. -/
def doneTo (done : Array Bool) (ns : List Nat) : Array Bool := ns.foldl (fun l a => l.setIfInBounds a true) done
theorem doneTo_size (ns : List Nat) : ∀ done : Array Bool, (doneTo done ns).size = done.size := by
  induction ns with
  | nil => exact fun _ => rfl
  | cons a r ih => intro d; show (doneTo (d.setIfInBounds a true) r).size = _; rw [ih]; simp
theorem doneTo_get (ns : List Nat) : ∀ (done : Array Bool) (j : Nat), j < done.size → (doneTo done ns).getD j true = (ns.contains j || done.getD j true) := by
  induction ns with
  | nil => intro d j h; simp [doneTo]
  | cons a r ih =>
    intro d j h
    show (doneTo (d.setIfInBounds a true) r).getD j true = _
    rw [ih _ j (by simpa using h)]
    by_cases e : a = j
    · subst e
      simp [h]
    · rw [getD_set_ne true e]
      have : (a :: r).contains j = r.contains j := by
        rw [List.contains_cons]
        have : (j == a) = false := by simpa using Ne.symm e
        rw [this, Bool.false_or]
      rw [this]

theorem gAny_factsG {l : List Value} {d : List Deferred} (n r : Nat) (ns ds : List Nat) (done : Array Bool) (F : Nat → Value → World → Prop) (B : (Nat → Value) → World → Prop) (hc : factsG ops n ns ds done l.length = true)
    (hF : ∀ i v W W', F i v W → Below W.heap.size W W' → F i v W')
    (hstep : ∀ k, k < ns.length → ∀ (vals : Nat → Value) (W : World) (K : Act → World → Prop), B vals W → (∀ j, j < ns.length → needs ops (ns.getD k 0) (ns.getD j 0) = true → F j (vals j) W) →
      (∀ v W', F k v W' → Below W.heap.size W W' → B (upv vals k v) W' → K { tmps := ((frm vals 0 ds l).set (ds.getD k 0) v).toArray, defers := d } W') → step (ns.getD k 0) K { tmps := (frm vals 0 ds l).toArray, defers := d } W)
    (hend : ∀ (vals : Nat → Value) (W : World), B vals W → (∀ k, k < ns.length → F k (vals k) W) → gAny step ops Qn r (doneTo done ns) { tmps := (frm vals 0 ds l).toArray, defers := d } W) :
    ∀ (c : Nat) (listed : Array Bool) (vals : Nat → Value) (W : World), listed.size = n → (∀ j, done.getD j false = true → listed.getD j false = true) → (∀ j, j < n → j ∉ ns → listed.getD j true = done.getD j true) →
      (∀ i ∈ ns, listed.getD i true = true → ∀ k, needs ops i k = true → listed.getD k false = true) → leftG listed ns = c → B vals W →
      (∀ k, k < ns.length → listed.getD (ns.getD k 0) true = true → F k (vals k) W) → gAny step ops Qn (c + r) listed { tmps := (frm vals 0 ds l).toArray, defers := d } W := by
  simp only [factsG, Bool.and_eq_true, beq_iff_eq, decide_eq_true_eq, List.all_eq_true, List.mem_range, Bool.or_eq_true] at hc
  obtain ⟨⟨⟨⟨⟨⟨⟨⟨⟨hsz, hds⟩, hdl⟩, hna⟩, hnd⟩, hlt⟩, has⟩, hno⟩, hone⟩, hlast⟩ := hc
  have mem_at : ∀ k, k < ns.length → ns.getD k 0 ∈ ns := fun k hk => by
    rw [List.getD_eq_getElem?_getD, List.getElem?_eq_getElem hk]
    exact List.getElem_mem hk
  have hops : ∀ k, k < ns.length → ∃ o, ops[ns.getD k 0]? = some o ∧ o.dst = ds[k]? ∧ ∀ e ∈ o.after, Region.binds .any e = true → (e.on ∈ ns.take k ∨ done.getD e.on false = true) := by
    intro k hk
    have h1 := hone k hk
    cases ho : ops[ns.getD k 0]? with
    | none => rw [ho] at h1; cases h1
    | some o =>
      rw [ho] at h1
      simp only [Option.map_some, Option.getD_some, Bool.and_eq_true, beq_iff_eq, Array.all_eq_true', Bool.or_eq_true, Bool.not_eq_true', List.contains_iff_mem] at h1
      refine ⟨o, rfl, h1.1, fun e he hb => ?_⟩
      rcases h1.2 e he with (h2 | h2) | h2
      · rw [hb] at h2; cases h2
      · exact .inl h2
      · exact .inr h2
  intro c
  induction c with
  | zero =>
    intro listed vals W hs hdn hun hcl hl hBW hFW
    have e : listed = doneTo done ns := by
      apply Array.ext_getElem?
      intro i
      by_cases hi : i < n
      · have h1 : listed.getD i true = (doneTo done ns).getD i true := by
          rw [doneTo_get ns done i (by omega)]
          by_cases him : i ∈ ns
          · rw [leftG_zero listed ns hl i him]; simp [him]
          · rw [hun i hi him]; simp [him]
        have h2 : i < listed.size := by omega
        have h3 : i < (doneTo done ns).size := by rw [doneTo_size]; omega
        rw [Array.getD_eq_getD_getElem?, Array.getD_eq_getD_getElem?, Array.getElem?_eq_getElem h2, Array.getElem?_eq_getElem h3] at h1
        rw [Array.getElem?_eq_getElem h2, Array.getElem?_eq_getElem h3]
        simpa using h1
      · rw [Array.getElem?_eq_none (by omega), Array.getElem?_eq_none (by rw [doneTo_size]; omega)]
    rw [e, Nat.zero_add]
    exact hend vals W hBW (fun k hk => hFW k hk (leftG_zero listed ns hl _ (mem_at k hk)))
  | succ c ih =>
    intro listed vals W hs hdn hun hcl hl hBW hFW
    rw [show c + 1 + r = (c + r) + 1 by omega]
    refine ⟨fun h0 => ?_, fun i hi => ?_⟩
    · obtain ⟨k, hk, hkf, hlo⟩ := first_left listed ns (by omega)
      obtain ⟨o, ho, _, hed⟩ := hops k hk
      have : ns.getD k 0 ∈ Region.ready .any ops listed := by
        rw [mem_ready]
        refine ⟨hkf, o, ho, fun e he hb => ?_⟩
        rcases hed e he hb with h | h
        · exact getD_both' (by have := has _ (List.mem_of_mem_take h); omega) (hlo _ h)
        · exact hdn _ h
      rw [h0] at this
      cases this
    · obtain ⟨hif, o, ho, hall⟩ := mem_ready.1 hi
      have hin : i < n := by have := (Array.getElem?_eq_some_iff.1 ho).1; omega
      have hnd' : ∀ k, needs ops i k = true → listed.getD k false = true := by
        intro k hk
        simp only [needs, ho, Option.map_some, Option.getD_some, Array.any_eq_true', Bool.and_eq_true, beq_iff_eq] at hk
        obtain ⟨e, he, hb, rfl⟩ := hk
        exact hall e he hb
      have tr : ∀ {k : Nat}, listed.getD k false = true → listed.getD k true = true := by
        intro k h
        rcases Nat.lt_or_ge k listed.size with h2 | h2
        · rw [Array.getD_eq_getD_getElem?, Array.getElem?_eq_getElem h2] at h ⊢
          exact h
        · rw [Array.getD_eq_getD_getElem?, Array.getElem?_eq_none h2]
          rfl
      have hcm : ∀ f j, (∀ k, needs ops j k = true → listed.getD k false = true) → ∀ a, comes ops ns f j a = true → listed.getD a false = true := by
        intro f
        induction f with
        | zero => exact fun j hj a h => hj a h
        | succ f ihf =>
          intro j hj a h
          simp only [comes, Bool.or_eq_true, List.any_eq_true, Bool.and_eq_true] at h
          rcases h with h | ⟨i', hi', h1, h2⟩
          · exact hj a h
          · exact ihf i' (hcl i' hi' (tr (hj i' h1))) a h2
      have him : i ∈ ns := by
        refine Classical.byContradiction fun hni => ?_
        obtain ⟨k, hk, hkf, _⟩ := first_left listed ns (by omega)
        have h1 := hlast i hin
        rcases h1 with (h1 | h1) | h1
        · rw [← hun i hin hni, hif] at h1
          cases h1
        · exact hni (by simpa using h1)
        · have h2 := tr (hcm 12 i hnd' _ (h1 _ (mem_at k hk)))
          rw [hkf] at h2
          cases h2
      obtain ⟨k, hk, rfl⟩ : ∃ k, k < ns.length ∧ i = ns.getD k 0 := by
        obtain ⟨k, hk, e⟩ := List.getElem_of_mem him
        exact ⟨k, hk, by rw [List.getD_eq_getElem?_getD, List.getElem?_eq_getElem hk, ← e]; rfl⟩
      have hdi : ds[k]? = some (ds.getD k 0) := by
        have : k < ds.length := by omega
        rw [List.getD_eq_getElem?_getD, List.getElem?_eq_getElem this]
        rfl
      refine hstep k hk vals W _ hBW (fun j hj hnj => hFW j hj (tr (hnd' _ hnj))) fun v W' hFi hb hBn => ?_
      have hp := frm_put vals v ds hnd 0 k (ds.getD k 0) l hdi
      rw [Nat.zero_add] at hp
      rw [hp]
      have hset : ∀ j, j ≠ ns.getD k 0 → (listed.setIfInBounds (ns.getD k 0) true).getD j true = listed.getD j true := fun j hj => getD_set_ne true (Ne.symm hj)
      refine ih _ (upv vals k v) W' (by simp [hs]) (fun j h => getD_set_true (hdn j h)) (fun j h1 h2 => by rw [hset j (fun e => h2 (by rw [e]; exact him))]; exact hun j h1 h2) (fun i' hi' hl' k' hk' => ?_) (by have := leftG_set listed (ns.getD k 0) (by omega) hif ns hna him; omega) hBn (fun j hj hjl => ?_)
      · refine getD_set_true ?_
        by_cases e : i' = ns.getD k 0
        · rw [e] at hk'
          exact hnd' k' hk'
        · rw [hset i' e] at hl'
          exact hcl i' hi' hl' k' hk'
      · by_cases hjk : j = k
        · subst hjk
          rw [show upv vals j v j = v by simp [upv]]
          exact hFi
        · rw [show upv vals k v j = vals j by simp [upv, hjk]]
          rw [hset _ (fun e => hjk ((List.getElem_inj hna).1 (by
            have e1 : ns.getD j 0 = ns[j] := by rw [List.getD_eq_getElem?_getD, List.getElem?_eq_getElem hj]; rfl
            have e2 : ns.getD k 0 = ns[k] := by rw [List.getD_eq_getElem?_getD, List.getElem?_eq_getElem hk]; rfl
            rw [← e1, ← e2]
            exact e)))] at hjl
          exact hF _ _ _ _ (hFW j hj hjl) hb
end
section
variable {P : Program} {ops : Array Oper} {Q : Exit → Act → World → Prop} {z : Nat}
theorem upto_any : ∀ (fuel : Nat) (listed : Array Bool) (a : Act) (w : World), wpAny P .any ops Q fuel listed a w → wpUpto P .any ops Q (fun _ => True) z fuel listed a w
  | 0, _, _, _, h => h
  | fuel + 1, _, _, _, h => ⟨h.1, fun i hi => wpOp_mono (fun a' w' h' => ⟨fun _ => trivial, upto_any fuel _ a' w' h'⟩) (h.2 i hi)⟩
/-- From any state on: ns by facts, then on from there. -/
theorem wpUpto_factsV {l : List Value} {d : List Deferred} {w : World} {done : Array Bool} (n r : Nat) (ns ds : List Nat) (F : Nat → Value → World → Prop) (B : (Nat → Value) → World → Prop) (hc : factsG ops n ns ds done l.length = true)
    (hF : ∀ i v W W', F i v W → Below W.heap.size W W' → F i v W') (h0 : B (was ds l) w)
    (hstep : ∀ k, k < ns.length → ∀ (vals : Nat → Value) (W : World) (K : Act → World → Prop), B vals W → (∀ j, j < ns.length → needs ops (ns.getD k 0) (ns.getD j 0) = true → F j (vals j) W) →
      (∀ v W', F k v W' → Below W.heap.size W W' → B (upv vals k v) W' → K { tmps := ((frm vals 0 ds l).set (ds.getD k 0) v).toArray, defers := d } W') → wpOp P ops Q (ns.getD k 0) K { tmps := (frm vals 0 ds l).toArray, defers := d } W)
    (hend : ∀ (vals : Nat → Value) (W : World), B vals W → (∀ k, k < ns.length → F k (vals k) W) → wpUpto P .any ops Q (fun _ => True) z r (doneTo done ns) { tmps := (frm vals 0 ds l).toArray, defers := d } W) :
    wpUpto P .any ops Q (fun _ => True) z (ns.length + r) done { tmps := l.toArray, defers := d } w := by
  have hc' := hc
  simp only [factsG, Bool.and_eq_true, beq_iff_eq, decide_eq_true_eq, List.all_eq_true, List.mem_range, Bool.or_eq_true] at hc'
  obtain ⟨⟨⟨⟨⟨⟨⟨⟨⟨hsz, hds⟩, hdl⟩, hna⟩, hnd⟩, hlt⟩, has⟩, hno⟩, hone⟩, hlast⟩ := hc'
  refine upto_any _ _ _ _ (gAny_any _ _ _ _ ?_)
  have hid0 : frm (was ds l) 0 ds l = l := frm_id _ _ _ _ fun k t hk => by
    have h1 := hlt t (List.mem_of_getElem? hk)
    rw [Nat.zero_add, was, List.getD_eq_getElem?_getD (l := ds), hk, Option.getD_some, List.getD_eq_getElem?_getD, List.getElem?_eq_getElem h1]
    rfl
  have hnot : ∀ a ∈ ns, done.getD a true = false := fun a ha => by have := hno a ha; simpa using this
  have hl0 : leftG done ns = ns.length := by
    unfold leftG
    rw [List.filter_eq_self.2 (fun i hi => by rw [hnot i hi]; rfl)]
  have := gAny_factsG (step := wpOp P ops Q) (Qn := Q .normal) n r ns ds done F B hc hF hstep (fun vals W hb hf => any_gAny _ _ _ _ (wpUpto_any _ _ _ _ (hend vals W hb hf))) ns.length done (was ds l) w hds (fun _ h => h) (fun _ _ _ => rfl)
    (fun i hi h => by rw [hnot i hi] at h; cases h) hl0 h0 (fun k hk h => by
      have hm : ns.getD k 0 ∈ ns := by
        rw [List.getD_eq_getElem?_getD, List.getElem?_eq_getElem hk]
        exact List.getElem_mem hk
      rw [hnot _ hm] at h
      cases h)
  rwa [hid0] at this
/-- From any state on: ns by facts, then on from there. -/
theorem wpUpto_facts {l : List Value} {d : List Deferred} {w : World} {done : Array Bool} (n r : Nat) (ns ds : List Nat) (F : Nat → Value → World → Prop) (B : World → Prop) (hc : factsG ops n ns ds done l.length = true)
    (hB : ∀ W W', B W → Below W.heap.size W W' → B W') (hF : ∀ i v W W', F i v W → Below W.heap.size W W' → F i v W') (h0 : B w)
    (hstep : ∀ k, k < ns.length → ∀ (vals : Nat → Value) (W : World) (K : Act → World → Prop), B W → (∀ j, j < ns.length → needs ops (ns.getD k 0) (ns.getD j 0) = true → F j (vals j) W) →
      (∀ v W', F k v W' → Below W.heap.size W W' → K { tmps := ((frm vals 0 ds l).set (ds.getD k 0) v).toArray, defers := d } W') → wpOp P ops Q (ns.getD k 0) K { tmps := (frm vals 0 ds l).toArray, defers := d } W)
    (hend : ∀ (vals : Nat → Value) (W : World), B W → (∀ k, k < ns.length → F k (vals k) W) → wpUpto P .any ops Q (fun _ => True) z r (doneTo done ns) { tmps := (frm vals 0 ds l).toArray, defers := d } W) :
    wpUpto P .any ops Q (fun _ => True) z (ns.length + r) done { tmps := l.toArray, defers := d } w :=
  wpUpto_factsV n r ns ds F (fun _ W => B W) hc hF h0 (fun k hk vals W K hb hn hK => hstep k hk vals W K hb hn (fun v W' h1 h2 => hK v W' h1 h2 (hB _ _ hb h2))) hend
theorem wp_unit {o : Oper} {K : Act → World → Prop} {a : Act} {w w' : World} (hrun : (execOp a.eval o).run P w = .ok .skip w') (h : K (a.put o.dst undef) w') : o.wp P a w K Q := by
  unfold Oper.wp
  rw [hrun]
  exact h
/-- A whole row is stored. -/
theorem run_store_row {o : Oper} {a : Act} {w : World} (ty : TypeId) (x y : Operand) (ho : o.op = .store ty x y) (g : Nat) (cells : Array Value) (hx : a.eval x = .pointer (some ⟨g, 0, none⟩)) (hy : a.eval y = .agg cells)
    (t : TypeId) (old : Array Value) (hg : w.heap[g]? = some (.cells old t (0, 0))) (hi : (P.info? ty).map (·.size) = some cells.size) (hold : old.size = cells.size) (h1 : cells.all (·.oneCell') = true) :
    (execOp a.eval o).run P w = .ok .skip (w.setRow g cells) := by
  unfold execOp
  simp only [ho, hx, hy, Instr.storeAt, Instr.sureAddr, Sem.run_bind, Sem.run_pure, Result.andThen_ok, run_storeVar_row w g t ty old cells hg hi hold h1]
end
end Go.Proofs.YtjfpdbhjbleffaaDoor
