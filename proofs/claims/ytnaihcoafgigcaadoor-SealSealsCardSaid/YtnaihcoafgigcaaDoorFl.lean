/-
  A region whose order is open, walked by facts from any state on, where the last of the facts' operations yields in whatever world and is not waited for by all that is left. Nothing here speaks of the program.
-/
import Derived.Test.YtnaihcoafgigcaaDoorY1
namespace Go.Proofs.YtnaihcoafgigcaaDoor
open Go.RowKit

section
variable {ops : Array Oper} {step : Nat → (Act → World → Prop) → Act → World → Prop} {Qn : Act → World → Prop}
/-- What is asked: ns (slots ds) wait for earlier ones of ns and for what is done; what is left waits for all of ns'. -/
def factsL (ops : Array Oper) (n : Nat) (ns ds ns' : List Nat) (done : Array Bool) (len : Nat) : Bool :=
  ops.size == n && done.size == n && ns.length == ds.length && decide ns.Nodup && decide ds.Nodup && ds.all (· < len) && ns.all (· < n) && ns.all (fun a => !done.getD a true) &&
  (List.range ns.length).all (fun k => ((ops[ns.getD k 0]?).map fun o => o.dst == ds[k]? && o.after.all fun e => !Region.binds .any e || (ns.take k).contains e.on || done.getD e.on false).getD false) &&
  (List.range n).all (fun j => done.getD j true || ns.contains j || ns'.all fun a => comes ops ns 12 j a)
theorem gAny_factsL {l : List Value} {d : List Deferred} (n r : Nat) (ns ds ns' : List Nat) (q : Nat) (done : Array Bool) (F : Nat → Value → World → Prop) (B : (Nat → Value) → World → Prop) (hns : ns = ns' ++ [q]) (hc : factsL ops n ns ds ns' done l.length = true)
    (hF : ∀ i v W W', F i v W → Below W.heap.size W W' → F i v W')
    (hstep : ∀ k, k < ns.length → ∀ (vals : Nat → Value) (W : World) (K : Act → World → Prop), B vals W → (∀ j, j < ns.length → needs ops (ns.getD k 0) (ns.getD j 0) = true → F j (vals j) W) →
      (∀ v W', F k v W' → Below W.heap.size W W' → B (upv vals k v) W' → K { tmps := ((frm vals 0 ds l).set (ds.getD k 0) v).toArray, defers := d } W') → step (ns.getD k 0) K { tmps := (frm vals 0 ds l).toArray, defers := d } W)
    (hlate : ∀ (vals : Nat → Value) (W : World), B vals W → (∀ k, k < ns'.length → F k (vals k) W) → gAny step ops Qn (1 + r) (doneTo done ns') { tmps := (frm vals 0 ds l).toArray, defers := d } W)
    (hend : ∀ (vals : Nat → Value) (W : World), B vals W → (∀ k, k < ns.length → F k (vals k) W) → gAny step ops Qn r (doneTo done ns) { tmps := (frm vals 0 ds l).toArray, defers := d } W) :
    ∀ (c : Nat) (listed : Array Bool) (vals : Nat → Value) (W : World), listed.size = n → (∀ j, done.getD j false = true → listed.getD j false = true) → (∀ j, j < n → j ∉ ns → listed.getD j true = done.getD j true) →
      (∀ i ∈ ns, listed.getD i true = true → ∀ k, needs ops i k = true → listed.getD k false = true) → leftG listed ns = c → B vals W →
      (∀ k, k < ns.length → listed.getD (ns.getD k 0) true = true → F k (vals k) W) → gAny step ops Qn (c + r) listed { tmps := (frm vals 0 ds l).toArray, defers := d } W := by
  simp only [factsL, Bool.and_eq_true, beq_iff_eq, decide_eq_true_eq, List.all_eq_true, List.mem_range, Bool.or_eq_true] at hc
  obtain ⟨⟨⟨⟨⟨⟨⟨⟨⟨hsz, hds⟩, hdl⟩, hna⟩, hnd⟩, hlt⟩, has⟩, hno⟩, hone⟩, hlast⟩ := hc
  have mem_at : ∀ k, k < ns.length → ns.getD k 0 ∈ ns := fun k hk => by
    rw [List.getD_eq_getElem?_getD, List.getElem?_eq_getElem hk]
    exact List.getElem_mem hk
  have hops : ∀ k, k < ns.length → ∃ o, ops[ns.getD k 0]? = some o ∧ o.dst = ds[k]? ∧ ∀ e ∈ o.after, Region.binds .any e = true → (e.on ∈ ns.take k ∨ done.getD e.on false = true) := by
    intro k hk
    have h1 := hone k hk
    cases ho : ops[ns.getD k 0]? with
    | none => rw [ho] at h1; cases h1
    | some o =>
      rw [ho] at h1
      simp only [Option.map_some, Option.getD_some, Bool.and_eq_true, beq_iff_eq, Array.all_eq_true', Bool.or_eq_true, Bool.not_eq_true', List.contains_iff_mem] at h1
      refine ⟨o, rfl, h1.1, fun e he hb => ?_⟩
      rcases h1.2 e he with (h2 | h2) | h2
      · rw [hb] at h2; cases h2
      · exact .inl h2
      · exact .inr h2
  intro c
  induction c with
  | zero =>
    intro listed vals W hs hdn hun hcl hl hBW hFW
    have e : listed = doneTo done ns := by
      apply Array.ext_getElem?
      intro i
      by_cases hi : i < n
      · have h1 : listed.getD i true = (doneTo done ns).getD i true := by
          rw [doneTo_get ns done i (by omega)]
          by_cases him : i ∈ ns
          · rw [leftG_zero listed ns hl i him]; simp [him]
          · rw [hun i hi him]; simp [him]
        have h2 : i < listed.size := by omega
        have h3 : i < (doneTo done ns).size := by rw [doneTo_size]; omega
        rw [Array.getD_eq_getD_getElem?, Array.getD_eq_getD_getElem?, Array.getElem?_eq_getElem h2, Array.getElem?_eq_getElem h3] at h1
        rw [Array.getElem?_eq_getElem h2, Array.getElem?_eq_getElem h3]
        simpa using h1
      · rw [Array.getElem?_eq_none (by omega), Array.getElem?_eq_none (by rw [doneTo_size]; omega)]
    rw [e, Nat.zero_add]
    exact hend vals W hBW (fun k hk => hFW k hk (leftG_zero listed ns hl _ (mem_at k hk)))
  | succ c ih =>
    intro listed vals W hs hdn hun hcl hl hBW hFW
    by_cases hall' : ∀ a ∈ ns', listed.getD a true = true
    · have hq1 : q ∈ ns := by rw [hns]; simp
      have hq2 : q ∉ ns' := by
        rw [hns] at hna
        intro h
        have := (List.nodup_append.1 hna).2.2 q h q (by simp)
        exact this rfl
      have hqf : listed.getD q true = false := by
        obtain ⟨k, hk, hkf, _⟩ := first_left listed ns (by omega)
        have h1 := mem_at k hk
        generalize ns.getD k 0 = a at hkf h1
        rw [hns, List.mem_append] at h1
        rcases h1 with h1 | h1
        · rw [hall' a h1] at hkf
          cases hkf
        · obtain rfl : a = q := by simpa using h1
          exact hkf
      have hc0 : c = 0 := by
        unfold leftG at hl
        rw [hns, List.filter_append, List.filter_eq_nil_iff.2 (fun a ha => by rw [hall' a ha]; simp), List.nil_append, List.filter_cons_of_pos (by rw [hqf]; rfl)] at hl
        simpa using hl.symm
      have e : listed = doneTo done ns' := by
        apply Array.ext_getElem?
        intro i
        by_cases hi : i < n
        · have h1 : listed.getD i true = (doneTo done ns').getD i true := by
            rw [doneTo_get ns' done i (by omega)]
            by_cases him : i ∈ ns'
            · rw [hall' i him]; simp [him]
            · by_cases hiq : i = q
              · subst hiq
                have h3 := hno i hq1
                rw [hqf]
                simp at h3
                simp [him, h3]
              · rw [hun i hi (by rw [hns]; simp [him, hiq])]; simp [him]
          have h2 : i < listed.size := by omega
          have h3 : i < (doneTo done ns').size := by rw [doneTo_size]; omega
          rw [Array.getD_eq_getD_getElem?, Array.getD_eq_getD_getElem?, Array.getElem?_eq_getElem h2, Array.getElem?_eq_getElem h3] at h1
          rw [Array.getElem?_eq_getElem h2, Array.getElem?_eq_getElem h3]
          simpa using h1
        · rw [Array.getElem?_eq_none (by omega), Array.getElem?_eq_none (by rw [doneTo_size]; omega)]
      rw [hc0, Nat.zero_add, e]
      have hlen : ns.length = ns'.length + 1 := by rw [hns]; simp
      refine hlate vals W hBW (fun k hk => hFW k (by omega) (hall' _ ?_))
      rw [hns, List.getD_eq_getElem?_getD, List.getElem?_append_left hk, List.getElem?_eq_getElem hk]
      exact List.getElem_mem hk
    obtain ⟨a0, ha0, ha0f⟩ : ∃ a, a ∈ ns' ∧ listed.getD a true = false := by
      refine Classical.byContradiction fun hno' => hall' fun a ha => ?_
      cases h : listed.getD a true with
      | true => rfl
      | false => exact absurd ⟨a, ha, h⟩ hno'
    rw [show c + 1 + r = (c + r) + 1 by omega]
    refine ⟨fun h0 => ?_, fun i hi => ?_⟩
    · obtain ⟨k, hk, hkf, hlo⟩ := first_left listed ns (by omega)
      obtain ⟨o, ho, _, hed⟩ := hops k hk
      have : ns.getD k 0 ∈ Region.ready .any ops listed := by
        rw [mem_ready]
        refine ⟨hkf, o, ho, fun e he hb => ?_⟩
        rcases hed e he hb with h | h
        · exact getD_both' (by have := has _ (List.mem_of_mem_take h); omega) (hlo _ h)
        · exact hdn _ h
      rw [h0] at this
      cases this
    · obtain ⟨hif, o, ho, hall⟩ := mem_ready.1 hi
      have hin : i < n := by have := (Array.getElem?_eq_some_iff.1 ho).1; omega
      have hnd' : ∀ k, needs ops i k = true → listed.getD k false = true := by
        intro k hk
        simp only [needs, ho, Option.map_some, Option.getD_some, Array.any_eq_true', Bool.and_eq_true, beq_iff_eq] at hk
        obtain ⟨e, he, hb, rfl⟩ := hk
        exact hall e he hb
      have tr : ∀ {k : Nat}, listed.getD k false = true → listed.getD k true = true := by
        intro k h
        rcases Nat.lt_or_ge k listed.size with h2 | h2
        · rw [Array.getD_eq_getD_getElem?, Array.getElem?_eq_getElem h2] at h ⊢
          exact h
        · rw [Array.getD_eq_getD_getElem?, Array.getElem?_eq_none h2]
          rfl
      have hcm : ∀ f j, (∀ k, needs ops j k = true → listed.getD k false = true) → ∀ a, comes ops ns f j a = true → listed.getD a false = true := by
        intro f
        induction f with
        | zero => exact fun j hj a h => hj a h
        | succ f ihf =>
          intro j hj a h
          simp only [comes, Bool.or_eq_true, List.any_eq_true, Bool.and_eq_true] at h
          rcases h with h | ⟨i', hi', h1, h2⟩
          · exact hj a h
          · exact ihf i' (hcl i' hi' (tr (hj i' h1))) a h2
      have him : i ∈ ns := by
        refine Classical.byContradiction fun hni => ?_
        have h1 := hlast i hin
        rcases h1 with (h1 | h1) | h1
        · rw [← hun i hin hni, hif] at h1
          cases h1
        · exact hni (by simpa using h1)
        · have h2 := tr (hcm 12 i hnd' _ (h1 _ ha0))
          rw [ha0f] at h2
          cases h2
      obtain ⟨k, hk, rfl⟩ : ∃ k, k < ns.length ∧ i = ns.getD k 0 := by
        obtain ⟨k, hk, e⟩ := List.getElem_of_mem him
        exact ⟨k, hk, by rw [List.getD_eq_getElem?_getD, List.getElem?_eq_getElem hk, ← e]; rfl⟩
      have hdi : ds[k]? = some (ds.getD k 0) := by
        have : k < ds.length := by omega
        rw [List.getD_eq_getElem?_getD, List.getElem?_eq_getElem this]
        rfl
      refine hstep k hk vals W _ hBW (fun j hj hnj => hFW j hj (tr (hnd' _ hnj))) fun v W' hFi hb hBn => ?_
      have hp := frm_put vals v ds hnd 0 k (ds.getD k 0) l hdi
      rw [Nat.zero_add] at hp
      rw [hp]
      have hset : ∀ j, j ≠ ns.getD k 0 → (listed.setIfInBounds (ns.getD k 0) true).getD j true = listed.getD j true := fun j hj => getD_set_ne true (Ne.symm hj)
      refine ih _ (upv vals k v) W' (by simp [hs]) (fun j h => getD_set_true (hdn j h)) (fun j h1 h2 => by rw [hset j (fun e => h2 (by rw [e]; exact him))]; exact hun j h1 h2) (fun i' hi' hl' k' hk' => ?_) (by have := leftG_set listed (ns.getD k 0) (by omega) hif ns hna him; omega) hBn (fun j hj hjl => ?_)
      · refine getD_set_true ?_
        by_cases e : i' = ns.getD k 0
        · rw [e] at hk'
          exact hnd' k' hk'
        · rw [hset i' e] at hl'
          exact hcl i' hi' hl' k' hk'
      · by_cases hjk : j = k
        · subst hjk
          rw [show upv vals j v j = v by simp [upv]]
          exact hFi
        · rw [show upv vals k v j = vals j by simp [upv, hjk]]
          rw [hset _ (fun e => hjk ((List.getElem_inj hna).1 (by
            have e1 : ns.getD j 0 = ns[j] := by rw [List.getD_eq_getElem?_getD, List.getElem?_eq_getElem hj]; rfl
            have e2 : ns.getD k 0 = ns[k] := by rw [List.getD_eq_getElem?_getD, List.getElem?_eq_getElem hk]; rfl
            rw [← e1, ← e2]
            exact e)))] at hjl
          exact hF _ _ _ _ (hFW j hj hjl) hb
end
section
variable {P : Program} {ops : Array Oper} {Q : Exit → Act → World → Prop} {z : Nat}
/-- From any state on: ns by facts, then on from there. -/
theorem wpUpto_factsL {l : List Value} {d : List Deferred} {w : World} {done : Array Bool} (n r : Nat) (ns ds ns' : List Nat) (q dq : Nat) {oq : Oper} (F : Nat → Value → World → Prop) (B : World → Prop) (hns : ns = ns' ++ [q]) (hc : factsL ops n ns ds ns' done l.length = true) (hoq : ops[q]? = some oq) (hdq : oq.dst = some dq) (hdd : ds[ns'.length]? = some dq)
    (hsl : Region.noSelect ops = true) (hfr : Region.free .any ops (doneTo done ns') q = true) (hrd : (Region.ready .any ops (doneTo done ns')).contains q = true) (hw : waits .any ops z q = true) (hqz : q ≠ z) (hset : (doneTo done ns').setIfInBounds q true = doneTo done ns) (hQ : ∀ c a v w, Q (.panic c) (a.put oq.dst v) w → Q (.panic c) a w)
    (hF : ∀ i v W W', F i v W → Below W.heap.size W W' → F i v W') (hB : ∀ W W', B W → Below W.heap.size W W' → B W') (h0 : B w)
    (hstep : ∀ k, k < ns.length → ∀ (vals : Nat → Value) (W : World) (K : Act → World → Prop), B W → (∀ j, j < ns.length → needs ops (ns.getD k 0) (ns.getD j 0) = true → F j (vals j) W) →
      (∀ v W', F k v W' → Below W.heap.size W W' → K { tmps := ((frm vals 0 ds l).set (ds.getD k 0) v).toArray, defers := d } W') → wpOp P ops Q (ns.getD k 0) K { tmps := (frm vals 0 ds l).toArray, defers := d } W)
    (hlate : ∀ (vals : Nat → Value) (W : World), B W → (∀ k, k < ns'.length → F k (vals k) W) → ∃ v, F ns'.length v W ∧ YieldsIf P ops (fun _ => True) oq v { tmps := (frm vals 0 ds l).toArray, defers := d })
    (hend : ∀ (vals : Nat → Value) (W : World), B W → (∀ k, k < ns.length → F k (vals k) W) → wpUpto P .any ops Q (fun _ => True) z r (doneTo done ns) { tmps := (frm vals 0 ds l).toArray, defers := d } W) :
    wpUpto P .any ops Q (fun _ => True) z (ns.length + r) done { tmps := l.toArray, defers := d } w := by
  have hc' := hc
  simp only [factsL, Bool.and_eq_true, beq_iff_eq, decide_eq_true_eq, List.all_eq_true, List.mem_range, Bool.or_eq_true] at hc'
  obtain ⟨⟨⟨⟨⟨⟨⟨⟨⟨hsz, hds⟩, hdl⟩, hna⟩, hnd⟩, hlt⟩, has⟩, hno⟩, hone⟩, hlast⟩ := hc'
  refine upto_any _ _ _ _ (gAny_any _ _ _ _ ?_)
  have hid0 : frm (was ds l) 0 ds l = l := frm_id _ _ _ _ fun k t hk => by
    have h1 := hlt t (List.mem_of_getElem? hk)
    rw [Nat.zero_add, was, List.getD_eq_getElem?_getD (l := ds), hk, Option.getD_some, List.getD_eq_getElem?_getD, List.getElem?_eq_getElem h1]
    rfl
  have hnot : ∀ a ∈ ns, done.getD a true = false := fun a ha => by have := hno a ha; simpa using this
  have hl0 : leftG done ns = ns.length := by
    unfold leftG
    rw [List.filter_eq_self.2 (fun i hi => by rw [hnot i hi]; rfl)]
  have hend' := fun (vals : Nat → Value) (W : World) (hb : B W) (hf : ∀ k, k < ns.length → F k (vals k) W) => any_gAny _ _ _ _ (wpUpto_any _ _ _ _ (hend vals W hb hf))
  have hlen : ns.length = ns'.length + 1 := by rw [hns]; simp
  have hlate' : ∀ (vals : Nat → Value) (W : World), B W → (∀ k, k < ns'.length → F k (vals k) W) → gAny (wpOp P ops Q) ops (Q .normal) (1 + r) (doneTo done ns') { tmps := (frm vals 0 ds l).toArray, defers := d } W := by
    intro vals W hb hf
    obtain ⟨v, hFv, hy⟩ := hlate vals W hb hf
    refine any_gAny _ _ _ _ (wpUpto_any (S := fun _ => True) (z := z) _ _ _ _ ?_)
    rw [Nat.add_comm 1 r]
    refine wpUpto_take (S := fun _ => True) (z := z) hoq hsl hfr hrd hw hqz (fun c a w h => hQ c a v w h) hy trivial ?_
    rw [hset, hdq]
    have hp := frm_put vals v ds hnd 0 ns'.length dq l hdd
    rw [Nat.zero_add] at hp
    have := hend (upv vals ns'.length v) W hb (fun k hk => by
      by_cases e : k = ns'.length
      · subst e
        rw [show upv vals ns'.length v ns'.length = v by simp [upv]]
        exact hFv
      · rw [show upv vals ns'.length v k = vals k by simp [upv, e]]
        exact hf k (by omega))
    rw [← hp] at this
    simpa [Act.put] using this
  have := gAny_factsL (step := wpOp P ops Q) (Qn := Q .normal) n r ns ds ns' q done F (fun _ W => B W) hns hc hF (fun k hk vals W K hb hn hK => hstep k hk vals W K hb hn (fun v W' h1 h2 => hK v W' h1 h2 (hB _ _ hb h2))) hlate' hend' ns.length done (was ds l) w hds (fun _ h => h) (fun _ _ _ => rfl)
    (fun i hi h => by rw [hnot i hi] at h; cases h) hl0 h0 (fun k hk h => by
      have hm : ns.getD k 0 ∈ ns := by
        rw [List.getD_eq_getElem?_getD, List.getElem?_eq_getElem hk]
        exact List.getElem_mem hk
      rw [hnot _ hm] at h
      cases h)
  rwa [hid0] at this
end
end Go.Proofs.YtnaihcoafgigcaaDoor
