/-
  Maps whose elements are hashes: made, written, read, emptied, counted; what they have as a function of the key.
  Trees as the program keeps them, a map for each level, beside sorted lists of leaves: a node far from a leaf that is set; what a level's map has; how many entries a map has at most.
  A map made.
  The program's trees in memory: a struct with a slice of maps, one for each level, and all empty hashes.
  The program's trees: their height, whether there is a node, a node read.
  The program's trees: a node read, a node stored.
  Trees as sorted lists: the leaves below a node, one behind the other; a hash that is stored just where there are leaves. Nothing here walks.
-/
import Derived.Test.YtdegmcfcbndelaaDoorL1
import Derived.Maps.OwnSet
import Derived.Maps.OwnOps
import Derived.Test.YtdegmcfcbndelaaDoorL3
import Derived.Maps.Ext
import Derived.Test.YtdegmcfcbndelaaDoorJ6
namespace Go.Proofs.YtdegmcfcbndelaaDoor
open Go.RowKit Go.Maps

/-- A hash as a datum. -/
def hD (l : List UInt8) : DataW Unit := .agg (l.map fun b => .lit (.int .u8 (b.toNat : Int)))
def cellD : Value → Option (DataW Unit)
  | .int .u8 z => if 0 ≤ z ∧ z < 256 then some (.lit (.int .u8 z)) else none
  | _ => none
def hashElem : Value → Option (DataW Unit × List MemPlace)
  | .agg cs => if cs.size = 32 then (cs.toList.mapM cellD).map fun ds => (.agg ds, []) else none
  | _ => none
theorem cellD_int {z : Int} (h : 0 ≤ z ∧ z < 256) : cellD (.int .u8 z) = some (.lit (.int .u8 z)) := by
  unfold cellD
  simp only [h, and_self, if_true]
theorem cellD_ub (b : UInt8) : cellD (ub b) = some (.lit (.int .u8 (b.toNat : Int))) := cellD_int (by have := b.toNat_lt; omega)
theorem mapM_ubs : ∀ l : List UInt8, (ubs l).mapM cellD = some (l.map fun b => .lit (.int .u8 (b.toNat : Int))) := by
  intro l
  induction l with
  | nil => rfl
  | cons b l ih =>
    have e : ubs (b :: l) = ub b :: ubs l := rfl
    rw [e, List.mapM_cons, cellD_ub, ih]
    rfl
theorem hashElem_mk {l : List UInt8} (h : l.length = 32) : hashElem (.agg (ubs l).toArray) = some (hD l, []) := by
  show (if (ubs l).toArray.size = 32 then ((ubs l).toArray.toList.mapM cellD).map (fun ds => (DataW.agg ds, ([] : List MemPlace))) else none) = _
  rw [if_pos (by simp [ubs_length, h]), List.toList_toArray, mapM_ubs]
  rfl
theorem cellD_inv {v : Value} {b : UInt8} (h : cellD v = some (.lit (.int .u8 (b.toNat : Int)))) : v = ub b := by
  unfold cellD at h
  split at h
  · split at h
    · simp at h
      rw [h]
      rfl
    · cases h
  · cases h
theorem mapM_inv : ∀ (l : List UInt8) (vs : List Value), vs.mapM cellD = some (l.map fun b => .lit (.int .u8 (b.toNat : Int))) → vs = ubs l := by
  intro l
  induction l with
  | nil =>
    intro vs h
    cases vs with
    | nil => rfl
    | cons v vs =>
      rw [List.mapM_cons] at h
      cases h1 : cellD v with
      | none => rw [h1] at h; cases h
      | some d =>
        rw [h1] at h
        cases h2 : vs.mapM cellD with
        | none => rw [h2] at h; cases h
        | some ds => rw [h2] at h; cases h
  | cons b l ih =>
    intro vs h
    cases vs with
    | nil => cases h
    | cons v vs =>
      rw [List.mapM_cons] at h
      cases h1 : cellD v with
      | none => rw [h1] at h; cases h
      | some d =>
        rw [h1] at h
        cases h2 : vs.mapM cellD with
        | none => rw [h2] at h; cases h
        | some ds =>
          rw [h2] at h
          simp at h
          have e1 := cellD_inv (b := b) (by rw [h1, h.1])
          have e2 := ih vs (by rw [h2, h.2])
          rw [e1, e2]
          rfl
theorem hashElem_inv {v : Value} {l : List UInt8} {ps : List MemPlace} (h : hashElem v = some (hD l, ps)) : v = .agg (ubs l).toArray := by
  unfold hashElem at h
  split at h
  · rename_i cs
    split at h
    · cases h1 : cs.toList.mapM cellD with
      | none => rw [h1] at h; cases h
      | some ds =>
        rw [h1] at h
        simp [hD] at h
        have := mapM_inv l cs.toList (by rw [h1, h.1])
        rw [← this]
    · cases h
  · cases h
/-- Block b is a map of hashes; what it has is told by f. -/
def Hmap (w : World) (k : TypeId) (b n : Nat) (f : Lit → Option (List UInt8)) : Prop :=
  ∃ D : DataW Unit, w.ownsMap Tryd.prog k hashElem b n D ∧ (∀ kl, Maps.has D kl = (f kl).isSome) ∧ ∀ kl l, f kl = some l → ∀ z, D.atKey kl z = hD l
section
variable {w w' : World} {k : TypeId} {b n : Nat} {f f' : Lit → Option (List UInt8)}
theorem Hmap.made (w : World) (k : TypeId) : Hmap (w.alloc (.map #[] 0)) k w.heap.size 0 (fun _ => none) :=
  ⟨.map [], World.ownsMap_made _ _ _ _, fun _ => rfl, (fun _ _ h => nomatch h)⟩
theorem Hmap.new (h : Hmap w k b n f) (hb : Below w.heap.size w w') : Hmap w' k b n f := by
  obtain ⟨D, ⟨es, clock, hh, r⟩, h2, h3⟩ := h
  exact ⟨D, ⟨es, clock, (hb.block b (Array.getElem?_eq_some_iff.1 hh).1).trans hh, r⟩, h2, h3⟩
theorem Hmap.fr {S : Nat → Prop} (h : Hmap w k b n f) (hf : Fr S w w') (hn : ¬ S b) : Hmap w' k b n f := by
  obtain ⟨D, ⟨es, clock, hh, r⟩, h2, h3⟩ := h
  exact ⟨D, ⟨es, clock, (hf.block b (Array.getElem?_eq_some_iff.1 hh).1 hn).trans hh, r⟩, h2, h3⟩
theorem Hmap.lt (h : Hmap w k b n f) : b < w.heap.size := by
  obtain ⟨D, ⟨es, clock, hh, r⟩, h2, h3⟩ := h
  exact (Array.getElem?_eq_some_iff.1 hh).1
theorem Hmap.mono (h : Hmap w k b n f) {m : Nat} (hm : n ≤ m) : Hmap w k b m f := by
  obtain ⟨D, h1, h2, h3⟩ := h
  exact ⟨D, h1.mono hm, h2, h3⟩
variable {ops : Array Oper} {rest : List Oper} {o : Oper} {a : Go.Act} {Q : Exit → Go.Act → World → Prop}
theorem zeroHR (w : World) : (zeroValue 25).run Tryd.prog w = .ok (.agg (ubs n32).toArray) w := by kernel_rfl
/-- 'v, ok := m[k]'. -/
theorem wpList_hmap_look (hg : o.guard = none) (m x : Operand) (t : TypeId) (hop : o.op = Op.lookup t m x true) (K : Keyed Tryd.prog k) (ht : Tryd.prog.underlying t = some (.map k 25))
    (hm : a.eval m = .map (some b)) (h : Hmap w k b n f) (key : Value) (kl : Lit) (hx : a.eval x = key) (hkey : keyOf Tryd.prog k key = some kl)
    (hK : wpList Tryd.prog ops Q rest (a.put o.dst (.tuple #[.agg (ubs ((f kl).getD n32)).toArray, .bool (f kl).isSome])) w) : wpList Tryd.prog ops Q (o :: rest) a w := by
  obtain ⟨D, h1, h2, h3⟩ := h
  refine wpList_lookup_own_ok w hg m x t hop k _ K ht hashElem (zeroHR w) (hD n32) [] (hashElem_mk n32_length) b n D hm h1 key kl hx hkey fun v ps hv => ?_
  have e : D.atKey kl (hD n32) = hD ((f kl).getD n32) := by
    cases e1 : f kl with
    | none =>
      have := h2 kl
      rw [e1] at this
      exact Maps.atKey_of_not_has this _
    | some l => exact h3 kl l e1 _
  rw [e] at hv
  rw [hashElem_inv hv, h2]
  exact hK
/-- 'delete(m, k)'. -/
theorem wpList_hmap_drop (hg : o.guard = none) (m x : Operand) (t : TypeId) (hop : o.op = Op.call { callee := Callee.builtin Builtin.delete, args := #[m, x], argTypes := #[t, k] }) (K : Keyed Tryd.prog k) (ht : Tryd.prog.underlying t = some (.map k 25))
    (hm : a.eval m = .map (some b)) (h : Hmap w k b n f) (key : Value) (kl : Lit) (hx : a.eval x = key) (hkey : keyOf Tryd.prog k key = some kl)
    (f' : Lit → Option (List UInt8)) (e1 : f' kl = none) (e2 : ∀ x, x ≠ kl → f' x = f x)
    (hK : ∀ w', Hmap w' k b n f' → w.grownBy w' (some b) → wpList Tryd.prog ops Q rest (a.put o.dst (.tuple #[])) w') : wpList Tryd.prog ops Q (o :: rest) a w := by
  obtain ⟨D, h1, h2, h3⟩ := h
  refine wpList_delete_own w hg m x t k hop _ K ht hashElem b n D hm h1 key kl hx hkey fun w' o1 o2 => hK w' ⟨_, o1, fun y => ?_, fun y l' hy z => ?_⟩ o2.grown
  · by_cases e : y = kl
    · rw [e, Maps.has_del_same, e1]; rfl
    · rw [Maps.has_del_other e, h2, e2 y e]
  · by_cases e : y = kl
    · subst e
      rw [e1] at hy
      cases hy
    · rw [Maps.atKey_del_other e, h3 y l' (by rw [← e2 y e, hy]) z]
end
end Go.Proofs.YtdegmcfcbndelaaDoor

namespace Go.Proofs.YtdegmcfcbndelaaDoor
open Go.RowKit Go.Maps

theorem bS_def (n pl : Nat) (L : List (Nat × List UInt8)) : bS n pl L = L.filter fun p => p.1 >>> n == pl := by unfold bS; rfl
theorem getH_bS (n pl : Nat) (L : List (Nat × List UInt8)) (j : Nat) : getH (bS n pl L) j = if j >>> n = pl then getH L j else none := by
  rw [bS_def]
  by_cases e : j >>> n = pl
  · rw [if_pos e]
    exact getH_filter (f := fun x => x >>> n == pl) (by simp [e])
  · rw [if_neg e]
    refine getH_none fun p hp e' => e ?_
    have := (List.mem_filter.1 hp).2
    rw [e'] at this
    simpa using this
theorem nodeS_same {L M : List (Nat × List UInt8)} (hL : srt L) (hM : srt M) {n pl : Nat} (h : ∀ j, j >>> n = pl → getH L j = getH M j) : nodeS n pl L = nodeS n pl M := by
  have hs : ∀ {L : List (Nat × List UInt8)}, srt L → srt (bS n pl L) := fun h => by rw [bS_def]; exact h.filter _
  have e : bS n pl L = bS n pl M := srt_ext (hs hL) (hs hM) fun j => by
    rw [getH_bS, getH_bS]
    split
    · rename_i e
      exact h j e
    · rfl
  unfold nodeS
  rw [e]
theorem nodeS_far {L : List (Nat × List UInt8)} (hL : srt L) {i n pl : Nat} (x : List UInt8) (h : i >>> n ≠ pl) : nodeS n pl (setT i x L) = nodeS n pl L :=
  nodeS_same hL.setT hL fun j e => by rw [getH_setT, if_neg (by rintro rfl; exact h e)]
theorem nodeS_some {L : List (Nat × List UInt8)} {n pl : Nat} (h : nodeS n pl L ≠ emptyL n) : ∃ q ∈ L, q.1 >>> n = pl := by
  apply Classical.byContradiction
  intro hn
  refine h ?_
  have e : bS n pl L = [] := by
    rw [bS_def]
    exact List.filter_eq_nil_iff.2 fun p hp e => hn ⟨p, hp, by simpa using e⟩
  unfold nodeS
  rw [e, partS_nil]
/-- Has a node leaves below it? -/
def anyB (n pl : Nat) (L : List (Nat × List UInt8)) : Bool := L.any fun q => q.1 >>> n == pl
theorem anyB_iff {n pl : Nat} {L : List (Nat × List UInt8)} : anyB n pl L = true ↔ ∃ q ∈ L, q.1 >>> n = pl := by
  unfold anyB
  rw [List.any_eq_true]
  constructor
  · rintro ⟨q, h1, h2⟩
    exact ⟨q, h1, by simpa using h2⟩
  · rintro ⟨q, h1, h2⟩
    exact ⟨q, h1, by simpa using h2⟩
theorem anyB_has {n pl : Nat} {L : List (Nat × List UInt8)} (hL : srt L) : anyB n pl L = true ↔ ∃ j x, j >>> n = pl ∧ getH L j = some x := by
  rw [anyB_iff]
  constructor
  · rintro ⟨q, h1, h2⟩
    exact ⟨q.1, q.2, h2, getH_mem hL h1⟩
  · rintro ⟨j, x, h1, h2⟩
    exact ⟨(j, x), getH_some h2, h1⟩
/-- A node as it is stored: where there are leaves below it. -/
def nodeO (n pl : Nat) (L : List (Nat × List UInt8)) : Option (List UInt8) := if anyB n pl L = true then some (nodeS n pl L) else none
theorem nodeO_isSome (n pl : Nat) (L : List (Nat × List UInt8)) : (nodeO n pl L).isSome = anyB n pl L := by
  unfold nodeO
  split
  · rename_i e
    rw [e]; rfl
  · rename_i e
    simp at e
    rw [e]; rfl
theorem nodeO_getD (n pl : Nat) (L : List (Nat × List UInt8)) : (nodeO n pl L).getD (emptyL n) = nodeS n pl L := by
  unfold nodeO
  split
  · rfl
  · rename_i e
    refine Classical.byContradiction fun hne => e (anyB_iff.2 (nodeS_some fun e2 => hne ?_))
    rw [e2]; rfl
theorem nodeO_some {n pl : Nat} {L : List (Nat × List UInt8)} {y : List UInt8} (h : nodeO n pl L = some y) : y = nodeS n pl L ∧ ∃ q ∈ L, q.1 >>> n = pl := by
  unfold nodeO at h
  split at h
  · rename_i e
    exact ⟨(Option.some.inj h).symm, anyB_iff.1 e⟩
  · cases h
theorem nodeO_nil (n pl : Nat) : nodeO n pl [] = none := rfl
theorem anyB_far {L : List (Nat × List UInt8)} (hL : srt L) {i n pl : Nat} (x : List UInt8) (h : i >>> n ≠ pl) : anyB n pl (setT i x L) = anyB n pl L := by
  have : anyB n pl (setT i x L) = true ↔ anyB n pl L = true := by
    rw [anyB_has hL.setT, anyB_has hL]
    constructor
    · rintro ⟨j, y, h1, h2⟩
      rw [getH_setT, if_neg (by rintro rfl; exact h h1)] at h2
      exact ⟨j, y, h1, h2⟩
    · rintro ⟨j, y, h1, h2⟩
      exact ⟨j, y, h1, by rw [getH_setT, if_neg (by rintro rfl; exact h h1)]; exact h2⟩
  exact Bool.eq_iff_iff.2 this
theorem nodeO_far {L : List (Nat × List UInt8)} (hL : srt L) {i n pl : Nat} (x : List UInt8) (h : i >>> n ≠ pl) : nodeO n pl (setT i x L) = nodeO n pl L := by
  unfold nodeO
  rw [anyB_far hL x h, nodeS_far hL x h]
theorem nodeO_same {L M : List (Nat × List UInt8)} (hL : srt L) (hM : srt M) {n pl : Nat} (h : ∀ j, j >>> n = pl → getH L j = getH M j) : nodeO n pl L = nodeO n pl M := by
  have e : anyB n pl L = anyB n pl M := by
    rw [Bool.eq_iff_iff, anyB_has hL, anyB_has hM]
    constructor
    · rintro ⟨j, x, h1, h2⟩
      exact ⟨j, x, h1, by rw [← h j h1]; exact h2⟩
    · rintro ⟨j, x, h1, h2⟩
      exact ⟨j, x, h1, by rw [h j h1]; exact h2⟩
  unfold nodeO
  rw [e, nodeS_same hL hM h]
theorem nodeO_leaf {L : List (Nat × List UInt8)} (hL : srt L) (i : Nat) : nodeO 0 i L = getH L i := by
  unfold nodeO
  cases e : getH L i with
  | none =>
    rw [if_neg]
    rw [anyB_has hL]
    rintro ⟨j, x, h1, h2⟩
    rw [show j = i from h1, e] at h2
    cases h2
  | some y =>
    rw [if_pos ((anyB_has (n := 0) (pl := i) hL).2 ⟨i, y, rfl, e⟩), nodeS_leaf, e]; rfl
theorem nodeO_set_leaf {L : List (Nat × List UInt8)} (hL : srt L) (i : Nat) (x : List UInt8) : nodeO 0 i (setT i x L) = if x = emptyL 0 then none else some x := by
  rw [nodeO_leaf hL.setT, getH_setT, if_pos rfl]
theorem anyB_step (n pl : Nat) (L : List (Nat × List UInt8)) : anyB (n + 1) pl L = (anyB n (2 * pl) L || anyB n (2 * pl + 1) L) := by
  rw [Bool.eq_iff_iff, Bool.or_eq_true, anyB_iff, anyB_iff, anyB_iff]
  constructor
  · rintro ⟨q, h1, h2⟩
    have := shr_half q.1 n
    by_cases e : q.1 >>> n = 2 * pl
    · exact .inl ⟨q, h1, e⟩
    · exact .inr ⟨q, h1, by omega⟩
  · rintro (⟨q, h1, h2⟩ | ⟨q, h1, h2⟩)
    · have := shr_half q.1 n
      exact ⟨q, h1, by omega⟩
    · have := shr_half q.1 n
      exact ⟨q, h1, by omega⟩
theorem nodeO_step {L : List (Nat × List UInt8)} (n pl : Nat) (hpl : 2 * pl + 1 < 18446744073709551616) : nodeO (n + 1) pl L = if ((nodeO n (2 * pl) L).isSome || (nodeO n (2 * pl + 1) L).isSome) = true then some (hashL (joinT (n + 1) ((nodeO n (2 * pl) L).getD (emptyL n)) ((nodeO n (2 * pl + 1) L).getD (emptyL n)))) else none := by
  rw [nodeO_isSome, nodeO_isSome, nodeO_getD, nodeO_getD, ← nodeS_step n pl hpl, ← anyB_step]
  rfl

/-- What the map of a level has, where g tells the level's nodes. -/
def lvF (g : Nat → Option (List UInt8)) : Lit → Option (List UInt8)
  | .int .u64 z => if 0 ≤ z then g z.toNat else none
  | _ => none
def updN (g : Nat → Option (List UInt8)) (p : Nat) (x : Option (List UInt8)) : Nat → Option (List UInt8) := fun q => if q = p then x else g q
theorem lvF_at (g : Nat → Option (List UInt8)) (p : Nat) : lvF g (.int .u64 (p : Int)) = g p := by
  unfold lvF
  simp only [Int.toNat_natCast]
  rw [if_pos (Int.natCast_nonneg p)]
theorem lvF_same (g : Nat → Option (List UInt8)) (p : Nat) (x : Option (List UInt8)) : lvF (updN g p x) (.int .u64 (p : Int)) = x := by
  rw [lvF_at]
  simp [updN]
theorem lvF_other (g : Nat → Option (List UInt8)) (p : Nat) (x : Option (List UInt8)) (kl : Lit) (h : kl ≠ .int .u64 (p : Int)) : lvF (updN g p x) kl = lvF g kl := by
  unfold lvF
  split
  · rename_i z
    by_cases hz : 0 ≤ z
    · have : z.toNat ≠ p := fun e => h (by rw [← e, Int.toNat_of_nonneg hz])
      simp [updN, this]
    · rw [if_neg hz, if_neg hz]
  · rfl
theorem lvF_some {g : Nat → Option (List UInt8)} {kl : Lit} {l : List UInt8} (h : lvF g kl = some l) : ∃ p : Nat, kl = .int .u64 (p : Int) ∧ g p = some l := by
  unfold lvF at h
  split at h
  · rename_i z
    split at h
    · rename_i hz
      exact ⟨z.toNat, by rw [Int.toNat_of_nonneg hz], h⟩
    · cases h
  · cases h
theorem lvF_congr {g g' : Nat → Option (List UInt8)} (h : ∀ p, g p = g' p) : lvF g = lvF g' := by rw [show g = g' from funext h]
open Classical in
theorem nodup_sub {α : Type} : ∀ (l m : List α), l.Pairwise (· ≠ ·) → (∀ x ∈ l, x ∈ m) → l.length ≤ m.length := by
  intro l
  induction l with
  | nil => intro m _ _; simp
  | cons a l ih =>
    intro m hp hs
    obtain ⟨h1, h2⟩ := List.pairwise_cons.1 hp
    have ha : a ∈ m := hs a (by simp)
    have := ih (m.erase a) h2 fun x hx => (List.mem_erase_of_ne (Ne.symm (h1 x hx))).2 (hs x (by simp [hx]))
    rw [List.length_erase_of_mem ha] at this
    have := List.length_pos_of_mem ha
    simp only [List.length_cons]
    omega
theorem Hmap.fit {w : World} {k : TypeId} {b n : Nat} {f : Lit → Option (List UInt8)} (K : Keyed Tryd.prog k) (h : Hmap w k b n f) (ks : List Lit) (hk : ∀ kl l, f kl = some l → kl ∈ ks) : Hmap w k b ks.length f := by
  obtain ⟨D, h1, h2, h3⟩ := h
  obtain ⟨es', e', hp, hkey⟩ := h1.canon K
  have hle : es'.length ≤ ks.length := by
    have := nodup_sub (es'.map (·.1)) ks (List.pairwise_map.2 (apart_of_rising hp)) fun x hx => by
      obtain ⟨p, hp', rfl⟩ := List.mem_map.1 hx
      have hh : Maps.has D p.1 = true := by
        rw [e']
        exact List.any_eq_true.2 ⟨p, hp', WideAt.sameKey_self (hkey p hp')⟩
      rw [h2] at hh
      obtain ⟨l, hl⟩ := Option.isSome_iff_exists.1 hh
      exact hk _ _ hl
    simpa using this
  refine ⟨D, ?_, h2, h3⟩
  obtain ⟨es, clock, hb, F, hs, hD⟩ := h1
  refine ⟨es, clock, hb, F, ?_, hD⟩
  have e2 := congrArg Maps.size (hD.symm.trans e')
  rw [Maps.size_eq, Maps.size_eq, length_sorted] at e2
  simp at e2
  omega
/-- No more entries than leaves. -/
theorem Hmap.leaves {w : World} {b n k : Nat} {L : List (Nat × List UInt8)} (K : Keyed Tryd.prog 23) (h : Hmap w 23 b n (lvF fun p => nodeO k p L)) : Hmap w 23 b L.length (lvF fun p => nodeO k p L) := by
  have := h.fit K (L.map fun q => Lit.int .u64 ((q.1 >>> k : Nat) : Int)) fun kl l e => by
    obtain ⟨p, rfl, hp⟩ := lvF_some e
    obtain ⟨-, q, hq, rfl⟩ := nodeO_some hp
    exact List.mem_map.2 ⟨q, hq, rfl⟩
  simpa using this
end Go.Proofs.YtdegmcfcbndelaaDoor

namespace Go.Proofs.YtdegmcfcbndelaaDoor
open Go.RowKit

theorem run_mkMap {o : Oper} {a : Go.Act} {W : World} (ho : o.op = .makeMap 52 none) : (execOp a.eval o).run Tryd.prog W = .ok (.value (.map (some W.heap.size))) (W.alloc (.map #[] 0)) := by
  unfold execOp
  simp only [ho]
  rfl
end Go.Proofs.YtdegmcfcbndelaaDoor

namespace Go.Proofs.YtdegmcfcbndelaaDoor
open Go.RowKit Go.Maps

theorem kU64 : Keyed Tryd.prog 23 := int_keyed Tryd.underlying23
theorem keyU64 {p : Nat} (h : p < 18446744073709551616) : keyOf Tryd.prog 23 (.int .u64 (p : Int)) = some (.int .u64 (p : Int)) :=
  keyOf_int_mk Tryd.underlying23 (by
    have h1 : IntKind.u64.min = 0 := by decide
    have h2 : IntKind.u64.max = 18446744073709551615 := by decide
    show (decide (IntKind.u64.min ≤ (p : Int)) && decide ((p : Int) ≤ IntKind.u64.max)) = true
    rw [h1, h2, decide_eq_true (by omega), decide_eq_true (by omega)]
    rfl)
theorem litU64 (p : Int) : WideAt.IsKeyLit (.int .u64 p) := trivial
/-- The cells of a tree. -/
def treeV (B h : Nat) : Array Value := (Value.slice (some ⟨B, 0, none⟩) (h + 1) (h + 1) :: ubs (eRow 33)).toArray
def mapsV (h : Nat) (mp : Nat → Nat) : Array Value := ((List.range (h + 1)).map fun k => Value.map (some (mp k))).toArray
/-- Its own blocks. -/
def ownS (b B h : Nat) (mp : Nat → Nat) : Nat → Prop := fun x => x = b ∨ x = B ∨ ∃ k, k ≤ h ∧ x = mp k
/-- A tree of height h in memory, whose stored nodes are told by g; no map has more than N entries. -/
structure PtM (W : World) (b B h N : Nat) (mp : Nat → Nat) (g : Nat → Nat → Option (List UInt8)) : Prop where
  t : At W b (treeV B h) 117
  l : At W B (mapsV h mp) 52
  m : ∀ k, k ≤ h → Hmap W 23 (mp k) N (lvF (g k))
  ap : ∀ k, k ≤ h → mp k ≠ b ∧ mp k ≠ B
  inj : ∀ k j, k ≤ h → j ≤ h → mp k = mp j → k = j
  bB : b ≠ B
  len : ∀ k p y, g k p = some y → y.length = 32
  hh : h ≤ 32
def updL (g : Nat → Nat → Option (List UInt8)) (k p : Nat) (x : Option (List UInt8)) : Nat → Nat → Option (List UInt8) := fun j => if j = k then updN (g j) p x else g j
theorem updL_length {g : Nat → Nat → Option (List UInt8)} (h : ∀ k p y, g k p = some y → y.length = 32) {x : Option (List UInt8)} (hx : ∀ y, x = some y → y.length = 32) (k p : Nat) : ∀ j q y, updL g k p x j q = some y → y.length = 32 := fun j q y => by
  unfold updL
  split
  · unfold updN
    split
    · exact hx y
    · exact h j q y
  · exact h j q y
/-- A node's hash, whether it is stored or not. -/
def valG (g : Nat → Nat → Option (List UInt8)) (k p : Nat) : List UInt8 := (g k p).getD (emptyL k)
theorem valG_nodeO (L : List (Nat × List UInt8)) (k p : Nat) : valG (fun k p => nodeO k p L) k p = nodeS k p L := nodeO_getD k p L
theorem valG_nodeF (L : List (Nat × List UInt8)) : valG (fun k p => nodeO k p L) = fun k p => nodeS k p L := by
  funext k p
  exact valG_nodeO L k p
section
variable {W W' : World} {b B h N : Nat} {mp : Nat → Nat} {g g' : Nat → Nat → Option (List UInt8)}
theorem PtM.keep (x : PtM W b B h N mp g) (k : KeepsS (ownS b B h mp) W W') : PtM W' b B h N mp g :=
  ⟨(k b (Or.inl rfl)).trans x.t, (k B (Or.inr (Or.inl rfl))).trans x.l, fun j hj => by
    obtain ⟨D, ⟨es, clock, hh, r⟩, h2, h3⟩ := x.m j hj
    exact ⟨D, ⟨es, clock, (k _ (Or.inr (Or.inr ⟨j, hj, rfl⟩))).trans hh, r⟩, h2, h3⟩, x.ap, x.inj, x.bB, x.len, x.hh⟩
theorem PtM.lt (x : PtM W b B h N mp g) : ∀ k, ownS b B h mp k → k < W.heap.size := fun k hk => by
  rcases hk with rfl | rfl | ⟨j, hj, rfl⟩
  · exact x.t.lt
  · exact x.l.lt
  · exact (x.m j hj).lt
theorem PtM.new (x : PtM W b B h N mp g) (hb : Below W.heap.size W W') : PtM W' b B h N mp g := x.keep (KeepsS.of_below hb x.lt)
theorem PtM.drew (x : PtM W b B h N mp g) : PtM W.drew b B h N mp g := x.keep fun _ _ => rfl
theorem PtM.mono (x : PtM W b B h N mp g) {N' : Nat} (hN : N ≤ N') : PtM W b B h N' mp g := ⟨x.t, x.l, fun k hk => (x.m k hk).mono hN, x.ap, x.inj, x.bB, x.len, x.hh⟩
theorem PtM.levels (x : PtM W b B h N mp g) : W.cell? ⟨b, 0, none⟩ = some (.slice (some ⟨B, 0, none⟩) (h + 1) (h + 1)) := by rw [x.t.cell]; rfl
theorem PtM.map (x : PtM W b B h N mp g) {k : Nat} (hk : k ≤ h) : W.cell? ⟨B, k, none⟩ = some (.map (some (mp k))) := by
  rw [x.l.cell]
  unfold mapsV
  rw [List.getElem?_toArray, List.getElem?_map, List.getElem?_range (by omega)]
  rfl
theorem PtM.empties (x : PtM W b B h N mp g) : W.rangeAt b 1 (ubs (eRow 33)) := fun j u hj => by
  show W.cell? ⟨b, 1 + j, none⟩ = some u
  rw [x.t.cell]
  unfold treeV
  rw [List.getElem?_toArray, Nat.add_comm 1 j, List.getElem?_cons_succ]
  exact hj
theorem PtM.empty (x : PtM W b B h N mp g) {k : Nat} (hk : k ≤ 32) : W.rangeAt b (1 + 32 * k) (ubs (emptyL k)) := by
  obtain ⟨z, hz⟩ := eRow_at 33 k (by omega)
  intro j u hj
  have := x.empties (32 * k + j) u (by
    rw [hz]
    unfold ubs at hj ⊢
    rw [List.map_append, List.map_append, List.getElem?_append_right (by rw [List.length_map, eRow_length]; omega), List.length_map, eRow_length, Nat.add_sub_cancel_left, List.getElem?_append_left (List.getElem?_eq_some_iff.1 hj).1]
    exact hj)
  rw [show 1 + 32 * k + j = 1 + (32 * k + j) by omega]
  exact this
/-- A node is stored. -/
theorem PtM.put (x : PtM W b B h N mp g) {k : Nat} (hk : k ≤ h) (p : Nat) {y : Option (List UInt8)} (hy : ∀ z, y = some z → z.length = 32) (hm : Hmap W' 23 (mp k) (N + 1) (lvF (updN (g k) p y))) (hg : W.grownBy W' (some (mp k))) : PtM W' b B h (N + 1) mp (updL g k p y) := by
  have hap := x.ap k hk
  have hap1 := Ne.symm hap.1
  have hap2 := Ne.symm hap.2
  refine ⟨(hg.block b x.t.lt (fun e => hap1 (Option.some.inj e))).trans x.t, (hg.block B x.l.lt (fun e => hap2 (Option.some.inj e))).trans x.l, fun j hj => ?_, x.ap, x.inj, x.bB, updL_length x.len hy k p, x.hh⟩
  unfold updL
  by_cases e : j = k
  · subst e
    rw [if_pos rfl]
    exact hm
  · rw [if_neg e]
    have hne : mp j ≠ mp k := fun e' => e (x.inj j k hj hk e')
    obtain ⟨D, ⟨es, clock, hh, r⟩, h2, h3⟩ := (x.m j hj).mono (Nat.le_succ N)
    exact ⟨D, ⟨es, clock, (hg.block _ (Array.getElem?_eq_some_iff.1 hh).1 (fun e' => hne (Option.some.inj e'))).trans hh, r⟩, h2, h3⟩
theorem PtM.congr (x : PtM W b B h N mp g) (e : ∀ k, k ≤ h → ∀ p, g k p = g' k p) (hl : ∀ k p y, g' k p = some y → y.length = 32) : PtM W b B h N mp g' :=
  ⟨x.t, x.l, fun k hk => by rw [← lvF_congr (e k hk)]; exact x.m k hk, x.ap, x.inj, x.bB, hl, x.hh⟩
theorem PtM.valLen (x : PtM W b B h N mp g) (k p : Nat) : (valG g k p).length = 32 := by
  unfold valG
  cases e : g k p with
  | none => exact emptyL_length k
  | some y => exact x.len k p y e
end
theorem nodeO_length {k p : Nat} {L : List (Nat × List UInt8)} (h : okL L) : ∀ y, nodeO k p L = some y → y.length = 32 := fun y e => by
  rw [(nodeO_some e).1]
  exact nodeS_length _ _ _ h
/-- A tree of the program's with some leaves. -/
def PtZ (w0 : World) : PtT := fun S W b h L => ∃ B mp, S = ownS b B h mp ∧ PtM W b B h L.length mp (fun k p => nodeO k p L) ∧ Gd h L ∧ ∀ k, S k → w0.heap.size ≤ k
end Go.Proofs.YtdegmcfcbndelaaDoor

namespace Go.Proofs.YtdegmcfcbndelaaDoor
open Go.RowKit Go.Maps

section
variable {W : World} {b B h N : Nat} {mp : Nat → Nat} {g : Nat → Nat → Option (List UInt8)}
set_option maxRecDepth 100000 in
theorem pheight_any (x : PtM W b B h N mp g) :
    Calls Tryd.prog 62 #[ptr b] W fun r W' => r = .returned (.int .i64 (h : Int)) ∧ W' = W := by
  obtain ⟨h1, hh1⟩ : ∃ m, m = h + 1 := ⟨_, rfl⟩
  have c0 := x.levels
  rw [← hh1] at c0
  have e1 : (h1 : Int) - 1 = (h : Int) := by omega
  have ew : IntKind.i64.wrap (h : Int) = (h : Int) := by rw [IntKind.wrap_i64] <;> have := x.hh <;> omega
  clear hh1 x
  unfold ptr
  go_enter Tryd.func62, Tryd.ntmps62
  go_wp2
  go_ret
  exact ⟨rfl, rfl⟩
set_option maxRecDepth 100000 in
theorem pcheck_nil (W : World) (l p : Int) :
    Calls Tryd.prog 59 #[.pointer none, .int .i64 l, .int .u64 p] W fun r W' => r = .returned (errV 11) ∧ W' = W := by
  have e : errV 11 = .iface 42 (.int .i64 11) := rfl
  rw [e]
  go_enter Tryd.func59, Tryd.ntmps59
  go_wp2
  go_ret
  exact ⟨rfl, rfl⟩
set_option maxRecDepth 100000 in
set_option maxHeartbeats 1000000 in
theorem pcheck_any (x : PtM W b B h N mp g) (l : Int) (p : Nat) :
    Calls Tryd.prog 59 #[ptr b, .int .i64 l, .int .u64 (p : Int)] W fun r W' => r = .returned (eB (hasB h l p)) ∧ W' = W := by
  have HH := hid (pheight_any x)
  have HX := hid x.hh
  have e1 : errV 1 = .iface 42 (.int .i64 1) := rfl
  clear x
  unfold ptr at HH ⊢
  by_cases h0 : l < 0
  · have hb : hasB h l p = false := by unfold hasB; simp; omega
    rw [hb, show eB false = errV 1 from rfl, e1]
    have c0 : decide (l < 0) = true := by simpa using h0
    clear hb e1 h0
    go_enter Tryd.func59, Tryd.ntmps59
    go_wp2_with (first
      | (go_at_call 62; refine HH.out.mono ?_; rintro r1 w1 ⟨rfl, rfl⟩))
    go_ret
    exact ⟨rfl, rfl⟩
  by_cases h1 : (h : Int) < l
  · have hb : hasB h l p = false := by unfold hasB; simp; omega
    rw [hb, show eB false = errV 1 from rfl, e1]
    have c0 : decide (l < 0) = false := by simpa using h0
    have c1 : decide ((h : Int) < l) = true := by simpa using h1
    clear hb e1 h0
    go_enter Tryd.func59, Tryd.ntmps59
    go_wp2_with (first
      | (go_at_call 62; refine HH.out.mono ?_; rintro r1 w1 ⟨rfl, rfl⟩))
    go_ret
    exact ⟨rfl, rfl⟩
  obtain ⟨k, rfl⟩ : ∃ k : Nat, l = (k : Int) := ⟨l.toNat, by omega⟩
  obtain ⟨d, hd⟩ : ∃ d, d = h - k := ⟨_, rfl⟩
  have hkh : k ≤ h := by omega
  have c0 : decide ((k : Int) < 0) = false := by simp
  have c1 : decide ((h : Int) < (k : Int)) = false := by simpa using h1
  have c1n : decide (h < k) = false := by simp; omega
  have e2 : (h : Int) - (k : Int) = (d : Int) := by omega
  have ew : IntKind.i64.wrap (d : Int) = (d : Int) := by rw [IntKind.wrap_i64] <;> have := HX.out <;> omega
  have hs := shr_u64 23 p d .i64 (by have := HX.out; omega)
  have hbb : hasB h (k : Int) p = decide (p < 2 ^ d) := by unfold hasB; rw [hd]; simp; omega
  obtain ⟨s, hs'⟩ : ∃ s, s = p >>> d := ⟨_, rfl⟩
  have hs0 : (s = 0) ↔ p < 2 ^ d := by
    rw [hs', Nat.shiftRight_eq_div_pow, Nat.div_eq_zero_iff]
    have : 0 < 2 ^ d := Nat.two_pow_pos d
    omega
  rw [← hs'] at hs
  rw [hbb]
  by_cases hc : s = 0
  · rw [decide_eq_true (hs0.1 hc)]
    have f0 : ((s : Int) != 0) = false := by simp; omega
    have f1 : decide ((s : Int) = 0) = true := by simp; omega
    have f2 : decide (s = 0) = true := by simp; omega
    rw [show eB true = .nilIface from rfl]
    clear hc hs0 hs' hbb hd h0 h1 e1
    go_enter Tryd.func59, Tryd.ntmps59
    go_wp2_with (first
      | (go_at_call 62; refine HH.out.mono ?_; rintro r1 w1 ⟨rfl, rfl⟩))
    go_ret
    exact ⟨rfl, rfl⟩
  · rw [decide_eq_false (fun e => hc (hs0.2 e))]
    have f0 : ((s : Int) != 0) = true := by simp; omega
    have f1 : decide ((s : Int) = 0) = false := by simp; omega
    have f2 : decide (s = 0) = false := by simp; omega
    rw [show eB false = errV 1 from rfl, e1]
    clear hs0 hs' hbb hd h0 h1 e1
    go_enter Tryd.func59, Tryd.ntmps59
    go_wp2_with (first
      | (go_at_call 62; refine HH.out.mono ?_; rintro r1 w1 ⟨rfl, rfl⟩))
    go_ret
    exact ⟨rfl, rfl⟩
end
end Go.Proofs.YtdegmcfcbndelaaDoor

namespace Go.Proofs.YtdegmcfcbndelaaDoor
open Go.RowKit Go.Maps

theorem undMap : Tryd.prog.underlying 52 = some (.map 23 25) := Tryd.underlying52
section
variable {w : World} {k : TypeId} {b n : Nat} {f : Lit → Option (List UInt8)} {ops : Array Oper} {rest : List Oper} {o : Oper} {a : Go.Act} {Q : Exit → Go.Act → World → Prop}
theorem wpList_hmap_at (hg : o.guard = none) (m x : Operand) (hop : o.op = Op.lookup 52 m x true)
    (hm : a.eval m = .map (some b)) (h : Hmap w 23 b n f) (p : Nat) (hx : a.eval x = .int .u64 (p : Int)) (hp : p < 18446744073709551616) (v : List UInt8) (is : Bool) (e1 : (f (.int .u64 (p : Int))).getD n32 = v) (e2 : (f (.int .u64 (p : Int))).isSome = is)
    (hK : wpList Tryd.prog ops Q rest (a.put o.dst (.tuple #[.agg (ubs v).toArray, .bool is])) w) : wpList Tryd.prog ops Q (o :: rest) a w := by
  subst e1 e2
  exact wpList_hmap_look hg m x _ hop kU64 undMap hm h _ _ hx (keyU64 hp) hK
theorem wpList_hmap_off (hg : o.guard = none) (m x : Operand) (hop : o.op = Op.call { callee := Callee.builtin Builtin.delete, args := #[m, x], argTypes := #[52, 23] })
    (hm : a.eval m = .map (some b)) (h : Hmap w 23 b n f) (p : Nat) (hx : a.eval x = .int .u64 (p : Int)) (hp : p < 18446744073709551616)
    (f' : Lit → Option (List UInt8)) (e1 : f' (.int .u64 (p : Int)) = none) (e2 : ∀ x, x ≠ .int .u64 (p : Int) → f' x = f x)
    (hK : ∀ w', Hmap w' 23 b n f' → w.grownBy w' (some b) → wpList Tryd.prog ops Q rest (a.put o.dst (.tuple #[])) w') : wpList Tryd.prog ops Q (o :: rest) a w :=
  wpList_hmap_drop hg m x _ hop kU64 undMap hm h _ _ hx (keyU64 hp) f' e1 e2 hK
/-- 'm[k] = v' in a region whose order is open. -/
theorem wp_hmap_put {K : Go.Act → World → Prop} (m x v : Operand) (hop : o.op = Op.mapUpdate 52 m x v)
    (hm : a.eval m = .map (some b)) (h : Hmap w 23 b n f) (hn : n < maxLen) (p : Nat) (l : List UInt8) (hx : a.eval x = .int .u64 (p : Int)) (hp : p < 18446744073709551616) (hv : a.eval v = .agg (ubs l).toArray) (hl : l.length = 32)
    (f' : Lit → Option (List UInt8)) (e1 : f' (.int .u64 (p : Int)) = some l) (e2 : ∀ x, x ≠ .int .u64 (p : Int) → f' x = f x)
    (hK : ∀ w', Hmap w' 23 b (n + 1) f' → w.grownBy w' (some b) → K (a.put o.dst undef) w') : o.wp Tryd.prog a w K Q := by
  obtain ⟨D, h1, h2, h3⟩ := h
  obtain ⟨w', hrun, r1, r2⟩ := h1.store kU64 undMap hn (keyU64 hp) (hashElem_mk hl)
  unfold Oper.wp
  simp [execOp, hop, hm, hx, hv, hrun, Result.andThen]
  refine hK w' ⟨_, r1, fun y => ?_, fun y l' hy z => ?_⟩ r2.grown
  · by_cases e : y = .int .u64 (p : Int)
    · rw [e, Maps.has_put_same h1.isMap (litU64 _), e1]; rfl
    · rw [Maps.has_put_other e, h2, e2 y e]
  · by_cases e : y = .int .u64 (p : Int)
    · subst e
      rw [e1] at hy
      rw [Maps.atKey_put_same h1.isMap (litU64 _), Option.some.inj hy]
    · rw [Maps.atKey_put_other e, h3 y l' (by rw [← e2 y e, hy]) z]
end
theorem range_new {A B : World} {n g o : Nat} {l : List Value} (hb : Below n A B) (hg : g < n) (h : A.rangeAt g o l) : B.rangeAt g o l := fun j u hj => (hb.cell (p := ⟨g, o + j, none⟩) hg).trans (h j u hj)
section
variable {W : World} {b B h N : Nat} {mp : Nat → Nat} {g : Nat → Nat → Option (List UInt8)}
set_option maxRecDepth 100000 in
set_option maxHeartbeats 1000000 in
theorem pat_any (x : PtM W b B h N mp g) (k p : Nat) (hk : k ≤ h) (hp : p < 18446744073709551616) :
    Calls Tryd.prog 60 #[ptr b, .int .i64 (k : Int), .int .u64 (p : Int)] W fun r W' => r = .returned (.tuple #[.agg (ubs (valG g k p)).toArray, .bool (g k p).isSome]) ∧ Below W.heap.size W W' := by
  obtain ⟨w1, hw1⟩ : ∃ w1, w1 = W.alloc (.cells (ubs n32).toArray 25) := ⟨_, rfl⟩
  have hb1 : Below W.heap.size W w1 := by rw [hw1]; exact (Below.refl _ _).alloc (Nat.le_refl _) _
  have H1 := hid (show At w1 W.heap.size (ubs n32).toArray 25 by rw [hw1]; exact At.new _ _ _)
  have hs1 : w1.heap.size = W.heap.size + 1 := by rw [hw1]; simp
  have HS1 := hid hs1
  have HB1 := hid hb1
  have x1 := x.new hb1
  have HMP := hid (x1.m k hk)
  have HEM := hid (x1.empty (k := k) (by have := x.hh; omega))
  have c0 := x1.levels
  have c1 := x1.map hk
  have hgl := x.len k p
  have HEL := hid (emptyL_length k)
  have HNL := hid n32_length
  have HP := hid hp
  have HAH := hid (fun (o : Oper) (a : Go.Act) (W : World) (h : o.op = .alloc 25) => run_alloc_of (o := o) (a := a) (W := W) _ h _ zeroH8)
  obtain ⟨h1, hh1⟩ : ∃ m, m = h + 1 := ⟨_, rfl⟩
  rw [← hh1] at c0
  have i0 : (k : Int) < (h1 : Int) := by omega
  have i1 : (k : Int) < 33 := by have := x.hh; omega
  obtain ⟨o, ho⟩ : ∃ o, o = 1 + 32 * k := ⟨_, rfl⟩
  have e3 : 1 + k * 32 = o := by omega
  rw [← ho] at HEM
  have hv := lvF_at (g k) p
  unfold valG
  unfold ptr
  have HBS := hid (show b < w1.heap.size from x1.t.lt)
  cases e : g k p with
  | none =>
    rw [e] at hv
    show Calls _ _ _ _ fun r W' => r = .returned (.tuple #[.agg (ubs (emptyL k)).toArray, .bool false]) ∧ Below W.heap.size W W'
    obtain ⟨m, hm⟩ : ∃ m, m = n32 := ⟨_, rfl⟩
    have HV1 := hid (show (lvF (g k) (.int .u64 (p : Int))).getD n32 = m by rw [hv, hm]; rfl)
    have HV2 := hid (show (lvF (g k) (.int .u64 (p : Int))).isSome = false by rw [hv]; rfl)
    clear e hv x1 x hh1 ho hk hp hb1 hs1 hgl
    rw [← hm] at HAH HNL H1 hw1
    clear hm
    go_enter Tryd.func60, Tryd.ntmps60
    go_wp2_with (first
      | (refine Great.wpList_allocTo rfl _ rfl _ _ (HAH.out _ _ _ rfl) ?_; rw [← hw1]; clear hw1)
      | (refine Great.wpList_allocTo rfl _ rfl _ _ (HAH.out _ _ _ rfl) ?_)
      | (refine wpList_hmap_at rfl _ _ rfl rfl HMP.out p rfl HP.out m false HV1.out HV2.out ?_)
      | (refine wpList_store_row rfl _ (.tmp 8) (.tmp 20) rfl w1.heap.size (ubs m).toArray rfl rfl 25 (ubs m).toArray (At.new _ _ _) (sizeH_of HNL.out) (Eq.refl _) (ubs_all _) ?_; have hb5 : Below w1.heap.size w1 ((w1.alloc (.cells (ubs m).toArray 25)).setRow w1.heap.size (ubs m).toArray) := below_setRow ((Below.refl _ _).alloc (Nat.le_refl _) _) (Nat.le_refl _) _; have H5 := hid (H1.out.new_ hb5); have G5 := hid (show At ((w1.alloc (.cells (ubs m).toArray 25)).setRow w1.heap.size (ubs m).toArray) w1.heap.size (ubs m).toArray 25 from setRow_heap _ _ _ _ _ _ (At.new _ _ _)); have B5 := hid (HB1.out.trans (hb5.mono HB1.out.size)); have E5 := hid (range_new hb5 HBS.out HEM.out); have c2 := (hb5.cell (p := ⟨b, 0, none⟩) HBS.out).trans c0; clear hb5 c0 c1; generalize ((w1.alloc (.cells (ubs m).toArray 25)).setRow w1.heap.size (ubs m).toArray) = w5 at H5 G5 B5 E5 c2 ⊢; generalize w1.heap.size = G at G5 ⊢)
      | (refine wpList_valW (by rfl) (run_loadH (.tmp 28) rfl b o rfl (emptyL k) E5.out HEL.out) ?_)
      | (refine wpList_store_row rfl _ (.tmp 6) (.tmp 29) rfl W.heap.size (ubs (emptyL k)).toArray rfl rfl 25 (ubs m).toArray H5.out (sizeH_of HEL.out) ?e2 (ubs_all _) ?f2; rotate_right))
    case e2 => simp [ubs_length, HNL.out, HEL.out]
    refine bodyPost_ret (results_row_tmp rfl _ _ W.heap.size 25 (ubs (emptyL k)).toArray (0, 0) _ rfl (setRow_heap _ _ _ _ _ _ H5.out) Tryd.underlying25 rfl (sizeH_of HEL.out)) rfl ?_
    exact ⟨rfl, below_setRow B5.out (Nat.le_refl _) _⟩
  | some v =>
    rw [e] at hv
    show Calls _ _ _ _ fun r W' => r = .returned (.tuple #[.agg (ubs v).toArray, .bool true]) ∧ Below W.heap.size W W'
    have HGL := hid (hgl v e)
    have HV1 := hid (show (lvF (g k) (.int .u64 (p : Int))).getD n32 = v by rw [hv]; rfl)
    have HV2 := hid (show (lvF (g k) (.int .u64 (p : Int))).isSome = true by rw [hv]; rfl)
    clear e hv x1 x hh1 ho hk hp hb1 hs1 hgl
    obtain ⟨m, hm⟩ : ∃ m, m = n32 := ⟨_, rfl⟩
    rw [← hm] at HAH HNL H1 hw1
    clear hm
    go_enter Tryd.func60, Tryd.ntmps60
    go_wp2_with (first
      | (refine Great.wpList_allocTo rfl _ rfl _ _ (HAH.out _ _ _ rfl) ?_; rw [← hw1]; clear hw1)
      | (refine Great.wpList_allocTo rfl _ rfl _ _ (HAH.out _ _ _ rfl) ?_)
      | (refine wpList_hmap_at rfl _ _ rfl rfl HMP.out p rfl HP.out v true HV1.out HV2.out ?_)
      | (refine wpList_store_row rfl _ (.tmp 8) (.tmp 20) rfl w1.heap.size (ubs v).toArray rfl rfl 25 (ubs m).toArray (At.new _ _ _) (sizeH_of HGL.out) (by simp [ubs_length, HNL.out, HGL.out]) (ubs_all _) ?_; have hb5 : Below w1.heap.size w1 ((w1.alloc (.cells (ubs m).toArray 25)).setRow w1.heap.size (ubs v).toArray) := below_setRow ((Below.refl _ _).alloc (Nat.le_refl _) _) (Nat.le_refl _) _; have H5 := hid (H1.out.new_ hb5); have G5 := hid (show At ((w1.alloc (.cells (ubs m).toArray 25)).setRow w1.heap.size (ubs v).toArray) w1.heap.size (ubs v).toArray 25 from setRow_heap _ _ _ _ _ _ (At.new _ _ _)); have B5 := hid (HB1.out.trans (hb5.mono HB1.out.size)); have E5 := hid (range_new hb5 HBS.out HEM.out); have c2 := (hb5.cell (p := ⟨b, 0, none⟩) HBS.out).trans c0; clear hb5 c0 c1; generalize ((w1.alloc (.cells (ubs m).toArray 25)).setRow w1.heap.size (ubs v).toArray) = w5 at H5 G5 B5 E5 c2 ⊢; generalize w1.heap.size = G at G5 ⊢)
      | (refine wpList_valW (by rfl) (run_loadH (.tmp 8) rfl G 0 rfl v (range_whole G5.out) HGL.out) ?_)
      | (refine wpList_store_row rfl _ (.tmp 6) (.tmp 23) rfl W.heap.size (ubs v).toArray rfl rfl 25 (ubs m).toArray H5.out (sizeH_of HGL.out) ?e1 (ubs_all _) ?f1; rotate_right))
    case e1 => simp [ubs_length, HNL.out, HGL.out]
    refine bodyPost_ret (results_row_tmp rfl _ _ W.heap.size 25 (ubs v).toArray (0, 0) _ rfl (setRow_heap _ _ _ _ _ _ H5.out) Tryd.underlying25 rfl (sizeH_of HGL.out)) rfl ?_
    exact ⟨rfl, below_setRow B5.out (Nat.le_refl _) _⟩
end
end Go.Proofs.YtdegmcfcbndelaaDoor

namespace Go.Proofs.YtdegmcfcbndelaaDoor
open Go.RowKit

end Go.Proofs.YtdegmcfcbndelaaDoor
