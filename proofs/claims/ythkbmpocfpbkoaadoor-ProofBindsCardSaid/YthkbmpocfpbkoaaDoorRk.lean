/-
  Maps of strings at hashes.
-/
import Derived.Test.YthkbmpocfpbkoaaDoorY4
import Derived.Test.YthkbmpocfpbkoaaDoorY1
import Derived.Maps.OwnSet
import Derived.Maps.OwnOps
import Derived.Maps.StringElems
import Derived.DeepKeys4
namespace Go.Proofs.YthkbmpocfpbkoaaDoor
open Go.RowKit Go.Maps

set_option maxRecDepth 100000 in
theorem kHash : Keyed Tryd.prog 35 :=
  Keyed.of_law (deep_law_laid (by kernel_rfl) (m := 5) (by decide) (of_decide_eq_true (by kernel_rfl)) (by kernel_rfl) (by rw [Tryd.underlying35]))
def hkL (l : List UInt8) : List Lit := l.map fun b => .int .u8 (b.toNat : Int)
def hk (l : List UInt8) : Lit := .string (keyBytes (hkL l))
theorem mapM_all {α β : Type} (f : α → Option β) (g : α → β) : ∀ l : List α, (∀ a ∈ l, f a = some (g a)) → l.mapM f = some (l.map g)
  | [], _ => rfl
  | a :: l, h => by
    rw [List.mapM_cons, h a (by simp), mapM_all f g l (fun b hb => h b (by simp [hb]))]
    rfl
theorem key_byte (d : Nat) (b : UInt8) : Tryd.prog.keyLits (d + 1) 5 [ub b] = some [.int .u8 (b.toNat : Int)] := by
  unfold Program.keyLits
  rw [Tryd.underlying5]
  have hb := b.toNat_lt
  have : (Lit.int .u8 (b.toNat : Int)).wf = true := by
    simp [Lit.wf, IntKind.min, IntKind.max, IntKind.signed, IntKind.bits]
    omega
  simp [ub, this]
set_option maxRecDepth 100000 in
theorem cellsH10 : Tryd.prog.cellsOf 35 = 32 := by kernel_rfl
theorem cellsB10 : Tryd.prog.cellsOf 5 = 1 := by kernel_rfl
theorem keyTypeH : Tryd.prog.keyType 35 = true := by kernel_rfl
theorem flat_ones (l : List UInt8) : ((List.range l.length).map fun i => hkL ((l.drop i).take 1)).flatten = hkL l := by
  have key : ∀ (m l : List UInt8), ((List.range l.length).map fun i => hkL (((m ++ l).drop (m.length + i)).take 1)).flatten = hkL l := by
    intro m l
    induction l generalizing m with
    | nil => rfl
    | cons b l ih =>
      rw [List.length_cons, List.range_succ_eq_map, List.map_cons, List.map_map, List.flatten_cons]
      have h1 : hkL (((m ++ b :: l).drop (m.length + 0)).take 1) = [.int .u8 (b.toNat : Int)] := by
        rw [Nat.add_zero, List.drop_left]
        rfl
      have h2 : ((List.range l.length).map ((fun i => hkL (((m ++ b :: l).drop (m.length + i)).take 1)) ∘ Nat.succ)).flatten = hkL l := by
        have := ih (m ++ [b])
        rw [List.length_append, List.append_assoc] at this
        rw [← this]
        congr 2
        funext i
        show hkL (((m ++ b :: l).drop (m.length + (i + 1))).take 1) = hkL (((m ++ ([b] ++ l)).drop (m.length + [b].length + i)).take 1)
        rw [show m.length + [b].length + i = m.length + (i + 1) by simp; omega]
        rfl
      rw [h1, h2]
      rfl
  have := key [] l
  simpa using this
set_option maxRecDepth 100000 in
theorem keyHash {l : List UInt8} (hl : l.length = 32) : keyOf Tryd.prog 35 (.agg (ubs l).toArray) = some (hk l) := by
  have h2 : Value.formed Tryd.prog 35 (.agg (ubs l).toArray) = true := by
    unfold Value.formed
    rw [Tryd.underlying35]
    show ((ubs l).toArray.size == Tryd.prog.cellsOf 35) = true
    rw [cellsH10]
    simp [ubs_length, hl]
  have h3 : Tryd.prog.keyLits (Tryd.prog.types.size + 1) 35 (ubs l) = some (hkL l) := by
    obtain ⟨d, hd⟩ : ∃ d, Tryd.prog.types.size = d + 1 := ⟨Tryd.prog.types.size - 1, by kernel_rfl⟩
    rw [hd]
    unfold Program.keyLits
    rw [Tryd.underlying35]
    rw [cellsH10]
    simp only [ubs_length, hl, if_true, cellsB10, Nat.mul_one]
    rw [mapM_all _ (fun i => hkL ((l.drop i).take 1)) _ (fun i hi => by
      have hi' : i < 32 := List.mem_range.1 hi
      have e : ((ubs l).drop i).take 1 = [ub l[i]] := by
        rw [List.drop_eq_getElem_cons (by rw [ubs_length]; omega)]
        simp [ubs, ub]
      have e2 : (l.drop i).take 1 = [l[i]] := by
        rw [List.drop_eq_getElem_cons (by omega)]
        rfl
      rw [e, e2]
      exact key_byte d l[i])]
    rw [Option.map_some, show (32 : Nat) = l.length from hl.symm, flat_ones]
  unfold keyOf
  rw [Tryd.underlying35]
  simp only [keyTypeH, h2, Bool.and_self, if_true]
  show Option.map _ (Tryd.prog.keyLits (Tryd.prog.types.size + 1) 35 ((ubs l).toArray.toList)) = _
  rw [List.toList_toArray, h3]
  rfl
set_option maxRecDepth 100000 in
theorem hk_inj {l m : List UInt8} (hl : l.length = 32) (hm : m.length = 32) (e : hk l = hk m) : l = m := by
  have h := kHash.inj (keyHash hl) (e ▸ keyHash hm)
  have h2 : (ubs l).toArray = (ubs m).toArray := by
    injection h
  have h3 : ubs l = ubs m := by
    have := congrArg Array.toList h2
    simpa using this
  exact ubs_inj h3
set_option maxRecDepth 100000 in
theorem strElem (s : List UInt8) (hs : s.length ≤ maxLen) : plainElem (H := Unit) Tryd.prog 9 (.string ⟨s.toArray⟩) = some (.lit (.string s), []) := by
  have := plainElem_string (H := Unit) (P := Tryd.prog) Tryd.underlying9 (s := ⟨s.toArray⟩) (by show s.toArray.size ≤ _; simpa using hs)
  simpa using this
set_option maxRecDepth 100000 in
theorem strElem_inv {v : Value} {s : List UInt8} {ps : List MemPlace} (h : plainElem (H := Unit) Tryd.prog 9 v = some (.lit (.string s), ps)) : v = .string ⟨s.toArray⟩ := by
  obtain ⟨t, rfl, e, -⟩ := plainElem_string_inv Tryd.underlying9 h
  have : s = t.data.toList := by
    have := congrArg Prod.fst e
    injection this with h1
    injection h1
  subst this
  simp
/-- Block b is a map of strings at hashes; what it has is told by f. -/
def Smap (w : World) (b n : Nat) (f : List UInt8 → Option (List UInt8)) : Prop :=
  ∃ D : DataW Unit, w.ownsMap Tryd.prog 35 (plainElem Tryd.prog 9) b n D ∧ ∀ h, h.length = 32 → Maps.has D (hk h) = (f h).isSome ∧ ∀ s, f h = some s → ∀ z, D.atKey (hk h) z = .lit (.string s)
section
variable {w w' : World} {b n : Nat} {f : List UInt8 → Option (List UInt8)}
set_option maxRecDepth 100000 in
theorem Smap.made (w : World) : Smap (w.alloc (.map #[] 0)) w.heap.size 0 (fun _ => none) :=
  ⟨.map [], World.ownsMap_made _ _ _ _, fun _ _ => ⟨rfl, fun _ h => nomatch h⟩⟩
theorem Smap.new (h : Smap w b n f) (hb : Below w.heap.size w w') : Smap w' b n f := by
  obtain ⟨D, ⟨es, clock, hh, r⟩, h2⟩ := h
  exact ⟨D, ⟨es, clock, (hb.block b (Array.getElem?_eq_some_iff.1 hh).1).trans hh, r⟩, h2⟩
theorem Smap.lt (h : Smap w b n f) : b < w.heap.size := by
  obtain ⟨D, ⟨es, clock, hh, r⟩, h2⟩ := h
  exact (Array.getElem?_eq_some_iff.1 hh).1
variable {ops : Array Oper} {rest : List Oper} {o : Oper} {a : Go.Act} {Q : Exit → Go.Act → World → Prop}
theorem undSm : Tryd.prog.underlying 139 = some (.map 35 9) := Tryd.underlying139
set_option maxRecDepth 100000 in
theorem zeroSR (w : World) : (zeroValue 9).run Tryd.prog w = .ok (.string ⟨#[]⟩) w := by kernel_rfl
/-- 'm[k] = v'. -/
theorem wpList_smap_put (hg : o.guard = none) (m x v : Operand) (hop : o.op = Op.mapUpdate 139 m x v) (hm : a.eval m = .map (some b)) (h : Smap w b n f) (hn : n < maxLen) (l s : List UInt8) (hx : a.eval x = .agg (ubs l).toArray) (hv : a.eval v = .string ⟨s.toArray⟩) (hl : l.length = 32) (hs : s.length ≤ maxLen)
    (hK : ∀ w', Smap w' b (n + 1) (fun x => if x = l then some s else f x) → w.grownBy w' (some b) → wpList Tryd.prog ops Q rest (a.put o.dst undef) w') : wpList Tryd.prog ops Q (o :: rest) a w := by
  obtain ⟨D, h1, h2⟩ := h
  refine wpList_mapUpdate_in w hg m x v _ hop _ _ kHash undSm (plainElem Tryd.prog 9) b n D hm h1 hn _ _ (hk l) hx hv (keyHash hl) (.lit (.string s)) [] (strElem s hs) fun w' o1 o2 => hK w' ⟨_, o1, fun y hy => ?_⟩ o2.grown
  show Maps.has (D.put (hk l) (.lit (.string s))) (hk y) = (if y = l then some s else f y).isSome ∧ ∀ t, (if y = l then some s else f y) = some t → ∀ z, (D.put (hk l) (.lit (.string s))).atKey (hk y) z = .lit (.string t)
  by_cases e : y = l
  · subst e
    rw [if_pos rfl]
    refine ⟨by rw [Maps.has_put_same h1.isMap (kHash.key (keyHash hl))]; rfl, fun t ht z => ?_⟩
    rw [Maps.atKey_put_same h1.isMap (kHash.key (keyHash hl)), ← Option.some.inj ht]
  · have ne : hk y ≠ hk l := fun h => e (hk_inj hy hl h)
    rw [if_neg e, Maps.has_put_other ne]
    exact ⟨(h2 y hy).1, fun t ht z => by rw [Maps.atKey_put_other ne]; exact (h2 y hy).2 t ht z⟩
/-- 'v, ok := m[k]'. -/
theorem wpList_smap_look (hg : o.guard = none) (m x : Operand) (hop : o.op = Op.lookup 139 m x true) (hm : a.eval m = .map (some b)) (h : Smap w b n f) (l : List UInt8) (hx : a.eval x = .agg (ubs l).toArray) (hl : l.length = 32)
    (hK : wpList Tryd.prog ops Q rest (a.put o.dst (.tuple #[.string ⟨((f l).getD []).toArray⟩, .bool (f l).isSome])) w) : wpList Tryd.prog ops Q (o :: rest) a w := by
  obtain ⟨D, h1, h2⟩ := h
  refine wpList_lookup_own_ok w hg m x _ hop _ _ kHash undSm (plainElem Tryd.prog 9) (zeroSR w) (.lit (.string [])) [] (strElem [] (by simp)) b n D hm h1 _ (hk l) hx (keyHash hl) fun v ps hv => ?_
  have e : D.atKey (hk l) (.lit (.string [])) = .lit (.string ((f l).getD [])) := by
    cases e1 : f l with
    | none =>
      have := (h2 l hl).1
      rw [e1] at this
      exact Maps.atKey_of_not_has this _
    | some s => exact (h2 l hl).2 s e1 _
  rw [e] at hv
  rw [strElem_inv hv, (h2 l hl).1]
  exact hK
end
theorem run_mkSmap {o : Oper} {a : Go.Act} {W : World} (ho : o.op = .makeMap 139 none) : (execOp a.eval o).run Tryd.prog W = .ok (.value (.map (some W.heap.size))) (W.alloc (.map #[] 0)) := by
  unfold execOp
  simp only [ho]
  rfl
end Go.Proofs.YthkbmpocfpbkoaaDoor
