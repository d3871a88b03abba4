/-
  The program's trees: how many leaves there are.
  The program's trees: a copy.
  The program's trees: Copy.
  The program's trees: a map gone through; the nodes of a tree of another size.
  How many bits a number has (math/bits.Len64), and the program's height for a number of blocks.
  The program's trees: a tree of another size.
-/
import Derived.Test.YthkbmpocfpbkoaaDoorZ2
import Derived.Laws.Externs
import Derived.MapKept
import Derived.Test.YthkbmpocfpbkoaaDoorY1
import Derived.Maps.RangeWalk
import Derived.Test.YthkbmpocfpbkoaaDoorTh
import Derived.Test.YthkbmpocfpbkoaaDoorY3
import Derived.Test.YthkbmpocfpbkoaaDoorT0
namespace Go.Proofs.YthkbmpocfpbkoaaDoor
open Go.RowKit Go.Maps

/-- As many entries as leaves. -/
theorem Hmap.count {w : World} {b n h : Nat} {L : List (Nat × List UInt8)} (gd : Gd h L) {D : DataW Unit} (h1 : w.ownsMap Tryd.prog 33 hashElem b n D) (h2 : ∀ kl, Maps.has D kl = (lvF (fun p => nodeO 0 p L) kl).isSome) : Maps.size D = L.length := by
  obtain ⟨es, e, hp, hkey⟩ := h1.canon kU64
  subst e
  have hsz : Maps.size (.map es : DataW Unit) = es.length := rfl
  have hin : ∀ kl, kl ∈ es.map (·.1) ↔ kl ∈ L.map (fun q => Lit.int .u64 (q.1 : Int)) := by
    intro kl
    have hk := h2 kl
    rw [Maps.has_eq] at hk
    constructor
    · intro hm
      obtain ⟨p, hp', rfl⟩ := List.mem_map.1 hm
      have hh : es.any (fun q => q.1.sameKey p.1) = true := List.any_eq_true.2 ⟨p, hp', WideAt.sameKey_self (hkey p hp')⟩
      rw [hh] at hk
      obtain ⟨l, hl⟩ := Option.isSome_iff_exists.1 hk.symm
      obtain ⟨q, e1, e2⟩ := lvF_some hl
      obtain ⟨-, z, hz, ez⟩ := nodeO_some e2
      exact List.mem_map.2 ⟨z, hz, by rw [e1, ← ez]; rfl⟩
    · intro hm
      obtain ⟨q, hq, rfl⟩ := List.mem_map.1 hm
      have hg : getH L q.1 = some q.2 := getH_mem gd.ord hq
      rw [lvF_at, nodeO_leaf gd.ord, hg] at hk
      obtain ⟨p, hp', hs⟩ := List.any_eq_true.1 hk
      exact List.mem_map.2 ⟨p, hp', WideAt.sameKey_eq hs⟩
  have hd1 : (es.map (·.1)).Pairwise (· ≠ ·) := List.pairwise_map.2 (apart_of_rising hp)
  have hd2 : (L.map (fun q => Lit.int .u64 (q.1 : Int))).Pairwise (· ≠ ·) := List.pairwise_map.2 (gd.ord.imp fun {a b} hab e => by
    have : (a.1 : Int) = b.1 := by injection e
    omega)
  have l1 := nodup_sub _ _ hd1 fun x hx => (hin x).1 hx
  have l2 := nodup_sub _ _ hd2 fun x hx => (hin x).2 hx
  rw [List.length_map, List.length_map] at l1 l2
  rw [hsz]
  omega
section
variable {W : World} {b B h N : Nat} {mp : Nat → Nat} {L : List (Nat × List UInt8)}
set_option maxRecDepth 100000 in
theorem plen9_any (gd : Gd h L) (x : PtM W b B h N mp (fun k p => nodeO k p L)) :
    Calls Tryd.prog 17 #[ptr b] W fun r W' => r = .returned (.int .i64 (L.length : Int)) ∧ W' = W := by
  obtain ⟨D, h1, h2, -⟩ := x.m 0 (Nat.zero_le _)
  have hc := Hmap.count gd h1 h2
  obtain ⟨n1, hh1⟩ : ∃ m, m = h + 1 := ⟨_, rfl⟩
  have c0 := x.levels
  rw [← hh1] at c0
  have c1 : W.cell? ⟨B, 0, none⟩ = some (.map (some (mp 0))) := x.map (Nat.zero_le _)
  have i0 : (0 : Int) < (n1 : Int) := by omega
  have i1 : 0 < n1 := by omega
  have hl := h1.len undMap 3
  rw [hc] at hl
  clear hh1 x h1 h2 hc
  unfold ptr
  go_enter Tryd.func17, Tryd.ntmps17
  go_wp2
  go_ret
  exact ⟨rfl, rfl⟩
end
end Go.Proofs.YthkbmpocfpbkoaaDoor

namespace Go.Proofs.YthkbmpocfpbkoaaDoor
open Go.RowKit Go.Maps

section
variable {P : Program}
theorem run_equalIn_nilmap (w : World) (d : Nat) (t k e : TypeId) (c : Nat) (h : P.underlying t = some (.map k e)) : (Op.equalIn (d + 1) t (.map (some c)) (.map none)).run P w = .ok false w := by
  simp [Op.equalIn, run_underlying h]
theorem run_eql_nilmap (w : World) (t k e : TypeId) (c : Nat) (h : P.underlying t = some (.map k e)) : (binOp .eql t (.map (some c)) (.map none)).run P w = .ok (.bool false) w := by
  have h2 : (Op.equal t (.map (some c)) (.map none)).run P w = .ok false w := run_equalIn_nilmap w 9999 t k e c h
  simp only [binOp]
  simp [h2]
theorem run_mapClone (w : World) (t : TypeId) {c : Nat} {es : Array MapEntry} {clock : Nat} (hb : w.heap[c]? = some (.map es clock)) :
    (Extern.MapsClone.clone #[.iface t (.map (some c))]).run P w = .ok (.iface t (.map (some w.heap.size))) (w.alloc (.map es clock)) := by
  have h1 := MapKept.run_getObj_map (P := P) hb
  have e : Extern.MapsClone.clone #[Value.iface t (.map (some c))] = (getObj c >>= fun o => match o with
      | .map entries clock => (newObj (.map entries clock) >>= fun n => pure (Value.iface t (.map (some n))))
      | _ => stuck "maps.clone: a map expected") := rfl
  rw [e]
  simp [h1, Result.andThen, go_sem]
theorem run_asMap (w : World) (t k e xT : TypeId) (v : Value) (h : P.underlying t = some (.map k e)) : (Instr.typeAssert (.iface t v) xT t false).run P w = .ok v w := by
  simp [Instr.typeAssert, run_underlying h, go_sem, Result.andThen]
end
set_option maxRecDepth 100000 in
set_option maxHeartbeats 1000000 in
theorem pclone_raw (c : Nat) (es : Array MapEntry) (clock : Nat) (w : World) (hb : w.heap[c]? = some (.map es clock)) :
    Calls Tryd.prog 59 #[.map (some c)] w fun r w' => r = .returned (.map (some w.heap.size)) ∧ w' = w.alloc (.map es clock) := by
  have hq := fun V => run_eql_nilmap (P := Tryd.prog) V _ _ _ c undMap
  have HB := hid hb
  clear hb
  go_enter Tryd.func59, Tryd.ntmps59
  go_wp2
  rw [run_callFunc_extern Tryd.func87 (by kernel_rfl) (by kernel_rfl) (by kernel_rfl) (e := Extern.MapsClone.clone) (by kernel_rfl), run_mapClone w _ HB.out]
  simp only [Result.andThen]
  rw [Oper.upon_value]
  go_wp2
  rw [run_asMap _ _ _ _ _ _ undMap]
  simp only [Result.andThen]
  rw [Oper.upon_value]
  go_wp2
  go_ret
  exact ⟨rfl, rfl⟩
theorem pclone_any {W : World} {c n : Nat} {f : Lit → Option (List UInt8)} (h : Hmap W 33 c n f) :
    Calls Tryd.prog 59 #[.map (some c)] W fun r W' => r = .returned (.map (some W.heap.size)) ∧ Hmap W' 33 W.heap.size n f ∧ Below W.heap.size W W' ∧ W'.heap.size = W.heap.size + 1 := by
  obtain ⟨D, ⟨es, clock, hb, F, hs, hD⟩, h2, h3⟩ := h
  refine (pclone_raw c es clock W hb).mono fun r W' ⟨h1, hw⟩ => ?_
  subst hw
  exact ⟨h1, ⟨D, ⟨es, clock, heap_alloc_new _ _, F, hs, hD⟩, h2, h3⟩, (Below.refl _ _).alloc (Nat.le_refl _) _, by simp⟩
end Go.Proofs.YthkbmpocfpbkoaaDoor

namespace Go.Proofs.YthkbmpocfpbkoaaDoor
open Go.RowKit Go.Maps

theorem Hmap.cell {W : World} {c n : Nat} {f : Lit → Option (List UInt8)} (h : Hmap W 33 c n f) {a : Addr} (ha : c ≠ a.block) (v : Value) : Hmap (W.setCell a v) 33 c n f := by
  obtain ⟨D, ⟨es, clock, hh, r⟩, h2, h3⟩ := h
  exact ⟨D, ⟨es, clock, (Below.heap_setCell W _ _ c ha).trans hh, r⟩, h2, h3⟩
section
variable {W V : World} {b B h N : Nat} {mp : Nat → Nat} {g : Nat → Nat → Option (List UInt8)}
theorem mapsV_set (h : Nat) (mp : Nat → Nat) (k c : Nat) : (mapsV h mp).setIfInBounds k (.map (some c)) = mapsV h (fun q => if q = k then c else mp q) := by
  unfold mapsV
  rw [List.setIfInBounds_toArray]
  congr 1
  apply List.ext_getElem
  · simp
  · intro i h1 h2
    rw [List.getElem_set]
    simp only [List.getElem_map, List.getElem_range]
    by_cases e : k = i
    · subst e
      simp
    · rw [if_neg e, if_neg (fun e' => e e'.symm)]
/-- Another map for a level. -/
theorem PtM.swap (x : PtM V b B h N mp g) {k c : Nat} {g' : Nat → Option (List UInt8)} (hk : k ≤ h) (hc : ∀ q, ownS b B h mp q → q ≠ c) (hm : Hmap V 33 c N (lvF g')) (hl : ∀ p y, g' p = some y → y.length = 32) :
    PtM (V.setCell ⟨B, k, none⟩ (.map (some c))) b B h N (fun q => if q = k then c else mp q) (fun q => if q = k then g' else g q) := by
  have hcB : c ≠ B := fun e => hc B (Or.inr (Or.inl rfl)) e.symm
  have hcb : c ≠ b := fun e => hc b (Or.inl rfl) e.symm
  have hcm : ∀ q, q ≤ h → mp q ≠ c := fun q hq => hc _ (Or.inr (Or.inr ⟨q, hq, rfl⟩))
  refine ⟨x.t.far (by exact x.bB) _, ?_, fun q hq => ?_, fun q hq => ?_, fun q j hq hj e => ?_, x.bB, fun q p y hy => ?_, x.hh⟩
  · have := x.l.put k (.map (some c))
    rwa [mapsV_set] at this
  · by_cases e : q = k
    · subst e
      simp only [if_true]
      exact hm.cell (by exact hcB) _
    · simp only [e, if_false]
      exact (x.m q hq).cell (by exact (x.ap q hq).2) _
  · by_cases e : q = k
    · simp only [e, if_true]
      exact ⟨hcb, hcB⟩
    · simp only [e, if_false]
      exact x.ap q hq
  · by_cases e1 : q = k
    · by_cases e2 : j = k
      · rw [e1, e2]
      · simp only [e1, e2, if_true, if_false] at e
        exact absurd e.symm (hcm j hj)
    · by_cases e2 : j = k
      · simp only [e1, e2, if_true, if_false] at e
        exact absurd e (hcm q hq)
      · simp only [e1, e2, if_false] at e
        exact x.inj q j hq hj e
  · by_cases e : q = k
    · simp only [e, if_true] at hy
      exact hl p y hy
    · simp only [e, if_false] at hy
      exact x.len q p y hy
/-- Levels below j as in g, the others empty. -/
def cpG (g : Nat → Nat → Option (List UInt8)) (j : Nat) : Nat → Nat → Option (List UInt8) := fun q => if q < j then g q else fun _ => none
theorem cpG_zero (g : Nat → Nat → Option (List UInt8)) : cpG g 0 = fun _ _ => none := by
  funext q
  unfold cpG
  rw [if_neg (Nat.not_lt_zero q)]
theorem cpG_next (g : Nat → Nat → Option (List UInt8)) (j : Nat) : (fun q => if q = j then g j else cpG g j q) = cpG g (j + 1) := by
  funext q
  unfold cpG
  by_cases e : q = j
  · subst e
    rw [if_pos rfl, if_pos (Nat.lt_succ_self q)]
  · rw [if_neg e]
    by_cases h1 : q < j
    · rw [if_pos h1, if_pos (by omega)]
    · rw [if_neg h1, if_neg (by omega)]
/-- A copy in the making. -/
structure CyW (W : World) (b B h N : Nat) (mp : Nat → Nat) (g : Nat → Nat → Option (List UInt8)) (b' B' j : Nat) (mp' : Nat → Nat) (V : World) : Prop where
  x : PtM V b B h N mp g
  y : PtM V b' B' h N mp' (cpG g j)
  lo : ∀ q, ownS b' B' h mp' q → W.heap.size ≤ q
  below : Below W.heap.size W V
theorem CyW.new {b' B' j : Nat} {mp' : Nat → Nat} {V' : World} (k : CyW W b B h N mp g b' B' j mp' V) (hb : Below V.heap.size V V') : CyW W b B h N mp g b' B' j mp' V' :=
  ⟨k.x.new hb, k.y.new hb, k.lo, k.below.trans (hb.mono k.below.size)⟩
theorem CyW.next {b' B' j c : Nat} {mp' : Nat → Nat} (k : CyW W b B h N mp g b' B' j mp' V) (hlt : ∀ q, ownS b B h mp q → q < W.heap.size) (hj : j ≤ h) (hc : ∀ q, ownS b' B' h mp' q → q ≠ c) (hcl : W.heap.size ≤ c) (hm : Hmap V 33 c N (lvF (g j))) :
    CyW W b B h N mp g b' B' (j + 1) (fun q => if q = j then c else mp' q) (V.setCell ⟨B', j, none⟩ (.map (some c))) := by
  have hB' : W.heap.size ≤ B' := k.lo B' (Or.inr (Or.inl rfl))
  refine ⟨k.x.keep fun q hq => Below.heap_setCell V _ _ q (by have := hlt q hq; show q ≠ B'; omega), ?_, fun q hq => ?_, k.below.setCell (by exact hB') _⟩
  · have := k.y.swap hj hc hm (k.x.len j)
    rwa [cpG_next] at this
  · rcases hq with rfl | rfl | ⟨i, hi, rfl⟩
    · exact k.lo _ (Or.inl rfl)
    · exact hB'
    · by_cases e : i = j
      · simp only [e, if_true]
        exact hcl
      · simp only [e, if_false]
        exact k.lo _ (Or.inr (Or.inr ⟨i, hi, rfl⟩))
/-- What the region that makes the copy's levels yields. -/
def cpF (b h lo : Nat) (j : Nat) (v : Value) (W : World) : Prop :=
  match j with
  | 0 => v = .pointer (some ⟨b, 0, none⟩)
  | 1 => v = .int .i64 (h : Int)
  | 2 => v = .pointer (some ⟨b, 0, none⟩)
  | 3 => v = .pointer (some ⟨b, 0, none⟩)
  | 4 => v = .pointer (some ⟨b, 1, none⟩)
  | 5 => v = .agg (ubs (eRow 33)).toArray
  | _ => ∃ B' mp' b', v = .pointer (some ⟨b', 0, none⟩) ∧ PtM W b' B' h 0 mp' (fun _ _ => none) ∧ ∀ q, ownS b' B' h mp' q → lo ≤ q
theorem cpF_new {b h lo j : Nat} {v : Value} {W W' : World} (k : cpF b h lo j v W) (hb : Below W.heap.size W W') : cpF b h lo j v W' := by
  unfold cpF at k ⊢
  split at k
  all_goals first | exact k | skip
  obtain ⟨B', mp', b', e, x, l⟩ := k
  exact ⟨B', mp', b', e, x.new hb, l⟩
/-- What the region that stores a clone yields ahead of the store. -/
def clF (b' B' n j c0 N lo : Nat) (g : Nat → Option (List UInt8)) (i : Nat) (v : Value) (W : World) : Prop :=
  match i with
  | 0 => v = .pointer (some ⟨b', 0, none⟩)
  | 1 => v = .pointer (some ⟨b', 0, none⟩)
  | 2 => v = .pointer (some ⟨b', 0, none⟩)
  | 3 => v = .slice (some ⟨B', 0, none⟩) n n
  | 4 => v = .int .i64 (j : Int)
  | 5 => v = .map (some c0)
  | 6 => ∃ c, v = .map (some c) ∧ lo ≤ c ∧ Hmap W 33 c N (lvF g)
  | _ => v = .pointer (some ⟨B', j, none⟩)
theorem clF_new {b' B' n j c0 N lo : Nat} {g : Nat → Option (List UInt8)} {i : Nat} {v : Value} {W W' : World} (k : clF b' B' n j c0 N lo g i v W) (hb : Below W.heap.size W W') : clF b' B' n j c0 N lo g i v W' := by
  unfold clF at k ⊢
  split at k
  all_goals first | exact k | skip
  obtain ⟨c, e, l, m⟩ := k
  exact ⟨c, e, l, m.new hb⟩
set_option maxRecDepth 100000 in
set_option maxHeartbeats 4000000 in
theorem pcopy9_any (x : PtM W b B h N mp g) :
    Calls Tryd.prog 14 #[ptr b] W fun r W' => ∃ B' mp' b', r = .returned (ptr b') ∧ PtM W' b' B' h N mp' g ∧ (∀ q, ownS b' B' h mp' q → W.heap.size ≤ q) ∧ Below W.heap.size W W' := by
  have HX := hid x
  have HLT := hid x.lt
  have HH := hid x.hh
  have HHT := hid (fun (V : World) (q : PtM V b B h N mp g) => show Calls Tryd.prog 35 #[.pointer (some ⟨b, 0, none⟩)] V (fun r W' => r = .returned (.int .i64 (h : Int)) ∧ W' = V) from pheight_any q)
  have HBA := hid (fun V => pbare_any h V x.hh)
  have HER := hid (show (eRow 33).length = 1056 by rw [eRow_length])
  obtain ⟨n, hn⟩ : ∃ n, n = h + 1 := ⟨_, rfl⟩
  have HN := hid hn
  obtain ⟨W0, hW0⟩ : ∃ V, V = W := ⟨_, rfl⟩
  rw [← hW0] at HX HLT ⊢
  clear x hn hW0
  unfold ptr
  go_enter Tryd.func14, Tryd.ntmps14
  go_wp2
  refine wp_region_facts 8 8 [8, 9, 10, 11, 12, 13, 14, 3] (cpF b h W0.heap.size) (fun V => PtM V b B h N mp g ∧ Below W0.heap.size W0 V) (by kernel_rfl) (by kernel_rfl)
    (fun V V' k hb => ⟨k.1.new hb, k.2.trans (hb.mono k.2.size)⟩) (fun _ _ _ _ k hb => cpF_new k hb) (⟨HX.out.drew, (Below.refl _ _).drew⟩) ?_ ?_
  · intro i hi vals W K hB hn hK
    simp only [frm_cons, frm_nil, List.set_cons_succ, List.set_cons_zero, Nat.reduceAdd] at hK ⊢
    rcases (by omega : i = 0 ∨ i = 1 ∨ i = 2 ∨ i = 3 ∨ i = 4 ∨ i = 5 ∨ i = 6 ∨ i = 7) with rfl | rfl | rfl | rfl | rfl | rfl | rfl | rfl
    · refine wpOp_plain rfl rfl (wp_val (w' := W) (v := .pointer (some ⟨b, 0, none⟩)) (by go_simp) ?_)
      exact hK _ _ rfl (Below.refl _ _)
    · have h0 := hn 0 (by decide +kernel)
      simp only [cpF] at h0
      simp only [h0] at hK ⊢
      refine wpOp_plain rfl rfl ?_
      go_simp
      go_at_call 35
      refine (HHT.out W hB.1).mono ?_
      rintro e W' ⟨rfl, rfl⟩
      exact hK _ _ rfl (Below.refl _ _)
    · refine wpOp_plain rfl rfl (wp_val (w' := W) (v := .pointer (some ⟨b, 0, none⟩)) (by go_simp) ?_)
      exact hK _ _ rfl (Below.refl _ _)
    · have h2 := hn 2 (by decide +kernel)
      simp only [cpF] at h2
      simp only [h2] at hK ⊢
      refine wpOp_plain rfl rfl (wp_val (w' := W) (v := .pointer (some ⟨b, 0, none⟩)) (by go_simp) ?_)
      exact hK _ _ rfl (Below.refl _ _)
    · have h3 := hn 3 (by decide +kernel)
      simp only [cpF] at h3
      simp only [h3] at hK ⊢
      refine wpOp_plain rfl rfl (wp_val (w' := W) (v := .pointer (some ⟨b, 1, none⟩)) (by go_simp) ?_)
      exact hK _ _ rfl (Below.refl _ _)
    · have h4 := hn 4 (by decide +kernel)
      simp only [cpF] at h4
      simp only [h4] at hK ⊢
      refine wpOp_plain rfl rfl (wp_val (run_loadAH (.tmp 12) rfl b 1 rfl (eRow 33) hB.1.empties HER.out) ?_)
      exact hK _ _ rfl (Below.refl _ _)
    · have h1 := hn 1 (by decide +kernel)
      have h5 := hn 5 (by decide +kernel)
      simp only [cpF] at h1 h5
      simp only [h1, h5] at hK ⊢
      refine wpOp_plain rfl rfl ?_
      go_simp
      go_at_call 58
      refine (HBA.out W).mono ?_
      rintro e W' ⟨B', mp', b', rfl, y, l, hb⟩
      unfold ptr
      exact hK _ _ ⟨B', mp', b', rfl, y, fun q hq => Nat.le_trans hB.2.size (l q hq)⟩ hb
    · have h6 := hn 6 (by decide +kernel)
      obtain ⟨B', mp', b', e6, y6, l6⟩ := h6
      simp only [e6] at hK ⊢
      refine wpOp_plain rfl rfl (wp_val (w' := W) (v := .pointer (some ⟨b', 0, none⟩)) (by go_simp) ?_)
      exact hK _ _ ⟨B', mp', b', rfl, y6, l6⟩ (Below.refl _ _)
  · intro vals W hB hF
    have h7 := hF 7 (by omega)
    skip
    simp only [frm_cons, frm_nil, List.set_cons_succ, List.set_cons_zero, Nat.reduceAdd]
    refine wpUpto_done (by decide +kernel) ?_ _
    obtain ⟨B', mp', b', e7, y7, l7⟩ := h7
    simp only [e7]
    have K0 := hid (show CyW W0 b B h N mp g b' B' 0 mp' W from ⟨hB.1, by rw [cpG_zero]; exact y7.mono (Nat.zero_le _), l7, hB.2⟩)
    clear hB hF y7 l7 e7 HX
    have c0 := K0.out.x.levels
    rw [← HN.out] at c0
    go_simp
    go_wp2
    go_loopw [20] (fun v wr => ∃ (j : Nat) (mp' : Nat → Nat), j ≤ n ∧ v = .int .i64 (j : Int) ∧ CyW W0 b B h N mp g b' B' j mp' wr) (fun v _ => n - (intOf v).toNat)
    case atStart => exact ⟨0, mp', by omega, rfl, K0.out⟩
    case round =>
      clear K0 c0
      obtain ⟨j, mq, hj, rfl, hX⟩ := hrel
      have HK := hid hX
      clear hX
      by_cases hlt : j < n
      · have hd : decide ((j : Int) < (n : Int)) = true := by simp; omega
        have ik : (j : Int) < (n : Int) := by omega
        have hjh : j ≤ h := by have := HN.out; omega
        obtain ⟨j1, hj1⟩ : ∃ m, m = j + 1 := ⟨_, rfl⟩
        have e2 : (j : Int) + 1 = (j1 : Int) := by omega
        have ew2 : IntKind.i64.wrap (j1 : Int) = (j1 : Int) := by rw [IntKind.wrap_i64] <;> have := HH.out <;> have := HN.out <;> omega
        have c1 := HK.out.x.map hjh
        have HJ := hid hjh
        have HJ1 := hid hj1
        have HJL := hid (show j1 ≤ n by omega)
        have HMS := hid (show n - j1 < n - j by omega)
        clear hlt hj hj1 hjh
        go_wp2
        refine wp_region_facts 8 9 [25, 26, 27, 28, 29, 30, 31, 32] (clF b' B' n j (mp j) N wr.heap.size (g j)) (fun V => CyW W0 b B h N mp g b' B' j mq V ∧ wr.heap.size ≤ V.heap.size) (by kernel_rfl) (by kernel_rfl)
          (fun V V' k hb => ⟨k.1.new hb, Nat.le_trans k.2 hb.size⟩) (fun _ _ _ _ k hb => clF_new k hb) (⟨HK.out.new (Below.refl _ _).drew, Nat.le_refl _⟩) ?_ ?_
        · intro i hi vals W K hB hn hK
          simp only [frm_cons, frm_nil, List.set_cons_succ, List.set_cons_zero, Nat.reduceAdd] at hK ⊢
          rcases (by omega : i = 0 ∨ i = 1 ∨ i = 2 ∨ i = 3 ∨ i = 4 ∨ i = 5 ∨ i = 6 ∨ i = 7) with rfl | rfl | rfl | rfl | rfl | rfl | rfl | rfl
          · refine wpOp_plain rfl rfl (wp_val (w' := W) (v := .pointer (some ⟨b', 0, none⟩)) (by go_simp) ?_)
            exact hK _ _ rfl (Below.refl _ _)
          · have h0 := hn 0 (by decide +kernel)
            simp only [clF] at h0
            simp only [h0] at hK ⊢
            refine wpOp_plain rfl rfl (wp_val (w' := W) (v := .pointer (some ⟨b', 0, none⟩)) (by go_simp) ?_)
            exact hK _ _ rfl (Below.refl _ _)
          · have h1 := hn 1 (by decide +kernel)
            simp only [clF] at h1
            simp only [h1] at hK ⊢
            refine wpOp_plain rfl rfl (wp_val (w' := W) (v := .pointer (some ⟨b', 0, none⟩)) (by go_simp) ?_)
            exact hK _ _ rfl (Below.refl _ _)
          · have h2 := hn 2 (by decide +kernel)
            simp only [clF] at h2
            simp only [h2] at hK ⊢
            have q0 := hB.1.y.levels
            rw [← HN.out] at q0
            refine wpOp_plain rfl rfl (wp_val (w' := W) (v := .slice (some ⟨B', 0, none⟩) n n) (by go_simp) ?_)
            exact hK _ _ rfl (Below.refl _ _)
          · refine wpOp_plain rfl rfl (wp_val (w' := W) (v := .int .i64 (j : Int)) (by go_simp) ?_)
            exact hK _ _ rfl (Below.refl _ _)
          · refine wpOp_plain rfl rfl (wp_val (w' := W) (v := .map (some (mp j))) (by go_simp) ?_)
            exact hK _ _ rfl (Below.refl _ _)
          · have h5 := hn 5 (by decide +kernel)
            simp only [clF] at h5
            simp only [h5] at hK ⊢
            refine wpOp_plain rfl rfl ?_
            go_simp
            go_at_call 59
            refine (pclone_any (hB.1.x.m j HJ.out)).mono ?_
            rintro e W' ⟨rfl, hm, hb, -⟩
            exact hK _ _ ⟨_, rfl, hB.2, hm⟩ hb
          · have h3 := hn 3 (by decide +kernel)
            have h4 := hn 4 (by decide +kernel)
            simp only [clF] at h3 h4
            simp only [h3, h4] at hK ⊢
            refine wpOp_plain rfl rfl (wp_val (w' := W) (v := .pointer (some ⟨B', j, none⟩)) (by go_simp) ?_)
            exact hK _ _ rfl (Below.refl _ _)
        · intro vals W hB hF
          have h6 := hF 6 (by omega)
          have h7 := hF 7 (by omega)
          simp only [clF] at h7
          skip
          simp only [frm_cons, frm_nil, List.set_cons_succ, List.set_cons_zero, Nat.reduceAdd, h7]
          obtain ⟨c, e6, lc, hm⟩ := h6
          simp only [e6]
          have hlt2 : ∀ q, ownS b' B' h mq q → q ≠ c := fun q hq => Nat.ne_of_lt (Nat.lt_of_lt_of_le (HK.out.y.lt q hq) lc)
          have K1 := hid (show CyW W0 b B h N mp g b' B' j1 (fun q => if q = j then c else mq q) (W.setCell ⟨B', j, none⟩ (.map (some c))) from by
            rw [HJ1.out]
            exact hB.1.next HLT.out HJ.out hlt2 (Nat.le_trans HK.out.below.size lc) hm)
          have c3 : W.cell? ⟨B', j, none⟩ = some (.map (some (mq j))) := hB.1.y.map HJ.out
          have f3 : W.frozen? ⟨B', j, none⟩ = false := hB.1.y.l.frozen j
          clear hB hF h7 e6 lc hm hlt2 HK
          refine wpUpto_one (i := 8) rfl (by decide +kernel) rfl ?_
          intro Q0 hQ0
          go_simp
          refine hQ0.out _ _ (fun _ => trivial) ?_
          clear hQ0 Q0
          refine wpUpto_done (by decide +kernel) ?_ _
          go_simp
          go_wp2
          exact ⟨⟨j1, _, HJL.out, rfl, K1.out⟩, by
            show n - ((j1 : Int)).toNat < n - ((j : Int)).toNat
            rw [Int.toNat_natCast, Int.toNat_natCast]
            exact HMS.out⟩
          
      · obtain rfl : j = n := by omega
        have hd : decide ((j : Int) < (j : Int)) = false := by simp
        clear hlt hj
        go_wp2
        go_ret
        refine ⟨B', mq, b', rfl, ?_, HK.out.lo, HK.out.below⟩
        refine HK.out.y.congr (fun k hk p => ?_) HK.out.x.len
        unfold cpG
        rw [if_pos (by have := HN.out; omega)]
    
end
end Go.Proofs.YthkbmpocfpbkoaaDoor

namespace Go.Proofs.YthkbmpocfpbkoaaDoor
open Go.RowKit Go.Maps

/-- A map of hashes that is gone through: c the map, r the walk, left what is still to come. -/
def Hrng (w : World) (c r n : Nat) (f : Lit → Option (List UInt8)) (left : Lit → Bool) (cnt : Nat) : Prop :=
  ∃ D : DataW Unit, w.ranges Tryd.prog 33 hashElem c r n D left cnt ∧ (∀ kl, Maps.has D kl = (f kl).isSome) ∧ (∀ kl l, f kl = some l → ∀ z, D.atKey kl z = hD l) ∧ ∀ kl, left kl = true → Maps.has D kl = true
section
variable {w w' : World} {c r n cnt : Nat} {f : Lit → Option (List UInt8)} {left : Lit → Bool}
theorem Hrng.same (h : Hrng w c r n f left cnt) (h1 : w'.heap[c]? = w.heap[c]?) (h2 : w'.heap[r]? = w.heap[r]?) : Hrng w' c r n f left cnt := by
  obtain ⟨D, ⟨es, clock, since, seen, c0, a1, a2, a3, a4, a5, a6⟩, b1, b2, b3⟩ := h
  exact ⟨D, ⟨es, clock, since, seen, c0, h1.trans a1, a2, a3, a4, h2.trans a5, a6⟩, b1, b2, b3⟩
theorem Hrng.lt (h : Hrng w c r n f left cnt) : r < w.heap.size := by
  obtain ⟨D, a, -⟩ := h
  exact a.lt
theorem Hrng.left_eq (h : Hrng w c r n f left cnt) : w.rangeLeft c r = cnt := by
  obtain ⟨D, a, -⟩ := h
  exact a.left_eq
variable {ops : Array Oper} {rest : List Oper} {o : Oper} {a : Go.Act} {Q : Exit → Go.Act → World → Prop}
theorem wpList_hmap_range (hg : o.guard = none) (m : Operand) (hop : o.op = Op.range 64 m) (hm : a.eval m = .map (some c)) (h : Hmap w 33 c n f)
    (hK : ∀ w' left cnt, Hrng w' c w.heap.size n f left cnt → (∀ p : Nat, f (.int .u64 (p : Int)) ≠ none → left (.int .u64 (p : Int)) = true) → w.grownBy w' none → w'.heap.size = w.heap.size + 1 → wpList Tryd.prog ops Q rest (a.put o.dst (.pointer (some ⟨w.heap.size, 0, none⟩))) w') :
    wpList Tryd.prog ops Q (o :: rest) a w := by
  obtain ⟨D, h1, h2, h3⟩ := h
  exact wpList_range_own w hg m _ hop _ _ kU64 undMap hashElem c n D hm h1 fun w' r1 r2 r3 => hK w' _ _ ⟨D, r1, h2, h3, fun _ h => h⟩ (fun p hp => by
    rw [h2]
    cases e : f (.int .u64 (p : Int)) with
    | none => exact absurd e hp
    | some _ => rfl) r2 r3
set_option maxRecDepth 100000 in
theorem wpList_hmap_next (hg : o.guard = none) (it : Operand) (hop : o.op = Op.next it false) (hit : a.eval it = .pointer (some ⟨r, 0, none⟩)) (h : Hrng w c r n f left cnt) (hf : ∀ kl l, f kl = some l → ∃ p : Nat, kl = .int .u64 (p : Int))
    (hDone : (∀ kl, left kl = false) → wpList Tryd.prog ops Q rest (a.put o.dst (.tuple #[.bool false])) w)
    (hMore : ∀ (p : Nat) (l : List UInt8) (w' : World) (cnt' : Nat), f (.int .u64 (p : Int)) = some l → left (.int .u64 (p : Int)) = true → Hrng w' c r n f (fun z => left z && !z.sameKey (.int .u64 (p : Int))) cnt' → cnt' < cnt →
      w.grownBy w' (some r) → w'.heap.size = w.heap.size → (Instr.entry (.pointer (some ⟨r, 0, none⟩))).run Tryd.prog w' = .ok (.tuple #[.int .u64 (p : Int), .agg (ubs l).toArray]) w' → wpList Tryd.prog ops Q rest (a.put o.dst (.tuple #[.bool true, .int .u64 (p : Int), .agg (ubs l).toArray])) w') :
    wpList Tryd.prog ops Q (o :: rest) a w := by
  obtain ⟨D, h1, h2, h3, h4⟩ := h
  refine wpList_next_ranges w hg it hop 33 kU64 hashElem (fun x : Int => .int .u64 x) (fun cs : Array Value => .agg cs) (fun key kl hk => by
      obtain ⟨x, rfl, -⟩ := Maps.keyOf_int_inv Tryd.underlying33 hk
      exact ⟨x, rfl⟩) (fun v y hv => by
      unfold hashElem at hv
      split at hv
      · exact ⟨_, rfl⟩
      · cases hv) c r n D left cnt hit h1 (fun _ hl => hDone hl) ?_
  intro x cs kl y w' cnt' hk hl hv hat hr hlt hgr hsz hen
  have hh := h4 kl hl
  rw [h2] at hh
  obtain ⟨l, hl2⟩ := Option.isSome_iff_exists.1 hh
  obtain ⟨p, rfl⟩ := hf kl l hl2
  obtain ⟨x', ex, ek, -⟩ := Maps.keyOf_int_inv Tryd.underlying33 hk
  cases ex
  have ex3 : (Lit.int .u64 (p : Int)) = .int .u64 x := ek
  have ex2 : x = (p : Int) := (Lit.int.inj ex3).2.symm
  subst ex2
  have hy : y.1 = hD l := (hat (hD n32)).symm.trans (h3 _ l hl2 _)
  have hc : Value.agg cs = .agg (ubs l).toArray := by
    obtain ⟨y1, y2⟩ := y
    subst hy
    exact hashElem_inv hv
  have hcs : cs = (ubs l).toArray := by injection hc
  subst hcs
  exact hMore p l w' cnt' hl2 hl ⟨D, hr, h2, h3, fun z hz => h4 z (by simp at hz; exact hz.1)⟩ hlt hgr hsz hen
end
/-- The nodes that are copied into a tree of another size: those of levels below j, and of level j those that are no longer to come. -/
def gzC (kept q p : Nat) : Bool := decide ((p + 1) * 2 ^ q ≤ kept)
def gz (kept : Nat) (L : List (Nat × List UInt8)) (j : Nat) (left : Lit → Bool) : Nat → Nat → Option (List UInt8) := fun q p =>
  if (q < j ∨ (q = j ∧ left (.int .u64 (p : Int)) = false)) ∧ gzC kept q p = true then nodeO q p L else none
section
variable {kept j : Nat} {L : List (Nat × List UInt8)} {left : Lit → Bool}
theorem gz_length (ho : okL L) (q p : Nat) : ∀ y, gz kept L j left q p = some y → y.length = 32 := fun y e => by
  unfold gz at e
  split at e
  · exact nodeO_length ho y e
  · cases e
theorem gz_zero (L : List (Nat × List UInt8)) : gz kept L 0 (fun _ => true) = fun _ _ => none := by
  funext q p
  unfold gz
  rw [if_neg (fun h => by
    rcases h.1 with h1 | h1
    · omega
    · cases h1.2)]
theorem gz_enter (hl : ∀ p : Nat, nodeO j p L ≠ none → left (.int .u64 (p : Int)) = true) : gz kept L j left = gz kept L j (fun _ => true) := by
  funext q p
  unfold gz
  by_cases e : q = j
  · subst e
    rw [if_neg (c := (q < q ∨ (q = q ∧ true = false)) ∧ gzC kept q p = true) (fun h => by
      rcases h.1 with h1 | h1
      · omega
      · cases h1.2)]
    split
    · rename_i h
      rcases h.1 with h1 | h1
      · omega
      · cases e : nodeO q p L with
        | none => rfl
        | some y =>
          have := hl p (by rw [e]; exact fun e => nomatch e)
          rw [h1.2] at this
          cases this
    · rfl
  · simp only [e, false_and, or_false]
theorem gz_leave (h0 : ∀ kl, left kl = false) : gz kept L (j + 1) (fun _ => true) = gz kept L j left := by
  funext q p
  unfold gz
  by_cases e : q < j + 1
  · by_cases hg : gzC kept q p = true
    · rw [if_pos ⟨.inl e, hg⟩, if_pos ⟨by
        by_cases e2 : q < j
        · exact .inl e2
        · exact .inr ⟨by omega, h0 _⟩, hg⟩]
    · rw [if_neg (fun h => hg h.2), if_neg (fun h => hg h.2)]
  · rw [if_neg (fun h => by
      rcases h.1 with h1 | h1
      · omega
      · cases h1.2), if_neg (fun h => by
      rcases h.1 with h1 | h1
      · omega
      · have := h1.1; omega)]
theorem sameU64 (p q : Nat) : (Lit.int .u64 (q : Int)).sameKey (.int .u64 (p : Int)) = decide (q = p) := by
  by_cases e : q = p
  · subst e
    rw [WideAt.sameKey_self (litU64 _)]
    simp
  · rw [Maps.sameKey_ne (fun h => e (by injection h; omega))]
    simp [e]
theorem gz_put (p : Nat) (hl : left (.int .u64 (p : Int)) = true) (hk : gzC kept j p = true) : updL (gz kept L j left) j p (nodeO j p L) = gz kept L j (fun z => left z && !z.sameKey (.int .u64 (p : Int))) := by
  funext q i
  unfold updL
  by_cases e1 : q = j
  · subst e1
    rw [if_pos rfl]
    unfold updN
    by_cases e2 : i = p
    · subst e2
      rw [if_pos rfl]
      unfold gz
      rw [if_pos ⟨.inr ⟨rfl, by simp only [sameU64]; simp⟩, hk⟩]
    · rw [if_neg e2]
      unfold gz
      simp only [sameU64, e2, decide_false, Bool.not_false, Bool.and_true]
  · rw [if_neg e1]
    unfold gz
    simp only [e1, false_and, or_false]
theorem gz_skip (p : Nat) (hk : gzC kept j p = false) : gz kept L j left = gz kept L j (fun z => left z && !z.sameKey (.int .u64 (p : Int))) := by
  funext q i
  unfold gz
  by_cases e1 : q = j
  · subst e1
    by_cases e2 : i = p
    · subst e2
      rw [if_neg (fun h => by rw [hk] at h; cases h.2), if_neg (fun h => by rw [hk] at h; cases h.2)]
    · simp only [sameU64, e2, decide_false, Bool.not_false, Bool.and_true]
  · simp only [e1, false_and, or_false]
theorem gz_some {q p : Nat} {y : List UInt8} (h : gz kept L j left q p = some y) : nodeO q p L = some y := by
  unfold gz at h
  split at h
  · exact h
  · cases h
end
/-- No more entries than leaves. -/
theorem PtM.fitz {V : World} {b B h N kept j : Nat} {mp : Nat → Nat} {L : List (Nat × List UInt8)} {left : Lit → Bool} (x : PtM V b B h N mp (gz kept L j left)) : PtM V b B h L.length mp (gz kept L j left) :=
  ⟨x.t, x.l, fun k hk => by
    have := (x.m k hk).fit kU64 (L.map fun q => Lit.int .u64 ((q.1 >>> k : Nat) : Int)) fun kl l e => by
      obtain ⟨p, rfl, hp⟩ := lvF_some e
      obtain ⟨-, q, hq, rfl⟩ := nodeO_some (gz_some hp)
      exact List.mem_map.2 ⟨q, hq, rfl⟩
    simpa using this, x.ap, x.inj, x.bB, x.len, x.hh⟩
theorem getH_cutS {L : List (Nat × List UInt8)} {n i : Nat} (hi : i < n) : getH (cutS n L) i = getH L i := by
  unfold cutS
  exact getH_filter (f := fun x => decide (x < n)) (by simpa using hi)
theorem mem_cutS {L : List (Nat × List UInt8)} {n : Nat} {q : Nat × List UInt8} (h : q ∈ cutS n L) : q ∈ L ∧ q.1 < n := by
  unfold cutS at h
  have := List.mem_filter.1 h
  exact ⟨this.1, by simpa using this.2⟩
theorem srt.cutS {L : List (Nat × List UInt8)} (h : srt L) (n : Nat) : srt (cutS n L) := by
  unfold Go.Proofs.YthkbmpocfpbkoaaDoor.cutS
  exact h.filter _
theorem Gd.cutS {h h' n : Nat} {L : List (Nat × List UInt8)} (g : Gd h L) (hh : h' ≤ 32) (hn : n ≤ 2 ^ h') : Gd h' (cutS n L) :=
  ⟨hh, fun p hp => g.ok p (mem_cutS hp).1, g.ord.cutS n, fun _ hp => Nat.lt_of_lt_of_le (mem_cutS hp).2 hn, fun p hp => g.full p (mem_cutS hp).1⟩
/-- What a copied node is, off the way to the last index that is kept. -/
theorem gz_off {h n kept : Nat} {L : List (Nat × List UInt8)} (g : Gd h L) (hk : kept = min n (2 ^ h)) (hp : 0 < kept) (k p : Nat) (ho : p ≠ (kept - 1) >>> k ∨ k = 0) :
    gz kept L (h + 1) (fun _ => true) k p = nodeO k p (cutS n L) := by
  have h2 : 0 < 2 ^ k := Nat.two_pow_pos k
  have hkn : kept ≤ n := by rw [hk]; exact Nat.min_le_left _ _
  have hkh : kept ≤ 2 ^ h := by rw [hk]; exact Nat.min_le_right _ _
  have hkk : ∀ i, i < n → i < 2 ^ h → i < kept := fun i h1 h2 => by rw [hk]; exact Nat.lt_min.2 ⟨h1, h2⟩
  rw [Nat.shiftRight_eq_div_pow] at ho
  by_cases hc : (p + 1) * 2 ^ k ≤ kept
  · have hkl : k ≤ h := by
      refine Nat.le_of_not_lt fun h3 => ?_
      have h4 : (2 : Nat) ^ h < 2 ^ k := Nat.pow_lt_pow_right (by omega) h3
      have h5 : 1 * 2 ^ k ≤ (p + 1) * 2 ^ k := Nat.mul_le_mul_right _ (by omega)
      omega
    unfold gz gzC
    rw [if_pos ⟨.inl (by omega), decide_eq_true hc⟩]
    refine nodeO_same g.ord (g.ord.cutS n) fun i hi => (getH_cutS ?_).symm
    rw [Nat.shiftRight_eq_div_pow] at hi
    have : i < (p + 1) * 2 ^ k := by
      have := Nat.lt_div_mul_add (a := i) h2
      rw [hi] at this
      rw [Nat.add_mul, Nat.one_mul]
      exact this
    omega
  · unfold gz gzC
    rw [if_neg (fun h => hc (of_decide_eq_true h.2))]
    have hge : kept ≤ p * 2 ^ k := by
      rcases ho with ho | ho
      · rcases Nat.lt_or_gt_of_ne ho with h3 | h3
        · exfalso
          have h4 : (p + 1) * 2 ^ k ≤ kept - 1 := (Nat.le_div_iff_mul_le h2).1 h3
          omega
        · have h4 : kept - 1 < p * 2 ^ k := (Nat.div_lt_iff_lt_mul h2).1 h3
          omega
      · subst ho
        simp at hc ⊢
        omega
    refine Classical.byContradiction fun hne => ?_
    obtain ⟨y, hy⟩ : ∃ y, nodeO k p (cutS n L) = some y := by
      cases e : nodeO k p (cutS n L) with
      | none => exact absurd e.symm hne
      | some y => exact ⟨y, rfl⟩
    obtain ⟨-, q, hq, hqp⟩ := nodeO_some hy
    obtain ⟨h5, h6⟩ := mem_cutS hq
    have h7 := hkk q.1 h6 (g.lt q h5)
    rw [Nat.shiftRight_eq_div_pow] at hqp
    have : p * 2 ^ k ≤ q.1 := by
      rw [← hqp]
      exact Nat.div_mul_le_self _ _
    omega
/-- Joined anew above the last index that is kept, the copied nodes are those of the tree of the other size. -/
theorem rehG_gz {h n kept : Nat} {L : List (Nat × List UInt8)} (g : Gd h L) (hk : kept = min n (2 ^ h)) (hp : 0 < kept) (hs : kept ≤ 4294967296) : ∀ l k p, rehG (kept - 1) (gz kept L (h + 1) (fun _ => true)) l k p = if k ≤ l then nodeO k p (cutS n L) else gz kept L (h + 1) (fun _ => true) k p := by
  intro l
  induction l with
  | zero =>
    intro k p
    rw [rehG_zero]
    by_cases e : k ≤ 0
    · rw [if_pos e, gz_off g hk hp k p (.inr (by omega))]
    · rw [if_neg e]
  | succ l ih =>
    intro k p
    rw [rehG_succ]
    unfold updL
    by_cases e : k = l + 1
    · subst e
      rw [if_pos rfl, if_pos (Nat.le_refl _)]
      unfold updN
      by_cases e2 : p = (kept - 1) >>> (l + 1)
      · rw [if_pos e2, ih, ih, if_pos (Nat.le_refl _), if_pos (Nat.le_refl _), e2, ← nodeO_join l _ (shr_half2 (by omega))]
      · rw [if_neg e2, ih, if_neg (by omega), gz_off g hk hp (l + 1) p (.inl e2)]
    · rw [if_neg e, ih]
      by_cases e2 : k ≤ l
      · rw [if_pos e2, if_pos (by omega)]
      · rw [if_neg e2, if_neg (by omega)]
end Go.Proofs.YthkbmpocfpbkoaaDoor

namespace Go.Proofs.YthkbmpocfpbkoaaDoor
open Go.RowKit

/-- A table of bits of bytes. -/
def okTab (s : ByteArray) : Bool := (List.range 256).all fun n => match s[n]? with
  | some b => decide (n < 2 ^ b.toNat) && (b.toNat == 0 || decide (2 ^ (b.toNat - 1) ≤ n)) && decide (b.toNat ≤ 8)
  | none => false
theorem okTab_at {s : ByteArray} (h : okTab s = true) {n : Nat} (hn : n < 256) : ∃ b : UInt8, s[n]? = some b ∧ n < 2 ^ b.toNat ∧ (b.toNat = 0 ∨ 2 ^ (b.toNat - 1) ≤ n) ∧ b.toNat ≤ 8 := by
  have := List.all_eq_true.1 h n (List.mem_range.2 hn)
  cases e : s[n]? with
  | none => rw [e] at this; cases this
  | some b =>
    rw [e] at this
    simp only [Bool.and_eq_true, decide_eq_true_eq, Bool.or_eq_true, beq_iff_eq] at this
    exact ⟨b, rfl, this.1.1, this.1.2, this.2⟩
theorem highN_bits {v r : Nat} (hv : v < 4294967296) (h1 : v < 2 ^ r) (h2 : r = 0 ∨ 2 ^ (r - 1) ≤ v) : highN (v + 1) = r := by
  obtain ⟨a, -, c⟩ := highN_spec (b := v + 1) (by omega)
  rcases Nat.lt_trichotomy (highN (v + 1)) r with h | h | h
  · exfalso
    rcases h2 with h2 | h2
    · omega
    · have : (2 : Nat) ^ highN (v + 1) ≤ 2 ^ (r - 1) := Nat.pow_le_pow_right (by omega) (by omega)
      omega
  · exact h
  · have := c r h
    omega
theorem bits_up {v x k b : Nat} (hx : x = v >>> k) (h1 : x < 2 ^ b) (h2 : 2 ^ (b - 1) ≤ x) (hb : 0 < b) : v < 2 ^ (k + b) ∧ 2 ^ (k + b - 1) ≤ v := by
  rw [Nat.shiftRight_eq_div_pow] at hx
  have hp : 0 < 2 ^ k := Nat.two_pow_pos k
  constructor
  · have : v / 2 ^ k < 2 ^ b := by omega
    have := (Nat.div_lt_iff_lt_mul hp).1 this
    rwa [← Nat.pow_add, Nat.add_comm b k] at this
  · have : 2 ^ (b - 1) ≤ v / 2 ^ k := by omega
    have := (Nat.le_div_iff_mul_le hp).1 this
    rwa [← Nat.pow_add, show b - 1 + k = k + b - 1 by omega] at this
theorem okTab_get {s : ByteArray} (h : okTab s = true) {n : Nat} (hl : n < s.size) (hn : n < 256) : n < 2 ^ (s[n]'hl).toNat ∧ ((s[n]'hl).toNat = 0 ∨ 2 ^ ((s[n]'hl).toNat - 1) ≤ n) ∧ (s[n]'hl).toNat ≤ 8 := by
  obtain ⟨b, hb, h1, h2, h3⟩ := okTab_at h hn
  have e : s[n]'hl = b := by
    rw [getElem?_pos s n hl] at hb
    exact Option.some.inj hb
  rw [e]
  exact ⟨h1, h2, h3⟩
theorem len_end {s : ByteArray} (ht : okTab s = true) {y : Nat} (hl : y < s.size) (hy : y < 256) {v : Nat} (k : Int) (kn : Nat) (hk : k = kn) (hk2 : kn ≤ 32) (HR : ∀ b : Nat, y < 2 ^ b → (b = 0 ∨ 2 ^ (b - 1) ≤ y) → highN (v + 1) = kn + b) :
    RowKit.wrap64 (k + RowKit.wrap64 ((s[y]'hl).toNat : Int)) = (highN (v + 1) : Int) := by
  obtain ⟨h1, h2, h3⟩ := okTab_get ht hl hy
  rw [HR _ h1 h2, hk]
  unfold RowKit.wrap64
  omega
theorem len_end0 {s : ByteArray} (ht : okTab s = true) {y : Nat} (hl : y < s.size) (hy : y < 256) {v : Nat} (HR : ∀ b : Nat, y < 2 ^ b → (b = 0 ∨ 2 ^ (b - 1) ≤ y) → highN (v + 1) = 0 + b) :
    RowKit.wrap64 (RowKit.wrap64 ((s[y]'hl).toNat : Int)) = (highN (v + 1) : Int) := by
  have := len_end ht hl hy 0 0 rfl (by omega) HR
  rwa [Int.zero_add] at this
set_option maxRecDepth 100000 in
set_option maxHeartbeats 1000000 in
theorem plen64_any (v : Nat) (W : World) (hv : v < 4294967296) :
    Calls Tryd.prog 64 #[.int .u64 (v : Int)] W fun r W' => r = .returned (.int .i64 (highN (v + 1) : Int)) ∧ W' = W := by
  have c0 : decide (4294967296 ≤ (v : Int)) = false := by simp; omega
  have c0n : decide (4294967296 ≤ v) = false := by simp; omega
  have HV := hid hv
  have s16 := show binOp .shr 33 (.int .u64 (v : Int)) (.int .u64 16) = pure (.int .u64 ((v >>> 16 : Nat) : Int)) from shr_u64 33 v 16 .u64 (by omega)
  by_cases h1 : 65536 ≤ v
  · have c1 : decide (65536 ≤ (v : Int)) = true := by simp; omega
    have c1n : decide (65536 ≤ v) = true := by simp; omega
    obtain ⟨x, hx⟩ : ∃ x, x = v >>> 16 := ⟨_, rfl⟩
    have hxb : 1 ≤ x ∧ x < 65536 := by rw [hx, Nat.shiftRight_eq_div_pow]; omega
    rw [← hx] at s16
    have s8 := show binOp .shr 33 (.int .u64 (x : Int)) (.int .u64 8) = pure (.int .u64 ((x >>> 8 : Nat) : Int)) from shr_u64 33 x 8 .u64 (by omega)
    by_cases h2 : 256 ≤ x
    · have c2 : decide (256 ≤ (x : Int)) = true := by simp; omega
      have c2n : decide (256 ≤ x) = true := by simp; omega
      obtain ⟨y, hy⟩ : ∃ y, y = x >>> 8 := ⟨_, rfl⟩
      have hyb : 1 ≤ y ∧ y < 256 := by rw [hy, Nat.shiftRight_eq_div_pow]; omega
      rw [← hy] at s8
      have em : (y : Int) % 256 = (y : Int) := by omega
      have HY := hid hyb.2
      have HR := hid (fun (b : Nat) (p1 : y < 2 ^ b) (p2 : b = 0 ∨ 2 ^ (b - 1) ≤ y) => show highN (v + 1) = 24 + b from by
        have hb : 0 < b := by
          rcases Nat.eq_zero_or_pos b with e | e
          · subst e; simp at p1; omega
          · exact e
        obtain ⟨a1, a2⟩ := bits_up hy p1 (p2.resolve_left (by omega)) hb
        obtain ⟨a3, a4⟩ := bits_up hx a1 a2 (by omega)
        exact highN_bits HV.out (by rwa [show 24 + b = 16 + (8 + b) by omega]) (.inr (by rwa [show 24 + b - 1 = 16 + (8 + b) - 1 by omega])))
      clear h1 h2 hx hxb hy hyb hv
      go_enter Tryd.func64, Tryd.ntmps64
      go_wp2
      go_ret
      exact ⟨congrArg (fun z => Ending.returned (.int .i64 z)) (len_end (by decide +kernel) _ HY.out 24 24 rfl (by omega) HR.out), rfl⟩
    · have c2 : decide (256 ≤ (x : Int)) = false := by simp; omega
      have c2n : decide (256 ≤ x) = false := by simp; omega
      have em : (x : Int) % 256 = (x : Int) := by omega
      have HY := hid (show x < 256 by omega)
      have HR := hid (fun (b : Nat) (p1 : x < 2 ^ b) (p2 : b = 0 ∨ 2 ^ (b - 1) ≤ x) => show highN (v + 1) = 16 + b from by
        have hb : 0 < b := by
          rcases Nat.eq_zero_or_pos b with e | e
          · subst e; simp at p1; omega
          · exact e
        obtain ⟨a3, a4⟩ := bits_up hx p1 (p2.resolve_left (by omega)) hb
        exact highN_bits HV.out a3 (.inr a4))
      clear h1 h2 hx hxb hv
      go_enter Tryd.func64, Tryd.ntmps64
      go_wp2
      go_ret
      exact ⟨congrArg (fun z => Ending.returned (.int .i64 z)) (len_end (by decide +kernel) _ HY.out 16 16 rfl (by omega) HR.out), rfl⟩
  · have c1 : decide (65536 ≤ (v : Int)) = false := by simp; omega
    have c1n : decide (65536 ≤ v) = false := by simp; omega
    have s8 := show binOp .shr 33 (.int .u64 (v : Int)) (.int .u64 8) = pure (.int .u64 ((v >>> 8 : Nat) : Int)) from shr_u64 33 v 8 .u64 (by omega)
    by_cases h2 : 256 ≤ v
    · have c2 : decide (256 ≤ (v : Int)) = true := by simp; omega
      have c2n : decide (256 ≤ v) = true := by simp; omega
      obtain ⟨y, hy⟩ : ∃ y, y = v >>> 8 := ⟨_, rfl⟩
      have hyb : 1 ≤ y ∧ y < 256 := by rw [hy, Nat.shiftRight_eq_div_pow]; omega
      rw [← hy] at s8
      have em : (y : Int) % 256 = (y : Int) := by omega
      have HY := hid hyb.2
      have HR := hid (fun (b : Nat) (p1 : y < 2 ^ b) (p2 : b = 0 ∨ 2 ^ (b - 1) ≤ y) => show highN (v + 1) = 8 + b from by
        have hb : 0 < b := by
          rcases Nat.eq_zero_or_pos b with e | e
          · subst e; simp at p1; omega
          · exact e
        obtain ⟨a1, a2⟩ := bits_up hy p1 (p2.resolve_left (by omega)) hb
        exact highN_bits HV.out a1 (.inr a2))
      clear h1 h2 hy hyb hv
      go_enter Tryd.func64, Tryd.ntmps64
      go_wp2
      go_ret
      exact ⟨congrArg (fun z => Ending.returned (.int .i64 z)) (len_end (by decide +kernel) _ HY.out 8 8 rfl (by omega) HR.out), rfl⟩
    · have c2 : decide (256 ≤ (v : Int)) = false := by simp; omega
      have c2n : decide (256 ≤ v) = false := by simp; omega
      have em : (v : Int) % 256 = (v : Int) := by omega
      have HY := hid (show v < 256 by omega)
      have HR := hid (fun (b : Nat) (p1 : v < 2 ^ b) (p2 : b = 0 ∨ 2 ^ (b - 1) ≤ v) => show highN (v + 1) = 0 + b from by
        exact highN_bits HV.out (by rwa [Nat.zero_add]) (by rwa [Nat.zero_add]))
      clear h1 h2 hv
      go_enter Tryd.func64, Tryd.ntmps64
      go_wp2
      go_ret
      exact ⟨congrArg (fun z => Ending.returned (.int .i64 z)) (len_end0 (by decide +kernel) _ HY.out HR.out), rfl⟩
set_option maxRecDepth 100000 in
set_option maxHeartbeats 1000000 in
theorem pheightN_any (n : Nat) (W : World) (hn : n < 18446744073709551616) :
    Calls Tryd.prog 26 #[.int .u64 (n : Int)] W fun r W' => r = .returned (.tuple #[.int .i64 ((if highOk n then highN n else 0 : Nat) : Int), eB (highOk n)]) ∧ W' = W := by
  have e1 : errV 1 = .iface 47 (.int .i64 1) := rfl
  by_cases h0 : n = 0
  · subst h0
    rw [show highOk 0 = false from rfl, show eB false = errV 1 from rfl, e1]
    clear e1 hn
    go_enter Tryd.func26, Tryd.ntmps26
    go_wp2
    go_ret2
    exact ⟨rfl, rfl⟩
  have c0 : decide ((n : Int) < 1) = false := by simp; omega
  have c0n : decide (n < 1) = false := by simp; omega
  have c0m : decide (n = 0) = false := by simp; omega
  by_cases h1 : 4294967296 < n
  · have c1 : decide (4294967296 < (n : Int)) = true := by simp; omega
    have c1n : decide (4294967296 < n) = true := by simp; omega
    have hk : highOk n = false := by unfold highOk; simp; omega
    rw [hk, show eB false = errV 1 from rfl, e1]
    clear e1 hn h0 h1 hk
    go_enter Tryd.func26, Tryd.ntmps26
    go_wp2
    go_ret2
    exact ⟨rfl, rfl⟩
  · have c1 : decide (4294967296 < (n : Int)) = false := by simp; omega
    have c1n : decide (4294967296 < n) = false := by simp; omega
    have hk : highOk n = true := by unfold highOk; simp; omega
    obtain ⟨m, hm⟩ : ∃ m, m = n - 1 := ⟨_, rfl⟩
    have e2 : (n : Int) - 1 = (m : Int) := by omega
    have ew : IntKind.u64.wrap (m : Int) = (m : Int) := by simp [IntKind.wrap, IntKind.signed, IntKind.bits]; omega
    have HL := hid (fun V => show Calls Tryd.prog 64 #[.int .u64 (m : Int)] V (fun r W' => r = .returned (.int .i64 (highN n : Int)) ∧ W' = V) from by
      have := plen64_any m V (by omega)
      rwa [show m + 1 = n by omega] at this)
    rw [hk, if_pos rfl, show eB true = .nilIface from rfl]
    generalize highN n = r at HL ⊢
    clear e1 hn h0 h1 hk hm
    go_enter Tryd.func26, Tryd.ntmps26
    go_wp2_with (first
      | (go_at_call 64; refine (HL.out _).mono ?_; rintro r1 w1 ⟨rfl, rfl⟩))
    go_ret2
    exact ⟨rfl, rfl⟩
end Go.Proofs.YthkbmpocfpbkoaaDoor

namespace Go.Proofs.YthkbmpocfpbkoaaDoor
open Go.RowKit Go.Maps

theorem shl_u64 (t : TypeId) (a j : Nat) (k : IntKind) (h : a * 2 ^ j < 18446744073709551616) (hj : j ≤ 64) : binOp .shl t (.int .u64 (a : Int)) (.int k (j : Int)) = pure (.int .u64 ((a * 2 ^ j : Nat) : Int)) := by
  simp only [binOp]
  unfold Op.shift
  rw [if_neg (by omega)]
  simp only
  congr 2
  show IntKind.u64.wrap ((a : Int) * 2 ^ (min (j : Int).toNat 64)) = _
  have e : (a : Int) * 2 ^ (min (j : Int).toNat 64) = ((a * 2 ^ j : Nat) : Int) := by
    rw [Int.toNat_natCast, Nat.min_eq_left hj, Int.natCast_mul, Int.natCast_pow]
    rfl
  rw [e, IntKind.wrap_u64]
  omega
/-- A tree of another size in the making. -/
structure RzW (W : World) (b B h : Nat) (mp : Nat → Nat) (L : List (Nat × List UInt8)) (b' B' h' kept : Nat) (mp' : Nat → Nat) (j : Nat) (left : Lit → Bool) (V : World) : Prop where
  x : PtM V b B h L.length mp (fun k p => nodeO k p L)
  y : PtM V b' B' h' L.length mp' (gz kept L j left)
  lo : ∀ q, ownS b' B' h' mp' q → W.heap.size ≤ q
  hi : ∀ q, ownS b B h mp q → q < W.heap.size
  below : Below W.heap.size W V
section
variable {W V V' : World} {b B h b' B' h' kept j r cnt n : Nat} {mp mp' : Nat → Nat} {L : List (Nat × List UInt8)} {left left' : Lit → Bool} {f : Lit → Option (List UInt8)}
theorem RzW.new (k : RzW W b B h mp L b' B' h' kept mp' j left V) (hb : Below V.heap.size V V') : RzW W b B h mp L b' B' h' kept mp' j left V' :=
  ⟨k.x.new hb, k.y.new hb, k.lo, k.hi, k.below.trans (hb.mono k.below.size)⟩
theorem RzW.as (k : RzW W b B h mp L b' B' h' kept mp' j left V) {j' : Nat} (e : gz kept L j left = gz kept L j' left') : RzW W b B h mp L b' B' h' kept mp' j' left' V :=
  ⟨k.x, by rw [← e]; exact k.y, k.lo, k.hi, k.below⟩
theorem RzW.grown (k : RzW W b B h mp L b' B' h' kept mp' j left V) {row : Option Nat} (hg : V.grownBy V' row) (hr : ∀ q, row = some q → W.heap.size ≤ q ∧ ∀ i, ownS b' B' h' mp' i → i ≠ q) : RzW W b B h mp L b' B' h' kept mp' j left V' :=
  ⟨k.x.keep fun q hq => hg.block q (k.x.lt q hq) (fun e => by have := (hr q e.symm).1; have := k.hi q hq; omega), k.y.keep fun q hq => hg.block q (k.y.lt q hq) (fun e => (hr q e.symm).2 q hq rfl), k.lo, k.hi,
    k.below.grown hg k.below.size (fun q hq => (hr q hq).1)⟩
theorem RzW.put (k : RzW W b B h mp L b' B' h' kept mp' j left V) (hy : PtM V' b' B' h' L.length mp' (gz kept L j left')) (hf : Fr (ownS b' B' h' mp') V V') : RzW W b B h mp L b' B' h' kept mp' j left' V' :=
  ⟨k.x.keep fun q hq => hf.block q (k.x.lt q hq) (fun h1 => by have := k.lo q h1; have := k.hi q hq; omega), hy, k.lo, k.hi, k.below.trans (hf.below k.lo k.below.size)⟩
theorem Hrng.put (h1 : Hrng V (mp j) r n f left cnt) (k : RzW W b B h mp L b' B' h' kept mp' j left' V) (hj : j ≤ h) (hf : Fr (ownS b' B' h' mp') V V') (hr : ∀ i, ownS b' B' h' mp' i → i ≠ r) : Hrng V' (mp j) r n f left cnt :=
  h1.same (hf.block _ (k.x.m j hj).lt (fun h2 => by have := k.lo _ h2; have := k.hi _ (Or.inr (Or.inr ⟨j, hj, rfl⟩)); omega)) (hf.block _ h1.lt (fun h2 => hr r h2 rfl))
theorem Hrng.new (h1 : Hrng V (mp j) r n f left cnt) (k : RzW W b B h mp L b' B' h' kept mp' j left' V) (hj : j ≤ h) (hb : Below V.heap.size V V') : Hrng V' (mp j) r n f left cnt :=
  h1.same (hb.block _ (k.x.m j hj).lt) (hb.block _ h1.lt)
end
/-- The place of a node that isn't empty. -/
theorem place_lt {h j p : Nat} {L : List (Nat × List UInt8)} (g : Gd h L) (hj : j ≤ h) {y : List UInt8} (hn : nodeO j p L = some y) : (p + 1) * 2 ^ j ≤ 2 ^ h := by
  obtain ⟨-, q, hq, hqp⟩ := nodeO_some hn
  have h1 := g.lt q hq
  have h2 : 0 < 2 ^ j := Nat.two_pow_pos j
  rw [Nat.shiftRight_eq_div_pow] at hqp
  have h3 : 2 ^ h = 2 ^ (h - j) * 2 ^ j := by rw [← Nat.pow_add, Nat.sub_add_cancel hj]
  rw [h3] at h1 ⊢
  have h4 : p < 2 ^ (h - j) := by rw [← hqp]; exact (Nat.div_lt_iff_lt_mul h2).2 h1
  exact Nat.mul_le_mul_right _ h4
set_option maxRecDepth 100000 in
set_option maxHeartbeats 1000000 in
theorem presize9_no (b : Nat) (W : World) (n : Nat) (hn : n < 18446744073709551616) (hk : highOk n = false) :
    Calls Tryd.prog 28 #[ptr b, .int .u64 (n : Int)] W fun r W' => r = .returned (.tuple #[.pointer none, errV 1]) ∧ W' = W := by
  have e1 : errV 1 = .iface 47 (.int .i64 1) := rfl
  have HH := hid (fun V => show Calls Tryd.prog 26 #[.int .u64 (n : Int)] V (fun r W' => r = .returned (.tuple #[.int .i64 0, .iface 47 (.int .i64 1)]) ∧ W' = V) from by
    have := pheightN_any n V hn
    rw [hk] at this
    exact this)
  rw [e1]
  clear e1 hn hk
  unfold ptr
  go_enter Tryd.func28, Tryd.ntmps28
  go_wp2_with (first
    | (go_at_call 26; refine (HH.out _).mono ?_; rintro r1 w1 ⟨rfl, rfl⟩))
  go_ret2
  exact ⟨rfl, rfl⟩
set_option maxRecDepth 100000 in
set_option maxHeartbeats 4000000 in
theorem presize9_ok {w0 W : World} {b B h : Nat} {mp : Nat → Nat} {L : List (Nat × List UInt8)} (hJ : JoinC w0) (hb0 : Below w0.heap.size w0 W) (gd : Gd h L) (x : PtM W b B h L.length mp (fun k p => nodeO k p L)) (hlen : L.length ≤ 1000) (n : Nat) (hn : n < 18446744073709551616) (hk : highOk n = true) :
    Calls Tryd.prog 28 #[ptr b, .int .u64 (n : Int)] W fun r W' => ∃ B' mp' b', r = .returned (.tuple #[ptr b', .nilIface]) ∧ PtM W' b' B' (highN n) (cutS n L).length mp' (fun k p => nodeO k p (cutS n L)) ∧
      (∀ q, ownS b' B' (highN n) mp' q → W.heap.size ≤ q) ∧ Below W.heap.size W W' := by
  have hn1 : 1 ≤ n ∧ n ≤ 4294967296 := by unfold highOk at hk; simp at hk; omega
  obtain ⟨hs1, hs2, -⟩ := highN_spec hn1.2
  obtain ⟨W0, hW0⟩ : ∃ V, V = W := ⟨_, rfl⟩
  rw [← hW0] at hb0 x ⊢
  clear hW0 W
  obtain ⟨h', hh'⟩ : ∃ k, k = highN n := ⟨_, rfl⟩
  rw [← hh'] at hs1 hs2 ⊢
  obtain ⟨kept, hkept⟩ : ∃ k, k = min n (2 ^ h) := ⟨_, rfl⟩
  have hp2 : (2 : Nat) ^ h ≤ 4294967296 := pow_le32 x.hh
  have hp0 : 0 < 2 ^ h := Nat.two_pow_pos h
  have HK := hid (show 0 < kept ∧ kept ≤ 4294967296 ∧ kept ≤ 2 ^ h' by
    rw [hkept]
    exact ⟨Nat.lt_min.2 ⟨by omega, hp0⟩, Nat.le_trans (Nat.min_le_left _ _) hn1.2, Nat.le_trans (Nat.min_le_left _ _) hs1⟩)
  have HKE := hid hkept
  have HKH := hid (show kept ≤ 2 ^ h by rw [hkept]; exact Nat.min_le_right _ _)
  have HGD := hid gd
  have HX := hid x
  have HJN := hid hJ
  have HB0 := hid hb0
  have HLL1 := hid hlen
  have HH' := hid hs2
  have HNH := hid hs1
  have HHH := hid x.hh
  have HNN := hid hn1
  have HER := hid (show (eRow 33).length = 1056 by rw [eRow_length])
  have HTN := hid (fun V => show Calls Tryd.prog 26 #[.int .u64 (n : Int)] V (fun r W' => r = .returned (.tuple #[.int .i64 (h' : Int), .nilIface]) ∧ W' = V) from by
    have := pheightN_any n V hn
    rw [hk, if_pos rfl, ← hh'] at this
    exact this)
  have HBA := hid (fun V => pbare_any h' V hs2)
  have HHT := hid (fun (V : World) (q : PtM V b B h L.length mp (fun k p => nodeO k p L)) => show Calls Tryd.prog 35 #[.pointer (some ⟨b, 0, none⟩)] V (fun r W' => r = .returned (.int .i64 (h : Int)) ∧ W' = V) from pheight_any q)
  have sh := show binOp .shl 33 (.int .u64 1) (.int .i64 (h : Int)) = pure (.int .u64 ((2 ^ h : Nat) : Int)) from by
    have := shl_u64 33 1 h .i64 (by omega) (by have := x.hh; omega)
    rwa [Nat.one_mul] at this
  obtain ⟨p2, hpp⟩ : ∃ p, p = 2 ^ h := ⟨_, rfl⟩
  rw [← hpp] at sh hkept
  have hmin : ∀ ts ty, Builtin.min_ ts ty #[.int .u64 (n : Int), .int .u64 (p2 : Int)] = pure (.int .u64 (kept : Int)) := fun ts ty => by
    have hm : (if p2 < n then (p2 : Int) else (n : Int)) = ((min n p2 : Nat) : Int) := by split <;> omega
    rw [hkept]
    simp [Builtin.min_, Builtin.min2, hm]
  obtain ⟨nn, hnn⟩ : ∃ m, m = h + 1 := ⟨_, rfl⟩
  have HNE := hid hnn
  have c0 := x.levels
  rw [← hnn] at c0
  clear hn1 hs1 hs2 hb0 hh' hp2 hp0 hkept gd x hJ hlen hn hk hpp hnn
  unfold ptr
  go_enter Tryd.func28, Tryd.ntmps28
  go_wp2_with (first
    | (go_at_call 26; refine (HTN.out _).mono ?_; rintro r1 w1 ⟨rfl, hw⟩; rw [hw]; clear hw)
    | (refine wpList_valW (by rfl) (run_loadAH (.tmp 28) rfl b 1 rfl (eRow 33) HX.out.empties HER.out) ?_)
    | (go_at_call 58; refine (HBA.out W0).mono ?_; rintro r2 w2 ⟨B', mp', b', rfl, y2, l2, hb2⟩; unfold ptr; have K2 := hid (show RzW W0 b B h mp L b' B' h' kept mp' 0 (fun _ => true) w2 from ⟨HX.out.new hb2, by rw [gz_zero]; exact y2.mono (Nat.zero_le _), l2, HX.out.lt, hb2⟩); clear y2 l2 hb2 c0; have c0 := K2.out.x.levels; rw [← HNE.out] at c0)
    | (go_at_call 35; refine (HHT.out w2 K2.out.x).mono ?_; rintro r3 w3 ⟨rfl, hw⟩; rw [hw]; clear hw))
  clear HX c0 hmin sh
  go_loopw [41] (fun v wr => ∃ j : Nat, j ≤ nn ∧ v = .int .i64 (j : Int) ∧ RzW W0 b B h mp L b' B' h' kept mp' j (fun _ => true) wr) (fun v _ => nn - (intOf v).toNat)
  case atStart => exact ⟨0, by omega, rfl, K2.out⟩
  case round =>
    clear K2
    obtain ⟨j, hj, rfl, hX⟩ := hrel
    have HK1 := hid hX
    clear hX
    by_cases hlt : j < nn
    · have hd : decide ((j : Int) < (nn : Int)) = true := by simp; omega
      have ik : (j : Int) < (nn : Int) := by omega
      have hjh : j ≤ h := by have := HNE.out; omega
      obtain ⟨j1, hj1⟩ : ∃ m, m = j + 1 := ⟨_, rfl⟩
      have e2 : (j : Int) + 1 = (j1 : Int) := by omega
      have ew2 : IntKind.i64.wrap (j1 : Int) = (j1 : Int) := by rw [IntKind.wrap_i64] <;> have := HHH.out <;> have := HNE.out <;> omega
      have c1 := HK1.out.x.map hjh
      have HJ := hid hjh
      have HJ1 := hid hj1
      have HJL := hid (show j1 ≤ nn by omega)
      have HMS := hid (show nn - j1 < nn - j by omega)
      have HFI := hid (fun (kl : Lit) (l : List UInt8) (e : lvF (fun p => nodeO j p L) kl = some l) => show ∃ p : Nat, kl = .int .u64 (p : Int) from by
        obtain ⟨p, e1, -⟩ := lvF_some e
        exact ⟨p, e1⟩)
      clear hlt hj hj1 hjh
      go_wp2_with (first
        | (at_range; refine wpList_hmap_range rfl _ rfl rfl (HK1.out.x.m j HJ.out) ?_; intro w3 left cnt hr3 hl3 hg3 hs3; have RG := hid hr3; have K3 := hid (show RzW W0 b B h mp L b' B' h' kept mp' j left w3 from (HK1.out.grown hg3 (fun q hq => (nomatch hq))).as (gz_enter (fun p hp => hl3 p (by rw [lvF_at]; exact hp))).symm); have NR := hid (show ∀ i, ownS b' B' h' mp' i → i ≠ wr.heap.size from fun i hi => Nat.ne_of_lt (HK1.out.y.lt i hi)); have LR := hid HK1.out.below.size; clear hr3 hl3 hg3 hs3)
        | go_in)
      go_frame
      generalize wr.heap.size = r at RG NR LR ⊢
      clear HK1 c1
      go_loopw [48] (fun _ wr => ∃ left cnt, Hrng wr (mp j) r L.length (lvF (fun p => nodeO j p L)) left cnt ∧ RzW W0 b B h mp L b' B' h' kept mp' j left wr) (fun _ wr => wr.rangeLeft (mp j) r)
      case atStart => exact ⟨left, cnt, RG.out, K3.out⟩
      case round =>
        clear RG K3 left cnt
        obtain ⟨left, cnt, hR, hK⟩ := hrel
        have RG := hid hR
        have K3 := hid hK
        clear hR hK
        have HNX := hid (fun (p : Nat) (l : List UInt8) (hf : lvF (fun p => nodeO j p L) (.int .u64 (p : Int)) = some l) => show ∃ p1 s : Nat, p1 = p + 1 ∧ s = p1 * 2 ^ j ∧ s ≤ 4294967296 ∧ p1 ≤ s ∧ (p : Int) + 1 = (p1 : Int) ∧ IntKind.u64.wrap (p1 : Int) = (p1 : Int) ∧ binOp .shl 33 (.int .u64 (p1 : Int)) (.int .i64 (j : Int)) = pure (.int .u64 (s : Int)) ∧ nodeO j p L = some l ∧ l.length = 32 from by
          rw [lvF_at] at hf
          have h1 := place_lt HGD.out HJ.out hf
          have h2 := pow_le32 HHH.out
          have h3 : p + 1 ≤ (p + 1) * 2 ^ j := Nat.le_mul_of_pos_right _ (Nat.two_pow_pos j)
          exact ⟨p + 1, (p + 1) * 2 ^ j, rfl, rfl, by omega, h3, by omega, by rw [IntKind.wrap_u64]; omega, shl_u64 _ _ _ _ (by omega) (by have := HJ.out; have := HHH.out; omega), hf, nodeO_length HGD.out.ok l hf⟩)
        have HAH := hid (fun (o : Oper) (a : Go.Act) (W : World) (h : o.op = .alloc 35) => run_alloc_of (o := o) (a := a) (W := W) _ h _ zeroH8)
        have HNL := hid n32_length
        obtain ⟨m, hm⟩ : ∃ m, m = n32 := ⟨_, rfl⟩
        rw [← hm] at HAH HNL
        clear hm
        have HPU := hid (fun (V : World) (left : Lit → Bool) (p : Nat) (l : List UInt8) (q : PtM V b' B' h' L.length mp' (gz kept L j left)) (hlp : left (.int .u64 (p : Int)) = true) (hc : gzC kept j p = true) (hjh : j ≤ h') (hle : nodeO j p L = some l) (hll : l.length = 32) (V' : World)
            (hm : Hmap V' 33 (mp' j) (L.length + 1) (lvF (updN (gz kept L j left j) p (some l)))) (hg : V.grownBy V' (some (mp' j))) => show PtM V' b' B' h' L.length mp' (gz kept L j (fun z => left z && !z.sameKey (.int .u64 (p : Int)))) from by
          have h2 := q.put hjh p (fun z e => by rw [← Option.some.inj e]; exact hll) hm hg
          rw [← hle, gz_put p hlp hc] at h2
          exact h2.fitz)
        go_wp2_with (first
          | (at_next; refine wpList_hmap_next rfl _ rfl rfl RG.out HFI.out ?_ (fun p l w4 cnt' hf hlp hr4 hc4 hg4 hs4 hen => ?_); rotate_left; have hq := HNX.out p l hf; obtain ⟨p1, s, hp1, hs, hsl, hps, e5, ew5, sh5, hl, hne⟩ := hq; have K4 := hid (K3.out.grown hg4 (fun q hq => by (rw [← Option.some.inj hq]; exact ⟨LR.out, NR.out⟩))); have R4 := hid hr4; have HLP := hid hlp; have HC4 := hid hc4; have HLL := hid hne; have HLE := hid hl; have HPS := hid (show gzC kept j p = decide (s ≤ kept) by unfold gzC; rw [hs, hp1]); have HPB := hid (show p < 18446744073709551616 by omega); have HSB := hid (show 2 ^ j ≤ s by rw [hs]; exact Nat.le_mul_of_pos_left _ (by omega)); clear hf hlp hr4 hc4 hg4 hs4 hl hne hp1 hs hsl hps; (by_cases hsk : s ≤ kept); (have d5 : decide ((s : Int) ≤ (kept : Int)) = true := by simp; omega); (have d5n : decide (s ≤ kept) = true := by simpa using hsk); have HSK := hid hsk; clear hsk; rotate_left; (have d5 : decide ((s : Int) ≤ (kept : Int)) = false := by simp; omega); (have d5n : decide (s ≤ kept) = false := by simpa using hsk); have HSK := hid hsk; clear hsk; rotate_left; intro hl0; have HL0 := hid hl0; clear hl0)
          | (refine Great.wpList_allocTo rfl _ rfl _ _ (HAH.out _ _ _ rfl) ?_)
          | (refine wpList_store_row rfl _ (.tmp 13) (.tmp 52) rfl w4.heap.size (ubs l).toArray rfl rfl 35 (ubs m).toArray (At.new _ _ _) (sizeH_of HLL.out) (by simp [ubs_length, HNL.out, HLL.out]) (ubs_all _) ?_; have hb5 : Below w4.heap.size w4 ((w4.alloc (.cells (ubs m).toArray 35)).setRow w4.heap.size (ubs l).toArray) := below_setRow ((Below.refl _ _).alloc (Nat.le_refl _) _) (Nat.le_refl _) _; have K5 := hid (K4.out.new hb5); have R5 := hid (R4.out.new K4.out HJ.out hb5); have H5 := hid (show At ((w4.alloc (.cells (ubs m).toArray 35)).setRow w4.heap.size (ubs l).toArray) w4.heap.size (ubs l).toArray 35 from setRow_heap _ _ _ _ _ _ (At.new _ _ _)); clear hb5; generalize ((w4.alloc (.cells (ubs m).toArray 35)).setRow w4.heap.size (ubs l).toArray) = w5 at K5 R5 H5 ⊢; generalize w4.heap.size = G at H5 ⊢)
          | (refine wpList_valW (by rfl) (run_loadH (.tmp 13) rfl G 0 rfl l (range_whole H5.out) HLL.out) ?_))
        · exact ⟨⟨j1, HJL.out, rfl, by rw [HJ1.out]; exact K3.out.as (gz_leave HL0.out).symm⟩, by
            show nn - ((j1 : Int)).toNat < nn - ((j : Int)).toNat
            rw [Int.toNat_natCast, Int.toNat_natCast]
            exact HMS.out⟩
        · have HJH := hid (show j ≤ h' from (Nat.pow_le_pow_iff_right (by omega)).1 (Nat.le_trans (Nat.le_trans HSB.out HSK.out) HK.out.2.2))
          obtain ⟨h1, hh1⟩ : ∃ m, m = h' + 1 := ⟨_, rfl⟩
          have i0 : (j : Int) < (h1 : Int) := by have := HJH.out; omega
          have KE := hid (K5.out.new (Below.refl _ _).drew)
          have RE := hid (R5.out.new K5.out HJ.out (Below.refl _ _).drew)
          have HE := hid (show At w5.drew G (ubs l).toArray 35 from H5.out)
          refine wp_region_upto (fun V => V.cell? ⟨b', 0, none⟩ = some (.slice (some ⟨B', 0, none⟩) h1 h1) ∧ V.cell? ⟨B', j, none⟩ = some (.map (some (mp' j))) ∧ V.rangeAt G 0 (ubs l)) 9 10 (by kernel_rfl) (by kernel_rfl) ?_
          generalize w5.drew = V1 at KE RE HE ⊢
          have SE := hid (show V1.cell? ⟨b', 0, none⟩ = some (.slice (some ⟨B', 0, none⟩) h1 h1) ∧ V1.cell? ⟨B', j, none⟩ = some (.map (some (mp' j))) ∧ V1.rangeAt G 0 (ubs l) from ⟨by rw [hh1]; exact KE.out.y.levels, KE.out.y.map HJH.out, range_whole HE.out⟩)
          clear hh1
          refine wpUpto_takeL (i := 0) (v := .pointer (some ⟨b', 0, none⟩)) rfl rfl (by decide +kernel) (by decide +kernel) (by decide +kernel) (by decide +kernel) (by decide) (fun _ _ _ h => h) (Or.inl ⟨by rfl, ?_⟩) SE.out ?_
          · (intro W hSW; go_simp)
          simp only [List.set_cons_succ, List.set_cons_zero]
          refine wpUpto_takeL (i := 1) (v := .pointer (some ⟨b', 0, none⟩)) rfl rfl (by decide +kernel) (by decide +kernel) (by decide +kernel) (by decide +kernel) (by decide) (fun _ _ _ h => h) (Or.inl ⟨by rfl, ?_⟩) SE.out ?_
          · (intro W hSW; go_simp)
          simp only [List.set_cons_succ, List.set_cons_zero]
          refine wpUpto_takeL (i := 2) (v := .pointer (some ⟨b', 0, none⟩)) rfl rfl (by decide +kernel) (by decide +kernel) (by decide +kernel) (by decide +kernel) (by decide) (fun _ _ _ h => h) (Or.inl ⟨by rfl, ?_⟩) SE.out ?_
          · (intro W hSW; go_simp)
          simp only [List.set_cons_succ, List.set_cons_zero]
          refine wpUpto_takeL (i := 3) (v := .slice (some ⟨B', 0, none⟩) h1 h1) rfl rfl (by decide +kernel) (by decide +kernel) (by decide +kernel) (by decide +kernel) (by decide) (fun _ _ _ h => h) (Or.inl ⟨by rfl, ?_⟩) SE.out ?_
          · (intro W hSW; have q0 := hSW.1; go_simp)
          simp only [List.set_cons_succ, List.set_cons_zero]
          refine wpUpto_takeL (i := 4) (v := .int .i64 (j : Int)) rfl rfl (by decide +kernel) (by decide +kernel) (by decide +kernel) (by decide +kernel) (by decide) (fun _ _ _ h => h) (Or.inl ⟨by rfl, ?_⟩) SE.out ?_
          · (intro W hSW; go_simp)
          simp only [List.set_cons_succ, List.set_cons_zero]
          refine wpUpto_takeL (i := 5) (v := .pointer (some ⟨B', j, none⟩)) rfl rfl (by decide +kernel) (by decide +kernel) (by decide +kernel) (by decide +kernel) (by decide) (fun _ _ _ h => h) (Or.inl ⟨by rfl, ?_⟩) SE.out ?_
          · (intro W hSW; go_simp)
          simp only [List.set_cons_succ, List.set_cons_zero]
          refine wpUpto_takeL (i := 6) (v := .map (some (mp' j))) rfl rfl (by decide +kernel) (by decide +kernel) (by decide +kernel) (by decide +kernel) (by decide) (fun _ _ _ h => h) (Or.inl ⟨by rfl, ?_⟩) SE.out ?_
          · (intro W hSW; have q0 := hSW.2.1; go_simp)
          simp only [List.set_cons_succ, List.set_cons_zero]
          refine wpUpto_takeL (i := 7) (v := .int .u64 (p : Int)) rfl rfl (by decide +kernel) (by decide +kernel) (by decide +kernel) (by decide +kernel) (by decide) (fun _ _ _ h => h) (Or.inl ⟨by rfl, ?_⟩) SE.out ?_
          · (intro W hSW; go_simp)
          simp only [List.set_cons_succ, List.set_cons_zero]
          refine wpUpto_takeL (i := 8) (v := .agg (ubs l).toArray) rfl rfl (by decide +kernel) (by decide +kernel) (by decide +kernel) (by decide +kernel) (by decide) (fun _ _ _ h => h) (Or.inl ⟨by rfl, ?_⟩) SE.out ?_
          · (intro W hSW; exact run_loadH (.tmp 13) rfl G 0 rfl l hSW.2.2 HLL.out)
          simp only [List.set_cons_succ, List.set_cons_zero]
          refine wpUpto_one (i := 9) rfl (by decide +kernel) rfl ?_
          intro Q0 hQ0
          refine wp_hmap_put _ _ _ rfl rfl (KE.out.y.m j HJH.out) (by have := HLL1.out; unfold maxLen; omega) p l rfl HPB.out rfl HLL.out (lvF (updN (gz kept L j left j) p (some l))) (lvF_same _ _ _) (fun z hz => lvF_other _ _ _ z hz) ?_
          intro w6 hm6 hg6
          have Y6 := HPU.out V1 left p l KE.out.y HLP.out (HPS.out.trans d5n) HJH.out HLE.out HLL.out w6 hm6 hg6
          have F6 : Fr (ownS b' B' h' mp') V1 w6 := (Fr.refl _ _).grown hg6 (fun q hq => .inr (by rw [← Option.some.inj hq]; exact Or.inr (Or.inr ⟨j, HJH.out, rfl⟩)))
          have K6 := hid (KE.out.put Y6 F6)
          have R6 := hid (RE.out.put KE.out HJ.out F6 NR.out)
          clear hm6 hg6 Y6 F6
          refine hQ0.out _ _ (fun h => absurd rfl h) ?_
          clear hQ0 Q0
          try simp only [Act.put, List.setIfInBounds_toArray]
          refine wpUpto_done (by decide +kernel) ?_ _
          go_simp
          go_wp2
          exact ⟨⟨_, cnt', R6.out, K6.out⟩, by rw [R6.out.left_eq, RG.out.left_eq]; exact HC4.out⟩
        · exact ⟨⟨_, cnt', R5.out, K5.out.as (gz_skip p (HPS.out.trans d5n))⟩, by rw [R5.out.left_eq, RG.out.left_eq]; exact HC4.out⟩
    · obtain rfl : j = nn := by omega
      have hd : decide ((j : Int) < (j : Int)) = false := by simp
      obtain ⟨kd, hkd⟩ : ∃ m, m = kept - 1 := ⟨_, rfl⟩
      have e7 : (kept : Int) - 1 = (kd : Int) := by have := HK.out.1; omega
      have ew7 : IntKind.u64.wrap (kd : Int) = (kd : Int) := by rw [IntKind.wrap_u64] <;> have := HK.out <;> omega
      have HRE := hid (show Calls Tryd.prog 65 #[.pointer (some ⟨b', 0, none⟩), .int .u64 (kd : Int)] wr (fun r W' => r = .returned (.tuple #[]) ∧ PtM W' b' B' h' (cutS n L).length mp' (fun k p => nodeO k p (cutS n L)) ∧ Fr (ownS b' B' h' mp') wr W') from by
        have h1 := prehash_any HJN.out (HB0.out.trans (HK1.out.below.mono HB0.out.size)) (fun q hq => Nat.le_trans HB0.out.size (HK1.out.lo q hq)) HK1.out.y kd (by have := HK.out; omega) (by have := HLL1.out; omega)
        refine h1.mono fun r W' ⟨h1, h2, h3⟩ => ⟨h1, ?_, h3⟩
        have e8 : ∀ k, k ≤ h' → ∀ p, rehG kd (gz kept L j (fun _ => true)) h' k p = nodeO k p (cutS n L) := fun k hk p => by
          rw [hkd, HNE.out, rehG_gz HGD.out HKE.out HK.out.1 HK.out.2.1 h' k p, if_pos hk]
        exact (h2.congr e8 (fun k p => nodeO_length (HGD.out.ok.cutS n))).fit)
      have HLO := hid HK1.out.lo
      have HBE := hid HK1.out.below
      clear hkd hlt hj
      go_wp2_with (first
        | (go_at_call 65; refine HRE.out.mono ?_; rintro r8 w8 ⟨rfl, y8, f8⟩; have Y8 := hid y8; have F8 := hid f8; clear y8 f8))
      go_ret2
      exact ⟨B', mp', b', rfl, Y8.out, HLO.out, HBE.out.trans (F8.out.below HLO.out HBE.out.size)⟩
end Go.Proofs.YthkbmpocfpbkoaaDoor
