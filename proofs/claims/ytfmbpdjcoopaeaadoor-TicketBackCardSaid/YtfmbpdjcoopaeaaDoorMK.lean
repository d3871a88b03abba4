/-
  Layer 13, the program's side: an order read.
  Layer 13, the program's side: a ticket read, and parsed.
  Layer 13, the program's side: a ticket parsed.
-/
import Derived.Test.YtfmbpdjcoopaeaaDoorMJ
import Derived.Test.YtfmbpdjcoopaeaaDoorMD
import Derived.Test.YtfmbpdjcoopaeaaDoorP6
namespace Go.Proofs.YtfmbpdjcoopaeaaDoor
open Go.RowKit

/-- Sealed blocks, one behind the other, as the program reads them. -/
def rdSl : Nat → Rs → List Sl13 × Rs
  | 0, s => ([], s)
  | j + 1, s => ((rdSl j s).1 ++ [(slP (rdSl j s).2).1], (slP (rdSl j s).2).2)
theorem rdSl_length (j : Nat) (s : Rs) : (rdSl j s).1.length = j := by
  induction j with
  | zero => rfl
  | succ j ih => rw [rdSl, List.length_append, ih]; rfl
theorem rdSl_ok (j : Nat) (s : Rs) : ∀ x ∈ (rdSl j s).1, okS x := by
  induction j with
  | zero => intro x hx; cases hx
  | succ j ih =>
    intro x hx
    rw [rdSl, List.mem_append] at hx
    rcases hx with hx | hx
    · exact ih x hx
    · rw [List.mem_singleton.1 hx]
      exact slP_oks _
theorem Lp2.all {bs : List UInt8} {p e n : Nat} {l : List Nat} {s : Rs} (h : Lp2 bs p e n l 0 [] s) : ∀ j, j ≤ n + 1 → Lp2 bs p e n l j (rdSl j s).1 (rdSl j s).2 := by
  intro j
  induction j with
  | zero => intro _; exact h
  | succ j ih => intro hj; exact (ih (by omega)).nextP (by omega)
theorem tkS_ge (n : Nat) (s : Rs) : (tkS n s).2.2.length ≤ s.2.length := by
  unfold tkS
  split
  · split
    · rw [List.length_drop]; omega
    · exact Nat.le_refl _
  · exact Nat.le_refl _
theorem nmS_le (n : Nat) (s : Rs) : (nmS n s).2.2.length ≤ s.2.length := tkS_ge n s
theorem slP_le (s : Rs) : (slP s).2.2.length ≤ s.2.length := by
  obtain ⟨k, bs⟩ := s
  by_cases hk : k = 0
  · subst hk
    by_cases h : 56 ≤ bs.length
    · rw [slP_ok h, slS_whole h]
      show (bs.drop 56).length ≤ bs.length
      rw [List.length_drop]; omega
    · rw [slP_bad h]
      exact Nat.le_refl _
  · rw [slP_done (s := (k, bs)) hk]
    exact Nat.le_refl _
theorem rdN_le (j : Nat) (s : Rs) : (rdN j s).2.2.length ≤ s.2.length := by
  induction j with
  | zero => exact Nat.le_refl _
  | succ j ih => exact Nat.le_trans (nmS_le 4 _) ih
theorem rdSl_le (j : Nat) (s : Rs) : (rdSl j s).2.2.length ≤ s.2.length := by
  induction j with
  | zero => exact Nat.le_refl _
  | succ j ih => exact Nat.le_trans (slP_le _) ih
/-- The order that the program reads behind its kind, and the reader then. -/
def rdOb (k : Nat) (s : Rs) : Ord13 × Rs :=
  if k = 1 then (⟨1, (rdN ((nmS 1 s).1 + 1) (nmS 1 s).2).1, (rdSl ((nmS 1 s).1 + 1) (rdN ((nmS 1 s).1 + 1) (nmS 1 s).2).2).1, 0⟩, (rdSl ((nmS 1 s).1 + 1) (rdN ((nmS 1 s).1 + 1) (nmS 1 s).2).2).2)
  else if k = 2 then (⟨2, (rdN ((nmS 1 s).1 + 1) (nmS 1 s).2).1, [], 0⟩, (rdN ((nmS 1 s).1 + 1) (nmS 1 s).2).2)
  else if k = 3 then (⟨3, [], [], (nmS 8 s).1⟩, (nmS 8 s).2)
  else (⟨(k : Int), [], [], 0⟩, s)
def rdOP (s : Rs) : Ord13 × Rs := rdOb (nmS 1 s).1 (nmS 1 s).2
theorem rdOb_kind (k : Nat) (s : Rs) : (rdOb k s).1.kind = (k : Int) := by
  unfold rdOb
  split
  · rename_i h; rw [h]; rfl
  · split
    · rename_i h; rw [h]; rfl
    · split
      · rename_i h; rw [h]; rfl
      · rfl
theorem rdOb_rdB {bs : List UInt8} {p e k : Nat} {s : Rs} (h : RdA bs p e k s) : RdB bs p e k ((rdOb k s).1.idx, (rdOb k s).1.sl, (rdOb k s).1.blocks) (rdOb k s).2 := by
  unfold rdOb
  by_cases h1 : k = 1
  · subst h1
    rw [if_pos rfl]
    have h2 := ((h.list (.inl rfl)).all (.inl rfl) _ (Nat.le_refl _)).one (fun _ => rfl)
    exact (h2.all _ (Nat.le_refl _)).done (fun _ => rfl)
  · rw [if_neg h1]
    by_cases h2 : k = 2
    · subst h2
      rw [if_pos rfl]
      exact ((h.list (.inr rfl)).all (.inr rfl) _ (Nat.le_refl _)).two (fun _ => rfl)
    · rw [if_neg h2]
      by_cases h3 : k = 3
      · subst h3
        rw [if_pos rfl]
        exact h.three
      · rw [if_neg h3]
        exact h.none h3 h1 h2
theorem rdOb_ok (k : Nat) (s : Rs) : okO (rdOb k s).1 ∧ (rdOb k s).1.idx.length ≤ (nmS 1 s).1 + 1 ∧ (rdOb k s).1.sl.length ≤ (nmS 1 s).1 + 1 ∧ (rdOb k s).2.2.length ≤ s.2.length := by
  have n0 : ∀ x ∈ ([] : List Nat), x < 18446744073709551616 := fun _ h => nomatch h
  have s0 : ∀ x ∈ ([] : List Sl13), okS x := fun _ h => nomatch h
  have hl := Nat.le_trans (rdN_le ((nmS 1 s).1 + 1) (nmS 1 s).2) (nmS_le 1 s)
  have hx : ∀ x ∈ (rdN ((nmS 1 s).1 + 1) (nmS 1 s).2).1, x < 18446744073709551616 := fun x hx => by have := rdN_lt _ _ x hx; omega
  unfold rdOb
  split
  · exact ⟨⟨hx, rdSl_ok _ _, by show (0 : Nat) < _; decide⟩, by show _ ≤ _; rw [rdN_length]; exact Nat.le_refl _, by show _ ≤ _; rw [rdSl_length]; exact Nat.le_refl _, Nat.le_trans (rdSl_le _ _) hl⟩
  · split
    · exact ⟨⟨hx, s0, by show (0 : Nat) < _; decide⟩, by show _ ≤ _; rw [rdN_length]; exact Nat.le_refl _, by simp, hl⟩
    · split
      · exact ⟨⟨n0, s0, by have := nmS_lt 8 s; show (nmS 8 s).1 < _; omega⟩, by simp, by simp, nmS_le 8 s⟩
      · exact ⟨⟨n0, s0, by show (0 : Nat) < _; decide⟩, by simp, by simp, Nat.le_refl _⟩
theorem fillPs13 (x : List Value) (hl : x.length = 49) : Instr.fill (fun i => some (i * 49, 49)) ((Array.range (1 * 49)).map ((Value.agg (sv 0 n32 n16).toArray).cells[· % (Value.agg (sv 0 n32 n16).toArray).cells.size]!)) [(0, .agg x.toArray)] = some x.toArray := fillSv13 x hl
theorem run_buildPs13 {o : Oper} {a : Go.Act} {W : World} (x : Operand) (ho : o.op = .buildSlice 91 1 #[(0, x)]) (p : List Value) (hl : p.length = 49) (hx : a.eval x = .agg p.toArray) :
    (execOp a.eval o).run Tryd.prog W = .ok (.value (.slice (some ⟨W.heap.size, 0, none⟩) 1 1)) (W.alloc (.cells p.toArray 37)) := by
  obtain ⟨ie, hie, hz, hs, -⟩ := infoPs13_parts
  unfold execOp
  simp only [ho, Sem.run_bind]
  rw [run_buildSlice W _ _ 1 _ p.toArray ie _ Tryd.underlying91 hie hz (by rw [hs]; decide) (by rw [hs]; decide) (by rw [hs]; simpa [hx] using fillPs13 p hl)]
  rfl
theorem Aps.lt {W : World} {base : Nat} {v : Value} {l : List Sl13} (h : Aps W base v l) : ∀ k, v.ownBlock = some k → base ≤ k ∧ k < W.heap.size := World.ownsRow.lt h
theorem wp_append_ps13 {o : Oper} {a : Go.Act} {W : World} {K : Go.Act → World → Prop} {Q : Exit → Go.Act → World → Prop} (d : Tmp) (hd : o.dst = some d) (s x : Operand)
    (ho : o.op = .call { callee := .builtin .append, args := #[s, x], argTypes := #[91, 91] })
    (base : Nat) (v : Value) (l : List Sl13) (hs : a.eval s = v) (hown : Aps W base v l) (q : Nat) (p : Sl13) (hx : a.eval x = .slice (some ⟨q, 0, none⟩) 1 1) (hq : At W q (slV p).toArray 37) (hp : okS p) (hl : l.length ≤ 100000) (hbase : base ≤ W.heap.size)
    (h : ∀ A c w', Aps w' base (.slice A (l ++ [p]).length c) (l ++ [p]) → W.grownBy w' v.ownBlock → K (a.put (some d) (.slice A (l ++ [p]).length c)) w') :
    o.wp Tryd.prog a W K Q := by
  rw [← hd] at h
  obtain ⟨i, hi, hz, hsz, hby⟩ := infoPs13_parts
  obtain ⟨v', w', hr, h2, h3, -, -⟩ := run_append_own_at (P := Tryd.prog) W base 91 o.type 37 i _ 49 56 Tryd.underlying91 hi hz hsz hby (by show (sv 0 n32 n16).toArray.size = 49; rw [List.size_toArray]; exact sv_length 0 n32 n16 n32_length n16_length) (by omega) v l.length (slR l) hown ⟨q, 0, none⟩ 1 1 (slV p) (by rw [slV_length hp])
    (fun j u hu => by rw [add_plain, Nat.zero_add, hq.cell j, List.getElem?_toArray]; exact hu) (slV_one p) (by unfold maxLen; omega) (by omega) hbase
  have h6 : Aps w' base v' (l ++ [p]) := by
    unfold Aps
    rw [slR_append, slR_one, List.length_append]
    exact h2
  obtain ⟨A, c, rfl⟩ := h6.form
  unfold Oper.wp execOp
  simp only [ho, resolve, invoke, builtin, Sem.run_bind, Sem.run_pure, Result.andThen_ok, List.map_toArray, List.map_cons, List.map_nil, hs, hx, hr]
  exact h A c w' h6 h3
theorem built_po1 (k : Int) : Tryd.prog.built 93 [(0, .int .i64 k)] = some (ordV ⟨k, [], [], 0⟩ none none 0 0).toArray := by kernel_rfl
theorem run_build_po1 {o : Oper} {a : Go.Act} {W : World} (x : Operand) (ho : o.op = .build 93 #[(0, x)]) (k : Int) (hx : a.eval x = .int .i64 k) : (execOp a.eval o).run Tryd.prog W = .ok (.value (.agg (ordV ⟨k, [], [], 0⟩ none none 0 0).toArray)) W :=
  run_build_of _ _ ho _ (by
    rw [← built_po1 k]
    simp [hx])
theorem po_stored (w : World) (T : List Value) : At ((w.alloc (.cells (ordV ord0 none none 0 0).toArray 93)).setRow w.heap.size T.toArray) w.heap.size T.toArray 93 := setRow_heap _ _ (ordV ord0 none none 0 0).toArray _ _ _ (At.new _ _ _)
theorem po_stored_below (w : World) (T : List Value) : Below w.heap.size w ((w.alloc (.cells (ordV ord0 none none 0 0).toArray 93)).setRow w.heap.size T.toArray) := below_setRow ((Below.refl _ _).alloc (Nat.le_refl _) _) (Nat.le_refl _) _
/-- What readOrder has in memory. -/
structure RoW (w : World) (base : Nat → Prop) (p X : Nat) (C : List Value) (s : Rs) (V : World) : Prop where
  r : RT V (fun g => base g ∧ g < w.heap.size) p s
  z : At V w.heap.size (ordV ord0 none none 0 0).toArray 93
  x : At V X C.toArray 93
  f : Fr (Only p) w V
  far : w.heap.size < X
section
variable {w V V' : World} {base : Nat → Prop} {p X : Nat} {C : List Value} {s s' : Rs}
theorem RoW.read (k : RoW w base p X C s V) (hr : RT V' (fun g => base g ∧ g < w.heap.size) p s') (hf : Fr (Only p) V V') : RoW w base p X C s' V' := by
  have hp : p < w.heap.size := hr.low.2
  have hX := k.far
  exact ⟨hr, k.z.fr hf (fun c => by have h1 : w.heap.size = p := c; omega), k.x.fr hf (fun c => by have h1 : X = p := c; omega), k.f.trans hf, hX⟩
theorem RoW.new (k : RoW w base p X C s V) (hb : Below V.heap.size V V') : RoW w base p X C s V' := ⟨k.r.new hb, k.z.new_ hb, k.x.new_ hb, k.f.trans (Fr.of_new hb), k.far⟩
theorem RoW.put (k : RoW w base p X C s V) (i : Nat) (v : Value) : RoW w base p X (C.set i v) s (V.setCell ⟨X, i, none⟩ v) := by
  have hX := k.far
  refine ⟨k.r.fr ((Fr.refl (fun g => g = X) V).setCell (p := ⟨X, i, none⟩) (.inr rfl) _) (fun g hg c => by have h1 : base g ∧ g < w.heap.size := hg; have h2 : g = X := c; omega), far_setVals k.z (by omega) i [v], at_setVals k.x i [v], k.f.setCell (.inl (by show w.heap.size ≤ X; omega)) _, hX⟩
theorem RoW.grown (k : RoW w base p X C s V) {row : Option Nat} (hg : V.grownBy V' row) (hr : ∀ g, row = some g → X < g) : RoW w base p X C s V' := by
  have hX := k.far
  have hF : Fr (fun g => row = some g) V V' := (Fr.refl _ V).grown hg (fun g e => .inr e)
  exact ⟨k.r.fr hF (fun g hg' c => by have h1 : base g ∧ g < w.heap.size := hg'; have := hr g c; omega), k.z.fr hF (fun c => by have := hr _ c; omega), k.x.fr hF (fun c => by have := hr _ c; omega), k.f.grown hg (fun g e => .inl (by have := hr g e; omega)), hX⟩
end
set_option maxRecDepth 100000 in
set_option maxHeartbeats 4000000 in
theorem prdo_none (base : Nat → Prop) (p : Nat) (s : Rs) (w : World) (h : RT w base p s) (hl : s.2.length ≤ 1000000000) (h1 : (nmS 1 s).1 ≠ 1) (h2 : (nmS 1 s).1 ≠ 2) (h3 : (nmS 1 s).1 ≠ 3) :
    Calls Tryd.prog 130 #[.pointer (some ⟨p, 0, none⟩)] w fun r w' => ∃ A1 A2 c1 c2, r = .returned (.agg (ordV (rdOP s).1 A1 A2 c1 c2).toArray) ∧ Lst13 w' w.heap.size w'.heap.size (rdOP s).1 A1 A2 c1 c2 ∧ RT w' base p (rdOP s).2 ∧ Fr (Only p) w w' := by
  have hlt := nmS_lt 1 s
  have hle := nmS_le 1 s
  have HN1 := hid (show Calls Tryd.prog 129 #[.pointer (some ⟨p, 0, none⟩), .int .i64 1] (w.alloc (.cells (ordV ord0 none none 0 0).toArray 93)) (fun e w' => e = .returned (.int .u64 ((nmS 1 s).1 : Nat)) ∧ RT w' (fun g => base g ∧ g < w.heap.size) p (nmS 1 s).2 ∧ At w' w.heap.size (ordV ord0 none none 0 0).toArray 93 ∧ Fr (Only p) w w' ∧ w.heap.size + 1 ≤ w'.heap.size) from by
    have h0 : RT (w.alloc (.cells (ordV ord0 none none 0 0).toArray 93)) (fun g => base g ∧ g < w.heap.size) p s := h.old.new ((Below.refl _ _).alloc (Nat.le_refl _) _)
    refine (rt_num _ p 1 s (by unfold Sz; omega) _ h0).mono ?_
    rintro e w' ⟨rfl, h1, h2⟩
    have hp : p < w.heap.size := h1.low.2
    exact ⟨rfl, h1, (At.new _ _ _).fr h2 (fun c => by have h3 : w.heap.size = p := c; omega), ((Fr.refl _ w).alloc _).trans h2, by have := h2.size; simpa using this⟩)
  have HRO := hid (show rdOP s = rdOb (nmS 1 s).1 (nmS 1 s).2 from rfl)
  rw [HRO.out]
  obtain ⟨k, hke⟩ : ∃ x, x = (nmS 1 s).1 := ⟨_, rfl⟩
  obtain ⟨s1, hs1⟩ : ∃ x, x = (nmS 1 s).2 := ⟨_, rfl⟩
  rw [← hke] at hlt
  rw [← hs1] at hle
  rw [← hke, ← hs1] at HN1 ⊢
  have ek0 : RowKit.wrap64 (k : Int) = (k : Int) := by unfold RowKit.wrap64; omega
  have ek1 : IntKind.i64.wrap (k : Int) = (k : Int) := by rw [IntKind.wrap_i64] <;> omega
  have HAO := hid (fun (o : Oper) (a : Go.Act) (W : World) (h : o.op = .alloc 93) => run_alloc_of (o := o) (a := a) (W := W) _ h (ordV ord0 none none 0 0).toArray zeroPO13)
  have HSL := hid (show s1.2.length ≤ 1000000000 by omega)
  obtain ⟨C0, hC0⟩ : ∃ C, C = ordV ⟨(k : Int), [], [], 0⟩ none none 0 0 := ⟨_, rfl⟩
  have HC0L := hid (show C0.length = 4 by rw [hC0]; rfl)
  have HC0A := hid (show C0.toArray.all (·.oneCell') = true by rw [hC0]; exact ordV_all _ _ _ _ _)
  have HC0E := hid hC0
  have HB1 := hid (fun (o : Oper) (a : Go.Act) (W : World) (x : Operand) (ho : o.op = .build 93 #[(0, x)]) (hx : a.eval x = .int .i64 (k : Int)) => show (execOp a.eval o).run Tryd.prog W = .ok (.value (.agg C0.toArray)) W from by rw [hC0]; exact run_build_po1 x ho (k : Int) hx)
  have HND := hid (show (ordV ord0 none none 0 0).length = 4 from rfl)
  rw [← hke] at h1 h2 h3
  have hre : rdOb k s1 = (⟨(k : Int), [], [], 0⟩, s1) := by unfold rdOb; rw [if_neg h1, if_neg h2, if_neg h3]
  rw [hre]
  have g1 : decide ((k : Int) = 1) = false := by simp; omega
  have g1b : ((k : Int) == 1) = false := by simp; omega
  have g1c : decide (k = 1) = false := by simp; omega
  have g1d : (k == 1) = false := by simp; omega
  have g2 : decide ((k : Int) = 2) = false := by simp; omega
  have g2b : ((k : Int) == 2) = false := by simp; omega
  have g2c : decide (k = 2) = false := by simp; omega
  have g2d : (k == 2) = false := by simp; omega
  have g3 : decide ((k : Int) = 3) = false := by simp; omega
  have g3b : ((k : Int) == 3) = false := by simp; omega
  have g3c : decide (k = 3) = false := by simp; omega
  have g3d : (k == 3) = false := by simp; omega
  clear h hl hlt hle hke hs1 hC0 h1 h2 h3 hre HRO
  go_enter Tryd.func130, Tryd.ntmps130
  go_upto_region 2 with (first
    | (refine Great.wpList_allocTo rfl _ rfl _ _ (HAO.out _ _ _ rfl) ?_)
    | (go_at_call 129; refine HN1.out.mono ?_; rintro e1 w1 ⟨rfl, h1, h2, h3, h4⟩; have R1 := hid h1; have Z1 := hid h2; have F1 := hid h3; have S1 := hid h4; clear h1 h2 h3 h4)
    | (refine wpList_valW (by rfl) (HB1.out _ _ _ (.tmp 6) rfl rfl) ?_)
    | (refine wpList_store_row rfl _ (.tmp 3) (.tmp 7) rfl w1.heap.size C0.toArray rfl rfl 93 (ordV ord0 none none 0 0).toArray (heap_alloc_new _ _) (sizePO_of HC0L.out) ?e1 HC0A.out ?e2; rotate_right))
  case e1 => first | (rw [List.size_toArray, List.size_toArray, HC0L.out]; rfl) | (rw [List.size_toArray, HC0L.out]; rfl) | (rw [HC0L.out]; rfl)
  have K2 := hid (show RoW w base p w1.heap.size C0 s1 ((w1.alloc (.cells (ordV ord0 none none 0 0).toArray 93)).setRow w1.heap.size C0.toArray) from
    ⟨R1.out.new (po_stored_below w1 C0), Z1.out.new_ (po_stored_below w1 C0), po_stored w1 C0, F1.out.trans (Fr.of_new (po_stored_below w1 C0)), S1.out⟩)
  generalize ((w1.alloc (.cells (ordV ord0 none none 0 0).toArray 93)).setRow w1.heap.size C0.toArray) = w2 at K2 ⊢
  generalize w1.heap.size = X at K2 ⊢
  clear HN1 HB1 R1 Z1 F1 S1 ek0 ek1 HAO
  obtain ⟨c0, c1, c2, c3⟩ := ordV_cells (o := ⟨(k : Int), [], [], 0⟩) (T := 93) (AI := none) (AS := none) (cI := 0) (cS := 0) (g := X) (W := w2) (by have := K2.out.x; rw [HC0E.out] at this; exact this)
  have y1 := K2.out.x.frozen 1
  have y3 := K2.out.x.frozen 3
  have HCL := HC0L
  have HCA := HC0A
  go_wp2_with (first
    | (refine wpList_valW (by rfl) (run_loadPO (.tmp 3) rfl X 0 rfl C0 (range_all K2.out.x) HCL.out) ?_; try simp only [Act.put, List.setIfInBounds_toArray, List.set_cons_succ, List.set_cons_zero])
    | (refine wpList_store_row rfl _ (.tmp 2) (.tmp 38) rfl w.heap.size C0.toArray rfl rfl 93 (ordV ord0 none none 0 0).toArray K2.out.z (sizePO_of HCL.out) ?e7 HCA.out ?e8; rotate_right))
  case e7 => first | (rw [List.size_toArray, List.size_toArray, HCL.out]; rfl) | (rw [List.size_toArray, HCL.out]; rfl) | (rw [HCL.out]; rfl)
  refine bodyPost_ret (results_cell_row rfl _ _ w.heap.size 93 C0.toArray (0, 0) _ rfl (setRow_heap _ _ _ _ _ _ K2.out.z) Tryd.underlying93 rfl (sizePO_of HCL.out)) rfl ?_
  have hX := K2.out.far
  have hRT : RT (w2.setRow w.heap.size C0.toArray) base p s1 := (K2.out.r.fr ((Fr.refl (fun g => g = w.heap.size) w2).setRow (.inr rfl) _) (fun g hg c => by have h1 : base g ∧ g < w.heap.size := hg; have h2 : g = w.heap.size := c; omega)).mono (fun _ hg => hg.1)
  have hFR : Fr (Only p) w (w2.setRow w.heap.size C0.toArray) := K2.out.f.setRow (.inl (Nat.le_refl _)) _
  exact ⟨none, none, 0, 0, by rw [HC0E.out], ⟨⟨Rd.nil _ _ _, Ss.nil _ _ _, Nat.le_refl _, Nat.le_refl _⟩, (fun _ _ e => nomatch e), fun _ _ e => nomatch e⟩, hRT, hFR⟩
set_option maxRecDepth 100000 in
set_option maxHeartbeats 4000000 in
theorem prdo_three (base : Nat → Prop) (p : Nat) (s : Rs) (w : World) (h : RT w base p s) (hl : s.2.length ≤ 1000000000) (h3 : (nmS 1 s).1 = 3) :
    Calls Tryd.prog 130 #[.pointer (some ⟨p, 0, none⟩)] w fun r w' => ∃ A1 A2 c1 c2, r = .returned (.agg (ordV (rdOP s).1 A1 A2 c1 c2).toArray) ∧ Lst13 w' w.heap.size w'.heap.size (rdOP s).1 A1 A2 c1 c2 ∧ RT w' base p (rdOP s).2 ∧ Fr (Only p) w w' := by
  have hlt := nmS_lt 1 s
  have hle := nmS_le 1 s
  have HN1 := hid (show Calls Tryd.prog 129 #[.pointer (some ⟨p, 0, none⟩), .int .i64 1] (w.alloc (.cells (ordV ord0 none none 0 0).toArray 93)) (fun e w' => e = .returned (.int .u64 ((nmS 1 s).1 : Nat)) ∧ RT w' (fun g => base g ∧ g < w.heap.size) p (nmS 1 s).2 ∧ At w' w.heap.size (ordV ord0 none none 0 0).toArray 93 ∧ Fr (Only p) w w' ∧ w.heap.size + 1 ≤ w'.heap.size) from by
    have h0 : RT (w.alloc (.cells (ordV ord0 none none 0 0).toArray 93)) (fun g => base g ∧ g < w.heap.size) p s := h.old.new ((Below.refl _ _).alloc (Nat.le_refl _) _)
    refine (rt_num _ p 1 s (by unfold Sz; omega) _ h0).mono ?_
    rintro e w' ⟨rfl, h1, h2⟩
    have hp : p < w.heap.size := h1.low.2
    exact ⟨rfl, h1, (At.new _ _ _).fr h2 (fun c => by have h3 : w.heap.size = p := c; omega), ((Fr.refl _ w).alloc _).trans h2, by have := h2.size; simpa using this⟩)
  have HRO := hid (show rdOP s = rdOb (nmS 1 s).1 (nmS 1 s).2 from rfl)
  rw [HRO.out]
  obtain ⟨k, hke⟩ : ∃ x, x = (nmS 1 s).1 := ⟨_, rfl⟩
  obtain ⟨s1, hs1⟩ : ∃ x, x = (nmS 1 s).2 := ⟨_, rfl⟩
  rw [← hke] at hlt
  rw [← hs1] at hle
  rw [← hke, ← hs1] at HN1 ⊢
  have ek0 : RowKit.wrap64 (k : Int) = (k : Int) := by unfold RowKit.wrap64; omega
  have ek1 : IntKind.i64.wrap (k : Int) = (k : Int) := by rw [IntKind.wrap_i64] <;> omega
  have HAO := hid (fun (o : Oper) (a : Go.Act) (W : World) (h : o.op = .alloc 93) => run_alloc_of (o := o) (a := a) (W := W) _ h (ordV ord0 none none 0 0).toArray zeroPO13)
  have HSL := hid (show s1.2.length ≤ 1000000000 by omega)
  obtain ⟨C0, hC0⟩ : ∃ C, C = ordV ⟨(k : Int), [], [], 0⟩ none none 0 0 := ⟨_, rfl⟩
  have HC0L := hid (show C0.length = 4 by rw [hC0]; rfl)
  have HC0A := hid (show C0.toArray.all (·.oneCell') = true by rw [hC0]; exact ordV_all _ _ _ _ _)
  have HC0E := hid hC0
  have HB1 := hid (fun (o : Oper) (a : Go.Act) (W : World) (x : Operand) (ho : o.op = .build 93 #[(0, x)]) (hx : a.eval x = .int .i64 (k : Int)) => show (execOp a.eval o).run Tryd.prog W = .ok (.value (.agg C0.toArray)) W from by rw [hC0]; exact run_build_po1 x ho (k : Int) hx)
  have HND := hid (show (ordV ord0 none none 0 0).length = 4 from rfl)
  rw [← hke] at h3
  subst h3
  have hre : rdOb 3 s1 = (⟨3, [], [], (nmS 8 s1).1⟩, (nmS 8 s1).2) := by unfold rdOb; rw [if_neg (by decide), if_neg (by decide), if_pos rfl]
  rw [hre]
  have HN8 := hid (fun (V : World) (hr : RT V (fun g => base g ∧ g < w.heap.size) p s1) => rt_num (fun g => base g ∧ g < w.heap.size) p 8 s1 (by unfold Sz; omega) V hr)
  generalize (nmS 8 s1).1 = b at HN8 ⊢
  generalize (nmS 8 s1).2 = s2 at HN8 ⊢
  clear h hl hlt hle hke hs1 hC0 hre HRO
  go_enter Tryd.func130, Tryd.ntmps130
  go_upto_region 2 with (first
    | (refine Great.wpList_allocTo rfl _ rfl _ _ (HAO.out _ _ _ rfl) ?_)
    | (go_at_call 129; refine HN1.out.mono ?_; rintro e1 w1 ⟨rfl, h1, h2, h3, h4⟩; have R1 := hid h1; have Z1 := hid h2; have F1 := hid h3; have S1 := hid h4; clear h1 h2 h3 h4)
    | (refine wpList_valW (by rfl) (HB1.out _ _ _ (.tmp 6) rfl rfl) ?_)
    | (refine wpList_store_row rfl _ (.tmp 3) (.tmp 7) rfl w1.heap.size C0.toArray rfl rfl 93 (ordV ord0 none none 0 0).toArray (heap_alloc_new _ _) (sizePO_of HC0L.out) ?e1 HC0A.out ?e2; rotate_right))
  case e1 => first | (rw [List.size_toArray, List.size_toArray, HC0L.out]; rfl) | (rw [List.size_toArray, HC0L.out]; rfl) | (rw [HC0L.out]; rfl)
  have K2 := hid (show RoW w base p w1.heap.size C0 s1 ((w1.alloc (.cells (ordV ord0 none none 0 0).toArray 93)).setRow w1.heap.size C0.toArray) from
    ⟨R1.out.new (po_stored_below w1 C0), Z1.out.new_ (po_stored_below w1 C0), po_stored w1 C0, F1.out.trans (Fr.of_new (po_stored_below w1 C0)), S1.out⟩)
  generalize ((w1.alloc (.cells (ordV ord0 none none 0 0).toArray 93)).setRow w1.heap.size C0.toArray) = w2 at K2 ⊢
  generalize w1.heap.size = X at K2 ⊢
  clear HN1 HB1 R1 Z1 F1 S1 ek0 ek1 HAO
  obtain ⟨c0, c1, c2, c3⟩ := ordV_cells (o := ⟨((3 : Nat) : Int), [], [], 0⟩) (T := 93) (AI := none) (AS := none) (cI := 0) (cS := 0) (g := X) (W := w2) (by have := K2.out.x; rw [HC0E.out] at this; exact this)
  have y1 := K2.out.x.frozen 1
  have y3 := K2.out.x.frozen 3
  go_upto_region 13 with (first
    | (go_at_call 129; refine (HN8.out w2 K2.out.r).mono ?_; rintro e3 w3 ⟨rfl, h1, h2⟩; have K3 := hid (K2.out.read h1 h2); clear h1 h2 c0 c1 c2 c3 y1 y3; obtain ⟨c0, c1, c2, c3⟩ := ordV_cells (o := ⟨((3 : Nat) : Int), [], [], 0⟩) (T := 93) (AI := none) (AS := none) (cI := 0) (cS := 0) (g := X) (W := w3) (by have := K3.out.x; rw [HC0E.out] at this; exact this); have y3 := K3.out.x.frozen 3))
  have K4 := hid (K3.out.put 3 (.int .u64 (b : Int)))
  have HCE := hid (show C0.set 3 (.int .u64 (b : Int)) = ordV ⟨3, [], [], b⟩ none none 0 0 by rw [HC0E.out]; rfl)
  rw [HCE.out] at K4
  generalize w3.setCell ⟨X, 3, none⟩ (.int .u64 (b : Int)) = w4 at K4 ⊢
  have HCL := hid (show (ordV ⟨3, [], [], b⟩ none none 0 0).length = 4 from rfl)
  have HCA := hid (ordV_all ⟨3, [], [], b⟩ none none 0 0)
  clear c0 c1 c2 c3 y3 K2 K3 HN8
  go_wp2_with (first
    | (refine wpList_valW (by rfl) (run_loadPO (.tmp 3) rfl X 0 rfl (ordV ⟨3, [], [], b⟩ none none 0 0) (range_all K4.out.x) HCL.out) ?_; try simp only [Act.put, List.setIfInBounds_toArray, List.set_cons_succ, List.set_cons_zero])
    | (refine wpList_store_row rfl _ (.tmp 2) (.tmp 38) rfl w.heap.size (ordV ⟨3, [], [], b⟩ none none 0 0).toArray rfl rfl 93 (ordV ord0 none none 0 0).toArray K4.out.z (sizePO_of HCL.out) ?e7 HCA.out ?e8; rotate_right))
  case e7 => first | (rw [List.size_toArray, List.size_toArray, HCL.out]; rfl) | (rw [List.size_toArray, HCL.out]; rfl) | (rw [HCL.out]; rfl)
  refine bodyPost_ret (results_cell_row rfl _ _ w.heap.size 93 (ordV ⟨3, [], [], b⟩ none none 0 0).toArray (0, 0) _ rfl (setRow_heap _ _ _ _ _ _ K4.out.z) Tryd.underlying93 rfl (sizePO_of HCL.out)) rfl ?_
  have hX := K4.out.far
  have hRT : RT (w4.setRow w.heap.size (ordV ⟨3, [], [], b⟩ none none 0 0).toArray) base p s2 := (K4.out.r.fr ((Fr.refl (fun g => g = w.heap.size) w4).setRow (.inr rfl) _) (fun g hg c => by have h1 : base g ∧ g < w.heap.size := hg; have h2 : g = w.heap.size := c; omega)).mono (fun _ hg => hg.1)
  have hFR : Fr (Only p) w (w4.setRow w.heap.size (ordV ⟨3, [], [], b⟩ none none 0 0).toArray) := K4.out.f.setRow (.inl (Nat.le_refl _)) _
  exact ⟨none, none, 0, 0, rfl, ⟨⟨Rd.nil _ _ _, Ss.nil _ _ _, Nat.le_refl _, Nat.le_refl _⟩, (fun _ _ e => nomatch e), fun _ _ e => nomatch e⟩, hRT, hFR⟩
set_option maxRecDepth 100000 in
set_option maxHeartbeats 4000000 in
theorem prdo_two (base : Nat → Prop) (p : Nat) (s : Rs) (w : World) (h : RT w base p s) (hl : s.2.length ≤ 1000000000) (h2 : (nmS 1 s).1 = 2) :
    Calls Tryd.prog 130 #[.pointer (some ⟨p, 0, none⟩)] w fun r w' => ∃ A1 A2 c1 c2, r = .returned (.agg (ordV (rdOP s).1 A1 A2 c1 c2).toArray) ∧ Lst13 w' w.heap.size w'.heap.size (rdOP s).1 A1 A2 c1 c2 ∧ RT w' base p (rdOP s).2 ∧ Fr (Only p) w w' := by
  have hlt := nmS_lt 1 s
  have hle := nmS_le 1 s
  have HN1 := hid (show Calls Tryd.prog 129 #[.pointer (some ⟨p, 0, none⟩), .int .i64 1] (w.alloc (.cells (ordV ord0 none none 0 0).toArray 93)) (fun e w' => e = .returned (.int .u64 ((nmS 1 s).1 : Nat)) ∧ RT w' (fun g => base g ∧ g < w.heap.size) p (nmS 1 s).2 ∧ At w' w.heap.size (ordV ord0 none none 0 0).toArray 93 ∧ Fr (Only p) w w' ∧ w.heap.size + 1 ≤ w'.heap.size) from by
    have h0 : RT (w.alloc (.cells (ordV ord0 none none 0 0).toArray 93)) (fun g => base g ∧ g < w.heap.size) p s := h.old.new ((Below.refl _ _).alloc (Nat.le_refl _) _)
    refine (rt_num _ p 1 s (by unfold Sz; omega) _ h0).mono ?_
    rintro e w' ⟨rfl, h1, h2⟩
    have hp : p < w.heap.size := h1.low.2
    exact ⟨rfl, h1, (At.new _ _ _).fr h2 (fun c => by have h3 : w.heap.size = p := c; omega), ((Fr.refl _ w).alloc _).trans h2, by have := h2.size; simpa using this⟩)
  have HRO := hid (show rdOP s = rdOb (nmS 1 s).1 (nmS 1 s).2 from rfl)
  rw [HRO.out]
  obtain ⟨k, hke⟩ : ∃ x, x = (nmS 1 s).1 := ⟨_, rfl⟩
  obtain ⟨s1, hs1⟩ : ∃ x, x = (nmS 1 s).2 := ⟨_, rfl⟩
  rw [← hke] at hlt
  rw [← hs1] at hle
  rw [← hke, ← hs1] at HN1 ⊢
  have ek0 : RowKit.wrap64 (k : Int) = (k : Int) := by unfold RowKit.wrap64; omega
  have ek1 : IntKind.i64.wrap (k : Int) = (k : Int) := by rw [IntKind.wrap_i64] <;> omega
  have HAO := hid (fun (o : Oper) (a : Go.Act) (W : World) (h : o.op = .alloc 93) => run_alloc_of (o := o) (a := a) (W := W) _ h (ordV ord0 none none 0 0).toArray zeroPO13)
  have HSL := hid (show s1.2.length ≤ 1000000000 by omega)
  obtain ⟨C0, hC0⟩ : ∃ C, C = ordV ⟨(k : Int), [], [], 0⟩ none none 0 0 := ⟨_, rfl⟩
  have HC0L := hid (show C0.length = 4 by rw [hC0]; rfl)
  have HC0A := hid (show C0.toArray.all (·.oneCell') = true by rw [hC0]; exact ordV_all _ _ _ _ _)
  have HC0E := hid hC0
  have HB1 := hid (fun (o : Oper) (a : Go.Act) (W : World) (x : Operand) (ho : o.op = .build 93 #[(0, x)]) (hx : a.eval x = .int .i64 (k : Int)) => show (execOp a.eval o).run Tryd.prog W = .ok (.value (.agg C0.toArray)) W from by rw [hC0]; exact run_build_po1 x ho (k : Int) hx)
  have HND := hid (show (ordV ord0 none none 0 0).length = 4 from rfl)
  rw [← hke] at h2
  subst h2
  have hre : rdOb 2 s1 = (⟨2, (rdN ((nmS 1 s1).1 + 1) (nmS 1 s1).2).1, [], 0⟩, (rdN ((nmS 1 s1).1 + 1) (nmS 1 s1).2).2) := by unfold rdOb; rw [if_neg (by decide), if_pos rfl]
  rw [hre]
  have HRI := hid (fun (V : World) (hr : RT V (fun g => base g ∧ g < w.heap.size) p s1) => prdidx_any (fun g => base g ∧ g < w.heap.size) p s1 V hr)
  obtain ⟨n, hn⟩ : ∃ x, x = (nmS 1 s1).1 + 1 := ⟨_, rfl⟩
  have HNN := hid (show n ≤ 256 by have := nmS_lt 1 s1; omega)
  have HNL := hid (rdN_length n (nmS 1 s1).2)
  have HLE2 := hid (show (rdN n (nmS 1 s1).2).2.2.length ≤ 1000000000 from Nat.le_trans (Nat.le_trans (rdN_le n _) (nmS_le 1 s1)) HSL.out)
  rw [← hn] at HRI ⊢
  generalize (rdN n (nmS 1 s1).2).1 = l at HRI HNL ⊢
  generalize (rdN n (nmS 1 s1).2).2 = s2 at HRI HLE2 ⊢
  clear h hl hlt hle hke hs1 hC0 hre HRO hn HLE2 HSL
  go_enter Tryd.func130, Tryd.ntmps130
  go_upto_region 2 with (first
    | (refine Great.wpList_allocTo rfl _ rfl _ _ (HAO.out _ _ _ rfl) ?_)
    | (go_at_call 129; refine HN1.out.mono ?_; rintro e1 w1 ⟨rfl, h1, h2, h3, h4⟩; have R1 := hid h1; have Z1 := hid h2; have F1 := hid h3; have S1 := hid h4; clear h1 h2 h3 h4)
    | (refine wpList_valW (by rfl) (HB1.out _ _ _ (.tmp 6) rfl rfl) ?_)
    | (refine wpList_store_row rfl _ (.tmp 3) (.tmp 7) rfl w1.heap.size C0.toArray rfl rfl 93 (ordV ord0 none none 0 0).toArray (heap_alloc_new _ _) (sizePO_of HC0L.out) ?e1 HC0A.out ?e2; rotate_right))
  case e1 => first | (rw [List.size_toArray, List.size_toArray, HC0L.out]; rfl) | (rw [List.size_toArray, HC0L.out]; rfl) | (rw [HC0L.out]; rfl)
  have K2 := hid (show RoW w base p w1.heap.size C0 s1 ((w1.alloc (.cells (ordV ord0 none none 0 0).toArray 93)).setRow w1.heap.size C0.toArray) from
    ⟨R1.out.new (po_stored_below w1 C0), Z1.out.new_ (po_stored_below w1 C0), po_stored w1 C0, F1.out.trans (Fr.of_new (po_stored_below w1 C0)), S1.out⟩)
  generalize ((w1.alloc (.cells (ordV ord0 none none 0 0).toArray 93)).setRow w1.heap.size C0.toArray) = w2 at K2 ⊢
  generalize w1.heap.size = X at K2 ⊢
  clear HN1 HB1 R1 Z1 F1 S1 ek0 ek1 HAO
  obtain ⟨c0, c1, c2, c3⟩ := ordV_cells (o := ⟨((2 : Nat) : Int), [], [], 0⟩) (T := 93) (AI := none) (AS := none) (cI := 0) (cS := 0) (g := X) (W := w2) (by have := K2.out.x; rw [HC0E.out] at this; exact this)
  have y1 := K2.out.x.frozen 1
  have y3 := K2.out.x.frozen 3
  go_upto_region 13 with (first
    | (go_at_call 173; refine (HRI.out w2 K2.out.r).mono ?_; rintro e3 w3 ⟨G, rfl, hA, hG, h1, h2⟩; have K3 := hid (K2.out.read h1 h2); have G3 := hid hA; have XG := hid (show X < G from Nat.lt_of_lt_of_le K2.out.x.lt hG); clear h1 h2 hA hG c0 c1 c2 c3 y1 y3; obtain ⟨c0, c1, c2, c3⟩ := ordV_cells (o := ⟨((2 : Nat) : Int), [], [], 0⟩) (T := 93) (AI := none) (AS := none) (cI := 0) (cS := 0) (g := X) (W := w3) (by have := K3.out.x; rw [HC0E.out] at this; exact this); have y1 := K3.out.x.frozen 1))
  have K4 := hid (K3.out.put 1 (.slice (some ⟨G, 0, none⟩) n n))
  have G4 := hid (show At (w3.setCell ⟨X, 1, none⟩ (.slice (some ⟨G, 0, none⟩) n n)) G (nus l).toArray 32 from G3.out.far (p := ⟨X, 1, none⟩) (by have := XG.out; show G ≠ X; omega) _)
  have HCE := hid (show C0.set 1 (.slice (some ⟨G, 0, none⟩) n n) = ordV ⟨2, l, [], 0⟩ (some ⟨G, 0, none⟩) none n 0 by rw [HC0E.out]; show [_, Value.slice _ n n, _, _] = [_, Value.slice _ l.length n, _, _]; rw [HNL.out]; rfl)
  rw [HCE.out] at K4
  generalize w3.setCell ⟨X, 1, none⟩ (.slice (some ⟨G, 0, none⟩) n n) = w4 at K4 G4 ⊢
  have HCL := hid (show (ordV ⟨2, l, [], 0⟩ (some ⟨G, 0, none⟩) none n 0).length = 4 from rfl)
  have HCA := hid (ordV_all ⟨2, l, [], 0⟩ (some ⟨G, 0, none⟩) none n 0)
  clear c0 c1 c2 c3 y1 K2 K3 HRI G3
  go_wp2_with (first
    | (refine wpList_valW (by rfl) (run_loadPO (.tmp 3) rfl X 0 rfl (ordV ⟨2, l, [], 0⟩ (some ⟨G, 0, none⟩) none n 0) (range_all K4.out.x) HCL.out) ?_; try simp only [Act.put, List.setIfInBounds_toArray, List.set_cons_succ, List.set_cons_zero])
    | (refine wpList_store_row rfl _ (.tmp 2) (.tmp 38) rfl w.heap.size (ordV ⟨2, l, [], 0⟩ (some ⟨G, 0, none⟩) none n 0).toArray rfl rfl 93 (ordV ord0 none none 0 0).toArray K4.out.z (sizePO_of HCL.out) ?e7 HCA.out ?e8; rotate_right))
  case e7 => first | (rw [List.size_toArray, List.size_toArray, HCL.out]; rfl) | (rw [List.size_toArray, HCL.out]; rfl) | (rw [HCL.out]; rfl)
  refine bodyPost_ret (results_cell_row rfl _ _ w.heap.size 93 (ordV ⟨2, l, [], 0⟩ (some ⟨G, 0, none⟩) none n 0).toArray (0, 0) _ rfl (setRow_heap _ _ _ _ _ _ K4.out.z) Tryd.underlying93 rfl (sizePO_of HCL.out)) rfl ?_
  have hX := K4.out.far
  have hRT : RT (w4.setRow w.heap.size (ordV ⟨2, l, [], 0⟩ (some ⟨G, 0, none⟩) none n 0).toArray) base p s2 := (K4.out.r.fr ((Fr.refl (fun g => g = w.heap.size) w4).setRow (.inr rfl) _) (fun g hg c => by have h1 : base g ∧ g < w.heap.size := hg; have h2 : g = w.heap.size := c; omega)).mono (fun _ hg => hg.1)
  have hFR : Fr (Only p) w (w4.setRow w.heap.size (ordV ⟨2, l, [], 0⟩ (some ⟨G, 0, none⟩) none n 0).toArray) := K4.out.f.setRow (.inl (Nat.le_refl _)) _
  have hG5 : At (w4.setRow w.heap.size (ordV ⟨2, l, [], 0⟩ (some ⟨G, 0, none⟩) none n 0).toArray) G (nus l).toArray 32 := At.setRow_far G4.out (by have := XG.out; omega)
  exact ⟨some ⟨G, 0, none⟩, none, n, 0, rfl, ⟨⟨Rd.of_at hG5 0 (fun q u hu => by rw [List.getElem?_toArray, Nat.zero_add]; exact hu) hG5.lt, Ss.nil _ _ _, by show l.length ≤ n; rw [HNL.out]; exact Nat.le_refl _, Nat.le_refl _⟩, (fun b q e => by cases e; have := XG.out; omega), fun _ _ e => nomatch e⟩, hRT, hFR⟩
/-- What the loop over the blocks has. -/
structure RsL13 (w : World) (base : Nat → Prop) (p X G n : Nat) (l : List Nat) (s : Rs) (v : Value) (j : Nat) (V : World) : Prop where
  o : RoW w base p X [.int .i64 1, .slice (some ⟨G, 0, none⟩) n n, v, .int .u64 0] (rdSl j s).2 V
  g : At V G (nus l).toArray 32
  a : Aps V (G + 1) v (rdSl j s).1
set_option maxRecDepth 100000 in
set_option maxHeartbeats 4000000 in
theorem prdo_one (base : Nat → Prop) (p : Nat) (s : Rs) (w : World) (h : RT w base p s) (hl : s.2.length ≤ 1000000000) (h1 : (nmS 1 s).1 = 1) :
    Calls Tryd.prog 130 #[.pointer (some ⟨p, 0, none⟩)] w fun r w' => ∃ A1 A2 c1 c2, r = .returned (.agg (ordV (rdOP s).1 A1 A2 c1 c2).toArray) ∧ Lst13 w' w.heap.size w'.heap.size (rdOP s).1 A1 A2 c1 c2 ∧ RT w' base p (rdOP s).2 ∧ Fr (Only p) w w' := by
  have hlt := nmS_lt 1 s
  have hle := nmS_le 1 s
  have HN1 := hid (show Calls Tryd.prog 129 #[.pointer (some ⟨p, 0, none⟩), .int .i64 1] (w.alloc (.cells (ordV ord0 none none 0 0).toArray 93)) (fun e w' => e = .returned (.int .u64 ((nmS 1 s).1 : Nat)) ∧ RT w' (fun g => base g ∧ g < w.heap.size) p (nmS 1 s).2 ∧ At w' w.heap.size (ordV ord0 none none 0 0).toArray 93 ∧ Fr (Only p) w w' ∧ w.heap.size + 1 ≤ w'.heap.size) from by
    have h0 : RT (w.alloc (.cells (ordV ord0 none none 0 0).toArray 93)) (fun g => base g ∧ g < w.heap.size) p s := h.old.new ((Below.refl _ _).alloc (Nat.le_refl _) _)
    refine (rt_num _ p 1 s (by unfold Sz; omega) _ h0).mono ?_
    rintro e w' ⟨rfl, h1, h2⟩
    have hp : p < w.heap.size := h1.low.2
    exact ⟨rfl, h1, (At.new _ _ _).fr h2 (fun c => by have h3 : w.heap.size = p := c; omega), ((Fr.refl _ w).alloc _).trans h2, by have := h2.size; simpa using this⟩)
  have HRO := hid (show rdOP s = rdOb (nmS 1 s).1 (nmS 1 s).2 from rfl)
  rw [HRO.out]
  obtain ⟨k, hke⟩ : ∃ x, x = (nmS 1 s).1 := ⟨_, rfl⟩
  obtain ⟨s1, hs1⟩ : ∃ x, x = (nmS 1 s).2 := ⟨_, rfl⟩
  rw [← hke] at hlt
  rw [← hs1] at hle
  rw [← hke, ← hs1] at HN1 ⊢
  have ek0 : RowKit.wrap64 (k : Int) = (k : Int) := by unfold RowKit.wrap64; omega
  have ek1 : IntKind.i64.wrap (k : Int) = (k : Int) := by rw [IntKind.wrap_i64] <;> omega
  have HAO := hid (fun (o : Oper) (a : Go.Act) (W : World) (h : o.op = .alloc 93) => run_alloc_of (o := o) (a := a) (W := W) _ h (ordV ord0 none none 0 0).toArray zeroPO13)
  have HSL := hid (show s1.2.length ≤ 1000000000 by omega)
  obtain ⟨C0, hC0⟩ : ∃ C, C = ordV ⟨(k : Int), [], [], 0⟩ none none 0 0 := ⟨_, rfl⟩
  have HC0L := hid (show C0.length = 4 by rw [hC0]; rfl)
  have HC0A := hid (show C0.toArray.all (·.oneCell') = true by rw [hC0]; exact ordV_all _ _ _ _ _)
  have HC0E := hid hC0
  have HB1 := hid (fun (o : Oper) (a : Go.Act) (W : World) (x : Operand) (ho : o.op = .build 93 #[(0, x)]) (hx : a.eval x = .int .i64 (k : Int)) => show (execOp a.eval o).run Tryd.prog W = .ok (.value (.agg C0.toArray)) W from by rw [hC0]; exact run_build_po1 x ho (k : Int) hx)
  have HND := hid (show (ordV ord0 none none 0 0).length = 4 from rfl)
  rw [← hke] at h1
  subst h1
  have hre : rdOb 1 s1 = (⟨1, (rdN ((nmS 1 s1).1 + 1) (nmS 1 s1).2).1, (rdSl ((nmS 1 s1).1 + 1) (rdN ((nmS 1 s1).1 + 1) (nmS 1 s1).2).2).1, 0⟩, (rdSl ((nmS 1 s1).1 + 1) (rdN ((nmS 1 s1).1 + 1) (nmS 1 s1).2).2).2) := by unfold rdOb; rw [if_pos rfl]
  rw [hre]
  have HRI := hid (fun (V : World) (hr : RT V (fun g => base g ∧ g < w.heap.size) p s1) => prdidx_any (fun g => base g ∧ g < w.heap.size) p s1 V hr)
  obtain ⟨n, hn⟩ : ∃ x, x = (nmS 1 s1).1 + 1 := ⟨_, rfl⟩
  have HNN := hid (show n ≤ 256 by have := nmS_lt 1 s1; omega)
  have HNL := hid (rdN_length n (nmS 1 s1).2)
  have HLE2 := hid (show (rdN n (nmS 1 s1).2).2.2.length ≤ 1000000000 from Nat.le_trans (Nat.le_trans (rdN_le n _) (nmS_le 1 s1)) HSL.out)
  rw [← hn] at HRI ⊢
  generalize (rdN n (nmS 1 s1).2).1 = l at HRI HNL ⊢
  generalize (rdN n (nmS 1 s1).2).2 = s2 at HRI HLE2 ⊢
  have HSR := hid (fun (x : Rs) (V : World) (hx : x.2.length ≤ 1000000000) (hr : RT V (fun g => base g ∧ g < w.heap.size) p x) => rt_sealed (fun g => base g ∧ g < w.heap.size) p x V hr hx)
  clear h hl hlt hle hke hs1 hC0 hre HRO hn HSL
  go_enter Tryd.func130, Tryd.ntmps130
  go_upto_region 2 with (first
    | (refine Great.wpList_allocTo rfl _ rfl _ _ (HAO.out _ _ _ rfl) ?_)
    | (go_at_call 129; refine HN1.out.mono ?_; rintro e1 w1 ⟨rfl, h1, h2, h3, h4⟩; have R1 := hid h1; have Z1 := hid h2; have F1 := hid h3; have S1 := hid h4; clear h1 h2 h3 h4)
    | (refine wpList_valW (by rfl) (HB1.out _ _ _ (.tmp 6) rfl rfl) ?_)
    | (refine wpList_store_row rfl _ (.tmp 3) (.tmp 7) rfl w1.heap.size C0.toArray rfl rfl 93 (ordV ord0 none none 0 0).toArray (heap_alloc_new _ _) (sizePO_of HC0L.out) ?e1 HC0A.out ?e2; rotate_right))
  case e1 => first | (rw [List.size_toArray, List.size_toArray, HC0L.out]; rfl) | (rw [List.size_toArray, HC0L.out]; rfl) | (rw [HC0L.out]; rfl)
  have K2 := hid (show RoW w base p w1.heap.size C0 s1 ((w1.alloc (.cells (ordV ord0 none none 0 0).toArray 93)).setRow w1.heap.size C0.toArray) from
    ⟨R1.out.new (po_stored_below w1 C0), Z1.out.new_ (po_stored_below w1 C0), po_stored w1 C0, F1.out.trans (Fr.of_new (po_stored_below w1 C0)), S1.out⟩)
  generalize ((w1.alloc (.cells (ordV ord0 none none 0 0).toArray 93)).setRow w1.heap.size C0.toArray) = w2 at K2 ⊢
  generalize w1.heap.size = X at K2 ⊢
  clear HN1 HB1 R1 Z1 F1 S1 ek0 ek1 HAO
  obtain ⟨c0, c1, c2, c3⟩ := ordV_cells (o := ⟨((1 : Nat) : Int), [], [], 0⟩) (T := 93) (AI := none) (AS := none) (cI := 0) (cS := 0) (g := X) (W := w2) (by have := K2.out.x; rw [HC0E.out] at this; exact this)
  have y1 := K2.out.x.frozen 1
  have y3 := K2.out.x.frozen 3
  go_upto_region 5 with (first
    | (go_at_call 173; refine (HRI.out w2 K2.out.r).mono ?_; rintro e3 w3 ⟨G, rfl, hA, hG, h1, h2⟩; have K3 := hid (K2.out.read h1 h2); have G3 := hid hA; have XG := hid (show X < G from Nat.lt_of_lt_of_le K2.out.x.lt hG); clear h1 h2 hA hG c0 c1 c2 c3 y1 y3; obtain ⟨c0, c1, c2, c3⟩ := ordV_cells (o := ⟨((1 : Nat) : Int), [], [], 0⟩) (T := 93) (AI := none) (AS := none) (cI := 0) (cS := 0) (g := X) (W := w3) (by have := K3.out.x; rw [HC0E.out] at this; exact this); have y1 := K3.out.x.frozen 1))
  have K4 := hid (K3.out.put 1 (.slice (some ⟨G, 0, none⟩) n n))
  have G4 := hid (show At (w3.setCell ⟨X, 1, none⟩ (.slice (some ⟨G, 0, none⟩) n n)) G (nus l).toArray 32 from G3.out.far (p := ⟨X, 1, none⟩) (by have := XG.out; show G ≠ X; omega) _)
  have HCE := hid (show C0.set 1 (.slice (some ⟨G, 0, none⟩) n n) = [.int .i64 1, .slice (some ⟨G, 0, none⟩) n n, .slice none 0 0, .int .u64 0] by rw [HC0E.out]; rfl)
  rw [HCE.out] at K4
  generalize w3.setCell ⟨X, 1, none⟩ (.slice (some ⟨G, 0, none⟩) n n) = w4 at K4 G4 ⊢
  have L0 := hid (show RsL13 w base p X G n l s2 (.slice none 0 0) 0 w4 from ⟨K4.out, G4.out, Aps.nil _ _⟩)
  have d1 := K4.out.x.cell 1
  simp only [List.getElem?_toArray, List.getElem?_cons_succ, List.getElem?_cons_zero] at d1
  clear c0 c1 c2 c3 y1 K2 K3 HRI G3 K4 G4 HCE HC0L HC0A HC0E
  go_upto_region 6 with fail
  clear d1
  go_loopw [18] (fun x wr => ∃ (j : Nat) (A : Option Addr) (c : Nat), j ≤ n ∧ x = .int .i64 (j : Int) ∧ Hid (RsL13 w base p X G n l s2 (.slice A j c) j wr)) (fun x _ => n - (intOf x).toNat)
  case atStart => exact ⟨0, none, 0, by omega, rfl, L0⟩
  case round =>
    clear L0
    obtain ⟨j, A, c, hj, rfl, HX⟩ := hrel
    by_cases hlt : j < n
    · have hd : decide ((j : Int) < (n : Int)) = true := by simp; omega
      have ik : (j : Int) < (n : Int) := by omega
      have HSD := hid (HSR.out (rdSl j s2).2)
      have HSX := hid (show (rdSl j s2).2.2.length ≤ 1000000000 from Nat.le_trans (rdSl_le j s2) HLE2.out)
      have HOK := hid (slP_oks (rdSl j s2).2)
      have HLJ := hid (rdSl_length j s2)
      have HNX := hid (show (rdSl (j + 1) s2).1 = (rdSl j s2).1 ++ [(slP (rdSl j s2).2).1] ∧ (rdSl (j + 1) s2).2 = (slP (rdSl j s2).2).2 from ⟨rfl, rfl⟩)
      obtain ⟨j1, hj1⟩ : ∃ m, m = j + 1 := ⟨_, rfl⟩
      rw [← hj1] at HNX
      have e2 : (j : Int) + 1 = (j1 : Int) := by omega
      have ew2 : IntKind.i64.wrap (j1 : Int) = (j1 : Int) := by rw [IntKind.wrap_i64] <;> have := HNN.out <;> omega
      have HMS := hid (show j1 ≤ n ∧ n - j1 < n - j by omega)
      have HJL := hid (show j + 1 = j1 ∧ j ≤ 1000 by have := HNN.out; omega)
      have HXO := hid HX.out.o
      have HXG := hid HX.out.g
      have HXA := hid HX.out.a
      have HRES := hid (fun (v : Value) (V : World) (a : RoW w base p X [.int .i64 1, .slice (some ⟨G, 0, none⟩) n n, v, .int .u64 0] (slP (rdSl j s2).2).2 V) (b : At V G (nus l).toArray 32) (c : Aps V (G + 1) v ((rdSl j s2).1 ++ [(slP (rdSl j s2).2).1])) => show RsL13 w base p X G n l s2 v j1 V from ⟨by rw [HNX.out.2]; exact a, b, by rw [HNX.out.1]; exact c⟩)
      generalize (slP (rdSl j s2).2).1 = y at HSD HOK HRES
      generalize (slP (rdSl j s2).2).2 = s3 at HSD HRES
      generalize (rdSl j s2).2 = s4 at HSD HSX HXO
      generalize (rdSl j s2).1 = sl at HLJ HXA HRES
      have HP := hid (show p < w.heap.size from HXO.out.r.low.2)
      clear hj1 hj hlt HX HNX HSR
      go_upto_region 7 with fail
      try simp only [Act.put, List.setIfInBounds_toArray, List.set_cons_succ, List.set_cons_zero]
      refine wp_region_upto (fun W => At W X #[.int .i64 1, .slice (some ⟨G, 0, none⟩) n n, .slice A j c, .int .u64 0] 93) 7 8 (by kernel_rfl) (by kernel_rfl) ?_
      have XO1 := hid (HXO.out.new (Below.refl wr.heap.size wr).drew)
      have XG1 := hid (HXG.out.new_ (Below.refl wr.heap.size wr).drew)
      have XA1 := hid (HXA.out.kept (Below.refl wr.heap.size wr).drew)
      clear HXO HXG HXA
      generalize wr.drew = v1 at XO1 XG1 XA1 ⊢
      refine wpUpto_takeL (i := 0) (v := .pointer (some ⟨X, 2, none⟩)) rfl rfl (by decide +kernel) (by decide +kernel) (by decide +kernel) (by decide +kernel) (by decide) (fun _ _ _ h => h) (Or.inl ⟨by rfl, ?_⟩) XO1.out.x ?_
      · (intro W hSW; go_simp)
      simp only [List.set_cons_succ, List.set_cons_zero]
      refine wpUpto_takeL (i := 2) (v := .pointer (some ⟨p, 0, none⟩)) rfl rfl (by decide +kernel) (by decide +kernel) (by decide +kernel) (by decide +kernel) (by decide) (fun _ _ _ h => h) (Or.inl ⟨by rfl, ?_⟩) XO1.out.x ?_
      · (intro W hSW; go_simp)
      simp only [List.set_cons_succ, List.set_cons_zero]
      refine wpUpto_takeL (i := 1) (v := .slice A j c) rfl rfl (by decide +kernel) (by decide +kernel) (by decide +kernel) (by decide +kernel) (by decide) (fun _ _ _ h => h) (Or.inl ⟨by rfl, ?_⟩) XO1.out.x ?_
      · (intro W hSW; have q := hSW.cell 2; simp only [List.getElem?_toArray, List.getElem?_cons_succ, List.getElem?_cons_zero] at q; go_simp)
      simp only [List.set_cons_succ, List.set_cons_zero]
      refine wpUpto_one (i := 3) rfl (by decide +kernel) rfl ?_
      intro Q0 hQ0
      go_simp
      go_at_call 90
      refine (HSD.out v1 HSX.out XO1.out.r).mono ?_
      rintro e1 v2 ⟨rfl, h1, h2⟩
      have XO2 := hid (XO1.out.read h1 h2)
      have XG2 := hid (XG1.out.fr h2 (fun c => by have h3 : G = p := c; have := HP.out; have := XG.out; have := XO1.out.far; omega))
      have XA2 := hid (show Aps v2 (G + 1) (.slice A j c) sl from by
        refine ⟨XA1.out.1, ?_⟩
        rcases XA1.out.2 with h3 | ⟨k, cap, cur, h3, hb1, hh, r⟩
        · exact .inl h3
        · exact .inr ⟨k, cap, cur, h3, hb1, (h2.block k (lt_of_block hh) (fun c => by have h4 : k = p := c; have := HP.out; have := XG.out; have := XO1.out.far; omega)).trans hh, r⟩)
      refine hQ0.out _ _ (fun _ => XO2.out.x) ?_
      clear hQ0 Q0 h1 h2 XO1 XG1 XA1
      try simp only [Act.put, List.setIfInBounds_toArray, List.set_cons_succ, List.set_cons_zero]
      refine wpUpto_one (i := 4) rfl (by decide +kernel) rfl ?_
      intro Q0 hQ0
      refine wp_valD 24 rfl (run_buildPs13 (.tmp 23) rfl (slV y) (slV_length HOK.out) rfl) ?_
      have hb3 : Below v2.heap.size v2 (v2.alloc (.cells (slV y).toArray 37)) := (Below.refl _ _).alloc (Nat.le_refl _) _
      have XO3 := hid (XO2.out.new hb3)
      have XG3 := hid (XG2.out.new_ hb3)
      have XA3 := hid (XA2.out.kept hb3)
      have XQ3 := hid (At.new v2 (slV y).toArray 37)
      refine hQ0.out _ _ (fun _ => XO3.out.x) ?_
      clear hQ0 Q0 hb3 XO2 XG2 XA2
      generalize (v2.alloc (.cells (slV y).toArray 37)) = v3 at XO3 XG3 XA3 XQ3 ⊢
      generalize v2.heap.size = Q3 at XQ3 ⊢
      try simp only [Act.put, List.setIfInBounds_toArray, List.set_cons_succ, List.set_cons_zero]
      refine wpUpto_one (i := 5) rfl (by decide +kernel) rfl ?_
      intro Q0 hQ0
      refine wp_append_ps13 25 rfl (.tmp 21) (.tmp 24) rfl (G + 1) (.slice A j c) sl rfl XA3.out Q3 y rfl XQ3.out HOK.out (by rw [HLJ.out]; have := HJL.out; omega) XG3.out.lt ?_
      intro A4 c4 v4 r1 r2
      have hown : ∀ g, (Value.slice A j c).ownBlock = some g → G < g := fun g e => (XA3.out.lt g e).1
      have XO4 := hid (XO3.out.grown r2 (fun g e => by have := hown g e; have := XG.out; omega))
      have XG4 := hid (at_free XG3.out (B := G + 1) (by omega) r2 (fun g e => hown g e))
      rw [show (sl ++ [y]).length = j1 by rw [List.length_append, HLJ.out]; exact HJL.out.1] at r1 ⊢
      have XA4 := hid r1
      refine hQ0.out _ _ (fun _ => XO4.out.x) ?_
      clear hQ0 Q0 r1 r2 hown XO3 XG3 XA3 XQ3
      try simp only [Act.put, List.setIfInBounds_toArray, List.set_cons_succ, List.set_cons_zero]
      have q0 := XO4.out.x.cell 2
      simp only [List.getElem?_toArray, List.getElem?_cons_succ, List.getElem?_cons_zero] at q0
      have q1 := XO4.out.x.frozen 2
      refine wpUpto_takeL (i := 6) (v := .pointer (some ⟨X, 2, none⟩)) rfl rfl (by decide +kernel) (by decide +kernel) (by decide +kernel) (by decide +kernel) (by decide) (fun _ _ _ h => h) (Or.inl ⟨by rfl, ?_⟩) XO4.out.x ?_
      · (intro W hSW; go_simp)
      simp only [List.set_cons_succ, List.set_cons_zero]
      refine wpUpto_one (i := 7) rfl (by decide +kernel) rfl ?_
      intro Q0 hQ0
      go_simp
      have XO5 := hid (XO4.out.put 2 (.slice A4 j1 c4))
      have XG5 := hid (show At (v4.setCell ⟨X, 2, none⟩ (.slice A4 j1 c4)) G (nus l).toArray 32 from XG4.out.far (p := ⟨X, 2, none⟩) (by have := XG.out; show G ≠ X; omega) _)
      have XA5 := hid (XA4.out.cell (i := 2) (by have := XG.out; omega : X < G + 1) (.slice A4 j1 c4))
      refine hQ0.out _ _ (fun h => absurd rfl h) ?_
      clear hQ0 Q0 q0 q1 XO4 XG4 XA4
      have HFIN := hid (HRES.out (.slice A4 j1 c4) _ XO5.out XG5.out XA5.out)
      clear XO5 XG5 XA5 HRES
      generalize v4.setCell ⟨X, 2, none⟩ (.slice A4 j1 c4) = v5 at HFIN ⊢
      refine wpUpto_done (by decide +kernel) ?_ _
      go_simp
      go_wp2
      exact ⟨⟨j1, A4, c4, HMS.out.1, rfl, HFIN⟩, by
        show n - ((j1 : Int)).toNat < n - ((j : Int)).toNat
        rw [Int.toNat_natCast, Int.toNat_natCast]
        exact HMS.out.2⟩
    · obtain rfl : j = n := by omega
      have hd : decide ((j : Int) < (j : Int)) = false := by simp
      clear hlt hj
      have HLJ := hid (rdSl_length j s2)
      have K4 := hid HX.out.o
      have G4 := hid HX.out.g
      have A4 := hid HX.out.a
      obtain ⟨sl, hsl⟩ : ∃ x, x = (rdSl j s2).1 := ⟨_, rfl⟩
      obtain ⟨s5, hs5⟩ : ∃ x, x = (rdSl j s2).2 := ⟨_, rfl⟩
      rw [← hsl] at HLJ A4
      rw [← hs5] at K4
      have HSLE := hid hsl
      have HS5E := hid hs5
      clear hsl hs5
      have HCE := hid (show [Value.int .i64 1, .slice (some ⟨G, 0, none⟩) j j, .slice A j c, .int .u64 0] = ordV ⟨1, l, sl, 0⟩ (some ⟨G, 0, none⟩) A j c by show [_, Value.slice _ j j, Value.slice _ j c, _] = [_, Value.slice _ l.length j, Value.slice _ sl.length c, _]; rw [HNL.out, HLJ.out]; rfl)
      have HA5 := hid (show Aps wr (G + 1) (.slice A sl.length c) sl from by rw [HLJ.out]; exact A4.out)
      rw [HCE.out] at K4
      have HCL := hid (show (ordV ⟨1, l, sl, 0⟩ (some ⟨G, 0, none⟩) A j c).length = 4 from rfl)
      have HCA := hid (ordV_all ⟨1, l, sl, 0⟩ (some ⟨G, 0, none⟩) A j c)
      clear HX A4
      go_wp2_with (first
        | (refine wpList_valW (by rfl) (run_loadPO (.tmp 3) rfl X 0 rfl (ordV ⟨1, l, sl, 0⟩ (some ⟨G, 0, none⟩) A j c) (range_all K4.out.x) HCL.out) ?_; try simp only [Act.put, List.setIfInBounds_toArray, List.set_cons_succ, List.set_cons_zero])
        | (refine wpList_store_row rfl _ (.tmp 2) (.tmp 38) rfl w.heap.size (ordV ⟨1, l, sl, 0⟩ (some ⟨G, 0, none⟩) A j c).toArray rfl rfl 93 (ordV ord0 none none 0 0).toArray K4.out.z (sizePO_of HCL.out) ?e7 HCA.out ?e8; rotate_right))
      case e7 => first | (rw [List.size_toArray, List.size_toArray, HCL.out]; rfl) | (rw [List.size_toArray, HCL.out]; rfl) | (rw [HCL.out]; rfl)
      refine bodyPost_ret (results_cell_row rfl _ _ w.heap.size 93 (ordV ⟨1, l, sl, 0⟩ (some ⟨G, 0, none⟩) A j c).toArray (0, 0) _ rfl (setRow_heap _ _ _ _ _ _ K4.out.z) Tryd.underlying93 rfl (sizePO_of HCL.out)) rfl ?_
      have hX := K4.out.far
      have hRT : RT (wr.setRow w.heap.size (ordV ⟨1, l, sl, 0⟩ (some ⟨G, 0, none⟩) A j c).toArray) base p s5 := (K4.out.r.fr ((Fr.refl (fun g => g = w.heap.size) wr).setRow (.inr rfl) _) (fun g hg c => by have h1 : base g ∧ g < w.heap.size := hg; have h2 : g = w.heap.size := c; omega)).mono (fun _ hg => hg.1)
      have hFR : Fr (Only p) w (wr.setRow w.heap.size (ordV ⟨1, l, sl, 0⟩ (some ⟨G, 0, none⟩) A j c).toArray) := K4.out.f.setRow (.inl (Nat.le_refl _)) _
      have hG5 : At (wr.setRow w.heap.size (ordV ⟨1, l, sl, 0⟩ (some ⟨G, 0, none⟩) A j c).toArray) G (nus l).toArray 32 := At.setRow_far G4.out (by have := XG.out; omega)
      have hA6 := HA5.out.row (g := w.heap.size) (by have := XG.out; omega) (ordV ⟨1, l, sl, 0⟩ (some ⟨G, 0, none⟩) A j c).toArray
      rw [← HSLE.out, ← HS5E.out]
      exact ⟨some ⟨G, 0, none⟩, A, j, c, rfl, ⟨⟨Rd.of_at hG5 0 (fun q u hu => by rw [List.getElem?_toArray, Nat.zero_add]; exact hu) hG5.lt, hA6.ss, by show l.length ≤ j; rw [HNL.out]; exact Nat.le_refl _, hA6.room⟩, (fun b q e => by cases e; have := XG.out; omega), fun b q e => by
        rcases HA5.out.2 with ⟨h5, -⟩ | ⟨k, cap, cur, h5, hb1, -⟩
        · rw [(Value.slice.inj h5).1] at e; cases e
        · rw [(Value.slice.inj h5).1] at e; cases e; have := XG.out; omega⟩, hRT, hFR⟩
/-- readOrder. -/
theorem prdorder_any (base : Nat → Prop) (p : Nat) (s : Rs) (w : World) (h : RT w base p s) (hl : s.2.length ≤ 1000000000) :
    Calls Tryd.prog 130 #[.pointer (some ⟨p, 0, none⟩)] w fun r w' => ∃ A1 A2 c1 c2, r = .returned (.agg (ordV (rdOP s).1 A1 A2 c1 c2).toArray) ∧ Lst13 w' w.heap.size w'.heap.size (rdOP s).1 A1 A2 c1 c2 ∧ RT w' base p (rdOP s).2 ∧ Fr (Only p) w w' := by
  by_cases h1 : (nmS 1 s).1 = 1
  · exact prdo_one base p s w h hl h1
  · by_cases h2 : (nmS 1 s).1 = 2
    · exact prdo_two base p s w h hl h2
    · by_cases h3 : (nmS 1 s).1 = 3
      · exact prdo_three base p s w h hl h3
      · exact prdo_none base p s w h hl h1 h2 h3
end Go.Proofs.YtfmbpdjcoopaeaaDoor

namespace Go.Proofs.YtfmbpdjcoopaeaaDoor
open Go.RowKit

set_option maxRecDepth 100000 in
set_option maxHeartbeats 1000000 in
/-- hasFailed. -/
theorem phasfailed_any (base : Nat → Prop) (p : Nat) (s : Rs) (W : World) (h : RT W base p s) :
    Calls Tryd.prog 133 #[.pointer (some ⟨p, 0, none⟩)] W fun r W' => r = .returned (.bool (decide (s.1 = 2))) ∧ W = W' := by
  obtain ⟨k, bs⟩ := s
  obtain ⟨h1, h2⟩ := h
  rcases (h2 : k = 0 ∨ k = 2) with rfl | rfl
  · have HL := hid (left_any base p 0 bs W h1)
    by_cases hb : bs = []
    · subst hb
      have HE := hid (end_done base p 0 W h1)
      rw [errV_zero] at HE
      clear h1
      go_enter Tryd.func133, Tryd.ntmps133
      go_wp2_with (first
        | (go_at_call 69; refine HL.out.mono ?_; rintro r1 w1 ⟨rfl, rfl⟩)
        | (go_at_call 71; refine HE.out.mono ?_; rintro r2 w2 ⟨rfl, rfl⟩))
      go_ret
      exact ⟨rfl, rfl⟩
    · have hn : ((bs.length : Int) == 0) = false := by
        cases bs with
        | nil => exact absurd rfl hb
        | cons x l => simp; omega
      have hn2 : decide ((bs.length : Int) = 0) = false := by
        cases bs with
        | nil => exact absurd rfl hb
        | cons x l => simp; omega
      generalize bs.length = n at HL hn hn2
      clear h1 hb
      go_enter Tryd.func133, Tryd.ntmps133
      go_wp2_with (first
        | (go_at_call 69; refine HL.out.mono ?_; rintro r1 w1 ⟨rfl, rfl⟩))
      go_ret
      exact ⟨rfl, rfl⟩
  · have HL := hid (left_any base p 2 [] W h1)
    have HE := hid (end_done base p 2 W h1)
    rw [show errV 2 = .iface 49 (.int .i64 2) from errV_pos (by decide)] at HE
    clear h1
    go_enter Tryd.func133, Tryd.ntmps133
    go_wp2_with (first
      | (go_at_call 69; refine HL.out.mono ?_; rintro r1 w1 ⟨rfl, rfl⟩)
      | (go_at_call 71; refine HE.out.mono ?_; rintro r2 w2 ⟨rfl, rfl⟩))
    go_ret
    exact ⟨rfl, rfl⟩
theorem Lst13.keep {V V' : World} {lo X : Nat} {o : Ord13} {A1 A2 : Option Addr} {c1 c2 : Nat} {S : Nat → Prop} (h : Lst13 V lo X o A1 A2 c1 c2) (hf : Fr S V V') (hs : ∀ g, S g → g < lo) : Lst13 V' lo X o A1 A2 c1 c2 :=
  ⟨⟨Rd.fr h.i.i hf (fun b q e c => by have := h.a b q e; have := hs b c; omega), Rd.fr h.i.s hf (fun b q e c => by have := h.b b q e; have := hs b c; omega), h.i.ci, h.i.cs⟩, h.a, h.b⟩
/-- What Read has in memory. -/
structure TrW (w : World) (base : Nat → Prop) (p : Nat) (C : List Value) (s : Rs) (V : World) : Prop where
  r : RT V (fun g => base g ∧ g < w.heap.size) p s
  z : At V w.heap.size (tkV tk0 none none 0 0).toArray 105
  x : At V (w.heap.size + 1) C.toArray 105
  f : Fr (Only p) w V
section
variable {w V V' : World} {base : Nat → Prop} {p : Nat} {C C' : List Value} {s s' : Rs}
theorem TrW.start (h : RT w base p s) : TrW w base p (tkV tk0 none none 0 0) s ((w.alloc (.cells (tkV tk0 none none 0 0).toArray 105)).alloc (.cells (tkV tk0 none none 0 0).toArray 105)) :=
  ⟨h.old.new (((Below.refl _ _).alloc (Nat.le_refl _) _).alloc (by simp) _), (At.new _ _ _).alloc _, At.new_at (by simp), ((Fr.refl _ w).alloc _).alloc _⟩
theorem TrW.read (k : TrW w base p C s V) (hr : RT V' (fun g => base g ∧ g < w.heap.size) p s') (hf : Fr (Only p) V V') : TrW w base p C s' V' := by
  have hp : p < w.heap.size := hr.low.2
  exact ⟨hr, k.z.fr hf (fun c => by have h1 : w.heap.size = p := c; omega), k.x.fr hf (fun c => by have h1 : w.heap.size + 1 = p := c; omega), k.f.trans hf⟩
theorem TrW.new (k : TrW w base p C s V) (hb : Below V.heap.size V V') : TrW w base p C s V' := ⟨k.r.new hb, k.z.new_ hb, k.x.new_ hb, k.f.trans (Fr.of_new hb)⟩
theorem TrW.fill (k : TrW w base p C s V) (hA : At V' (w.heap.size + 1) C'.toArray 105) (hF : Fr (fun j => j = w.heap.size + 1) V V') : TrW w base p C' s V' :=
  ⟨k.r.fr hF (fun g hg c => by have h1 : base g ∧ g < w.heap.size := hg; have h2 : g = w.heap.size + 1 := c; omega), k.z.fr hF (fun c => by have h2 : w.heap.size = w.heap.size + 1 := c; omega), hA, k.f.next hF (fun g hg c => by have h2 : g = w.heap.size + 1 := c; omega)⟩
end
theorem frCells (V : World) (g : Nat) : ∀ (vs : List Value) (W : World) (o : Nat), Fr (fun j => j = g) V W → Fr (fun j => j = g) V (W.setCells g o vs)
  | [], _, _, h => h
  | v :: r, _, o, h => frCells V g r _ (o + 1) (h.setCell (p := ⟨g, o, none⟩) (.inr rfl) v)
theorem tkV_setOrd (p e : Nat) (o : Ord13) (A1 A2 : Option Addr) (c1 c2 : Nat) (tg : List UInt8) : spv (tkV ⟨p, e, ord0, tg⟩ none none 0 0) 2 (ordV o A1 A2 c1 c2) = tkV ⟨p, e, o, tg⟩ A1 A2 c1 c2 :=
  spv_at [.int .u64 (p : Int), .int .u64 (e : Int)] (ordV ord0 none none 0 0) (ubs tg) (ordV o A1 A2 c1 c2) rfl
theorem splice_no (l : List Value) (o n : Nat) : splice l o ((ubs []).take n) = l := by
  rw [show (ubs ([] : List UInt8)).take n = ([] : List Value) from List.take_nil]
  unfold splice
  rw [List.length_nil, Nat.add_zero, List.nil_append, List.take_append_drop]
/-- What Read comes to. -/
def PrOut (base : Nat → Prop) (p : Nat) (bs : List UInt8) (w : World) (r : Ending) (w' : World) : Prop :=
  (∃ t rest A1 A2 c1 c2, rdT bs = some (t, rest) ∧ r = .returned (.agg (tkV t A1 A2 c1 c2).toArray) ∧ Lst13 w' w.heap.size w'.heap.size t.o A1 A2 c1 c2 ∧ RT w' base p (0, rest) ∧ Fr (Only p) w w') ∨
  (rdT bs = none ∧ r = .returned (.agg (tkV tk0 none none 0 0).toArray) ∧ RT w' base p (2, []) ∧ Fr (Only p) w w')
set_option maxRecDepth 100000 in
set_option maxHeartbeats 8000000 in
/-- Read. -/
theorem ptread_any (base : Nat → Prop) (p : Nat) (bs : List UInt8) (w : World) (h : RT w base p (0, bs)) (hl : bs.length ≤ 1000000000) :
    Calls Tryd.prog 68 #[.pointer (some ⟨p, 0, none⟩)] w fun r w' => PrOut base p bs w r w' := by
  obtain ⟨s0, hs0⟩ : ∃ s : Rs, s = (0, bs) := ⟨_, rfl⟩
  have HA := RdA.start bs
  rw [← hs0] at HA h
  have l0 : s0.2.length ≤ 1000000000 := by rw [hs0]; exact hl
  obtain ⟨q, hq⟩ : ∃ x, x = (nmS 8 s0).1 := ⟨_, rfl⟩
  obtain ⟨s1, hs1⟩ : ∃ x, x = (nmS 8 s0).2 := ⟨_, rfl⟩
  obtain ⟨e, he⟩ : ∃ x, x = (nmS 8 s1).1 := ⟨_, rfl⟩
  obtain ⟨s2, hs2⟩ : ∃ x, x = (nmS 8 s1).2 := ⟨_, rfl⟩
  rw [← hq, ← hs1, ← he, ← hs2] at HA
  have hBB := rdOb_rdB HA
  have hBK := rdOb_kind (nmS 1 s2).1 (nmS 1 s2).2
  obtain ⟨hok, hk1, hk2, hk3⟩ := rdOb_ok (nmS 1 s2).1 (nmS 1 s2).2
  have hk1lt := nmS_lt 1 s2
  rw [show rdOb (nmS 1 s2).1 (nmS 1 s2).2 = rdOP s2 from rfl] at hBB hBK hok hk1 hk2 hk3
  have l1 : s1.2.length ≤ 1000000000 := by rw [hs1]; exact Nat.le_trans (nmS_le 8 s0) l0
  have l2 : s2.2.length ≤ 1000000000 := by rw [hs2]; exact Nat.le_trans (nmS_le 8 s1) l1
  have l3 : (rdOP s2).2.2.length ≤ 1000000000 := Nat.le_trans hk3 (Nat.le_trans (nmS_le 1 s2) l2)
  have hsl6 : (rdOP s2).1.sl.length ≤ 1000000 := by
    have h1 : (nmS 1 (nmS 1 s2).2).1 < 256 := nmS_lt 1 _
    omega
  have HRO := hid (fun (V : World) (hr : RT V (fun g => base g ∧ g < w.heap.size) p s2) => prdorder_any (fun g => base g ∧ g < w.heap.size) p s2 V hr l2)
  obtain ⟨o, ho⟩ : ∃ x, x = (rdOP s2).1 := ⟨_, rfl⟩
  obtain ⟨s3, hs3⟩ : ∃ x, x = (rdOP s2).2 := ⟨_, rfl⟩
  rw [← ho] at hBB hBK hok hk1 hk2 hsl6 HRO
  rw [← hs3] at hBB l3 HRO
  have hT := hBB.tag
  have hTE := @tkS_err 16 s3
  have HRW := hid (fun (V : World) (hr : RT V (fun g => base g ∧ g < w.heap.size) p s3) => rt_raw (fun g => base g ∧ g < w.heap.size) p 16 s3 (by decide) V hr l3)
  obtain ⟨tg, htg⟩ : ∃ x, x = (tkS 16 s3).1 := ⟨_, rfl⟩
  obtain ⟨s4, hs4⟩ : ∃ x, x = (tkS 16 s3).2 := ⟨_, rfl⟩
  rw [← htg, ← hs4] at hT HRW
  rw [← htg, ← hs4] at hTE
  have HQ := hid (show q < 18446744073709551616 from by have := nmS_lt 8 s0; rw [hq]; omega)
  have HE := hid (show e < 18446744073709551616 from by have := nmS_lt 8 s1; rw [he]; omega)
  have HN0 := hid (fun (V : World) (hr : RT V (fun g => base g ∧ g < w.heap.size) p s0) => show Calls Tryd.prog 129 #[.pointer (some ⟨p, 0, none⟩), .int .i64 8] V (fun e' w' => e' = .returned (.int .u64 (q : Nat)) ∧ RT w' (fun g => base g ∧ g < w.heap.size) p s1 ∧ Fr (Only p) V w') from by
    have := rt_num (fun g => base g ∧ g < w.heap.size) p 8 s0 (by unfold Sz; omega) V hr
    rw [← hq, ← hs1] at this
    exact this)
  have HN1 := hid (fun (V : World) (hr : RT V (fun g => base g ∧ g < w.heap.size) p s1) => show Calls Tryd.prog 129 #[.pointer (some ⟨p, 0, none⟩), .int .i64 8] V (fun e' w' => e' = .returned (.int .u64 (e : Nat)) ∧ RT w' (fun g => base g ∧ g < w.heap.size) p s2 ∧ Fr (Only p) V w') from by
    have := rt_num (fun g => base g ∧ g < w.heap.size) p 8 s1 (by unfold Sz; omega) V hr
    rw [← he, ← hs2] at this
    exact this)
  -- what the tag's bytes are in the ticket, and what the whole comes to
  have hcase : ∃ tg2 : List UInt8, tg2.length = 16 ∧ (∀ (A1 A2 : Option Addr) (c1 c2 : Nat), splice (tkV ⟨q, e, o, n16⟩ A1 A2 c1 c2) 6 ((ubs tg).take 16) = tkV ⟨q, e, o, tg2⟩ A1 A2 c1 c2) ∧ tg.length ≤ 16 ∧
      ((s4.1 = 0 ∧ rdT bs = if mayN ⟨q, e, o, tg2⟩ = 0 then some (⟨q, e, o, tg2⟩, s4.2) else none) ∨ (s4.1 = 2 ∧ rdT bs = none)) := by
    have hoe : (⟨q, e, o, tg⟩ : Tk13) = ⟨q, e, ⟨((nmS 1 s2).1 : Nat), o.idx, o.sl, o.blocks⟩, tg⟩ := by rw [← hBK]
    rcases hT with ⟨h1, h2, h3, h4⟩ | ⟨h1, h2⟩
    · refine ⟨tg, h2, fun A1 A2 c1 c2 => tkV_splice q e o A1 A2 c1 c2 h2, Nat.le_of_eq h2, .inl ⟨h1, ?_⟩⟩
      rw [hoe]
      exact h4
    · have h3 : tg = [] := (hTE (by rw [h1]; decide)).1
      subst h3
      exact ⟨n16, by simp [n16], fun A1 A2 c1 c2 => splice_no _ 6 16, by simp, .inr ⟨h1, h2⟩⟩
  obtain ⟨tg2, ht2, hsp, htl, hfin⟩ := hcase
  have HSP := hid hsp
  have HT2 := hid ht2
  have HTGL := hid htl
  have HFIN := hid hfin
  have HCF := hid (fun (V : World) (A1 A2 : Option Addr) (c1 c2 : Nat) (hm : OrI V V.heap.size o A1 A2 c1 c2) => pcheckf_any rgtC_any q e o tg2 A1 A2 c1 c2 V HQ.out HE.out hok hm hsl6)
  obtain ⟨mm, hmm⟩ : ∃ x, x = mayN ⟨q, e, o, tg2⟩ := ⟨_, rfl⟩
  have HMM := hid hmm
  rw [← hmm] at HCF
  have HAP := hid (fun (o : Oper) (a : Go.Act) (W : World) (h : o.op = .alloc 105) => run_alloc_of (o := o) (a := a) (W := W) _ h (tkV tk0 none none 0 0).toArray zeroPT13)
  have K0 := hid (TrW.start h)
  have HL0 := hid (fun (A1 A2 : Option Addr) (c1 c2 : Nat) => tkV_length (t := ⟨q, e, o, n16⟩) n16_length A1 A2 c1 c2)
  have HL2 := hid (fun (A1 A2 : Option Addr) (c1 c2 : Nat) => tkV_length (t := ⟨q, e, o, tg2⟩) ht2 A1 A2 c1 c2)
  have HA2 := hid (fun (A1 A2 : Option Addr) (c1 c2 : Nat) => tkV_all ⟨q, e, o, tg2⟩ A1 A2 c1 c2)
  have HBZ := hid (fun (o : Oper) (a : Go.Act) (W : World) (h : o.op = .build 105 #[]) => run_build_pt0 (o := o) (a := a) (W := W) h)
  have HPH := hid (show ∀ V : World, RT V (fun g => base g ∧ g < w.heap.size) p s4 → p < w.heap.size from fun V hr => hr.low.2)
  clear hsl6 h hl hs0 HA l0 hq hs1 he hs2 hBB hBK hok hk1 hk2 hk3 hk1lt l1 l2 l3 ho hs3 hT hTE htg hs4 ht2 hsp htl hfin hmm
  go_enter Tryd.func68, Tryd.ntmps68
  go_upto_region 2 with (first
    | (refine Great.wpList_allocTo rfl _ rfl _ _ (HAP.out _ _ _ rfl) ?_; try simp only [World.size_alloc]))
  generalize ((w.alloc (.cells (tkV tk0 none none 0 0).toArray 105)).alloc (.cells (tkV tk0 none none 0 0).toArray 105)) = w0 at K0 ⊢
  go_upto_region 3 with (first
    | (go_at_call 129; refine (HN0.out w0 K0.out.r).mono ?_; rintro r1 w1 ⟨rfl, h1, h2⟩; have K1 := hid (K0.out.read h1 h2); clear h1 h2; have x0 := K1.out.x.cell 0; have y0 := K1.out.x.frozen 0; simp only [tkV, ordV, tk0, ord0, List.getElem?_toArray, List.cons_append, List.getElem?_cons_zero] at x0))
  have hF1 : Fr (fun j => j = w.heap.size + 1) w1 (w1.setCell ⟨w.heap.size + 1, 0, none⟩ (.int .u64 (q : Int))) := (Fr.refl (fun j => j = w.heap.size + 1) w1).setCell (p := ⟨w.heap.size + 1, 0, none⟩) (.inr rfl) _
  have K2 := hid (show TrW w base p (tkV ⟨q, 0, ord0, n16⟩ none none 0 0) s1 (w1.setCell ⟨w.heap.size + 1, 0, none⟩ (.int .u64 (q : Int))) from K1.out.fill (at_setVals K1.out.x 0 [.int .u64 (q : Int)]) hF1)
  generalize w1.setCell ⟨w.heap.size + 1, 0, none⟩ (.int .u64 (q : Int)) = w2 at K2 ⊢
  clear x0 y0 hF1 K0 K1 HN0
  go_upto_region 4 with (first
    | (go_at_call 129; refine (HN1.out w2 K2.out.r).mono ?_; rintro r3 w3 ⟨rfl, h1, h2⟩; have K3 := hid (K2.out.read h1 h2); clear h1 h2; have x0 := K3.out.x.cell 1; have y0 := K3.out.x.frozen 1; simp only [tkV, ordV, List.getElem?_toArray, List.cons_append, List.getElem?_cons_succ, List.getElem?_cons_zero] at x0))
  have hF3 : Fr (fun j => j = w.heap.size + 1) w3 (w3.setCell ⟨w.heap.size + 1, 1, none⟩ (.int .u64 (e : Int))) := (Fr.refl (fun j => j = w.heap.size + 1) w3).setCell (p := ⟨w.heap.size + 1, 1, none⟩) (.inr rfl) _
  have K4 := hid (show TrW w base p (tkV ⟨q, e, ord0, n16⟩ none none 0 0) s2 (w3.setCell ⟨w.heap.size + 1, 1, none⟩ (.int .u64 (e : Int))) from K3.out.fill (at_setVals K3.out.x 1 [.int .u64 (e : Int)]) hF3)
  generalize w3.setCell ⟨w.heap.size + 1, 1, none⟩ (.int .u64 (e : Int)) = w4 at K4 ⊢
  clear x0 y0 hF3 K2 K3 HN1
  go_upto_region 5 with (first
    | (go_at_call 130; refine (HRO.out w4 K4.out.r).mono ?_; rintro r5 w5 ⟨A1, A2, c1, c2, rfl, hL, h1, h2⟩; have K5 := hid (K4.out.read h1 h2); have L5 := hid hL; have LO := hid (show w.heap.size + 1 < w4.heap.size from K4.out.x.lt); have HTH := hid (show w5.there (w.heap.size + 1) 2 4 from fun j hj => ⟨by rw [K5.out.x.cell, List.getElem?_toArray, List.getElem?_eq_getElem (by rw [tkV_length (t := ⟨q, e, ord0, n16⟩) n16_length]; omega)]; rfl, K5.out.x.frozen _⟩); clear h1 h2 hL K4)
    | (refine wpList_store_mid rfl 93 (.tmp 12) (.tmp 11) rfl (w.heap.size + 1) 2 (ordV o A1 A2 c1 c2).toArray rfl rfl (by have := HTH.out; exact this) (sizePO_of (ordV_length o A1 A2 c1 c2)) (ordV_all o A1 A2 c1 c2) ?_; have hF5 := frCells w5 (w.heap.size + 1) (ordV o A1 A2 c1 c2) w5 2 (Fr.refl _ w5); have K6 := hid (show TrW w base p (tkV ⟨q, e, o, n16⟩ A1 A2 c1 c2) s3 (w5.setCells (w.heap.size + 1) 2 (ordV o A1 A2 c1 c2)) from K5.out.fill (by have := at_setVals K5.out.x 2 (ordV o A1 A2 c1 c2); rw [tkV_setOrd] at this; exact this) hF5); have L6 := hid (L5.out.keep hF5 (fun g hg => by have h9 : g = w.heap.size + 1 := hg; have := LO.out; omega)); rw [List.toList_toArray]; generalize (w5.setCells (w.heap.size + 1) 2 (ordV o A1 A2 c1 c2)) = w6 at K6 L6 ⊢; clear hF5 HTH))
  try simp only [Act.put]
  refine wp_region_upto (fun _ => True) 5 5 (by kernel_rfl) (by kernel_rfl) ?_
  have K7 := hid (K6.out.new (Below.refl w6.heap.size w6).drew)
  have L7 := hid (show Lst13 w6.drew w4.heap.size w5.heap.size o A1 A2 c1 c2 from L6.out.keep (S := fun _ => False) (Fr.of_new (Below.refl w6.heap.size w6).drew) (fun _ h => h.elim))
  generalize w6.drew = w7 at K7 L7 ⊢
  clear K5 K6 L5 L6 HRO
  refine wpUpto_takeL (i := 0) (v := .pointer (some ⟨w.heap.size + 1, 6, none⟩)) rfl rfl (by decide +kernel) (by decide +kernel) (by decide +kernel) (by decide +kernel) (by decide) (fun _ _ _ h => h) (Or.inl ⟨by rfl, ?_⟩) trivial ?_
  · (intro W hSW; go_simp)
  simp only [List.set_cons_succ, List.set_cons_zero]
  refine wpUpto_takeL (i := 1) (v := .slice (some ⟨w.heap.size + 1, 6, none⟩) 16 16) rfl rfl (by decide +kernel) (by decide +kernel) (by decide +kernel) (by decide +kernel) (by decide) (fun _ _ _ h => h) (Or.inl ⟨by rfl, ?_⟩) trivial ?_
  · (intro W hSW; go_simp)
  simp only [List.set_cons_succ, List.set_cons_zero]
  refine wpUpto_takeL (i := 2) (v := .pointer (some ⟨p, 0, none⟩)) rfl rfl (by decide +kernel) (by decide +kernel) (by decide +kernel) (by decide +kernel) (by decide) (fun _ _ _ h => h) (Or.inl ⟨by rfl, ?_⟩) trivial ?_
  · (intro W hSW; go_simp)
  simp only [List.set_cons_succ, List.set_cons_zero]
  refine wpUpto_one (i := 3) rfl (by decide +kernel) rfl ?_
  intro Q0 hQ0
  go_simp
  go_at_call 131
  refine (HRW.out w7 K7.out.r).mono ?_
  rintro e1 w8 ⟨A8, c8, rfl, hb8, h1, h2⟩
  have K8 := hid (K7.out.read h1 h2)
  have HP := hid (HPH.out w8 h1)
  have L8 := hid (L7.out.keep h2 (fun g hg => by have h9 : g = p := hg; have := HP.out; have := LO.out; omega))
  have B8 := hid hb8
  refine hQ0.out _ _ (fun _ => trivial) ?_
  clear hQ0 Q0 h1 h2 hb8 K7 L7
  try simp only [Act.put, List.setIfInBounds_toArray, List.set_cons_succ, List.set_cons_zero]
  refine wpUpto_one (i := 4) rfl (by decide +kernel) rfl ?_
  intro Q0 hQ0
  refine wp_copy_rd (.tmp 14) (.tmp 16) _ _ rfl 5 Tryd.underlying22 sizeU8 (w.heap.size + 1) 6 16 16 w8.heap.size A8 tg.length c8 rfl rfl (tkV ⟨q, e, o, n16⟩ A1 A2 c1 c2) 105 K8.out.x (ubs tg) B8.out (ubs_length tg) (by rw [HL0.out A1 A2 c1 c2]; have := HTGL.out; omega) (ubs_one _) ?_
  intro w9 hA hF
  rw [HSP.out A1 A2 c1 c2] at hA
  have K9 := hid (K8.out.fill hA hF)
  have L9 := hid (L8.out.keep hF (fun g hg => by have h9 : g = w.heap.size + 1 := hg; have := LO.out; omega))
  have SZ := hid (show w5.heap.size ≤ w5.heap.size from Nat.le_refl _)
  refine hQ0.out _ _ (fun _ => trivial) ?_
  clear hQ0 Q0 hA hF K8 L8 B8
  refine wpUpto_done (by decide +kernel) ?_ _
  go_simp
  have I9 := hid (show OrI w9 w9.heap.size o A1 A2 c1 c2 from ⟨Rd.lt L9.out.i.i, Rd.lt L9.out.i.s, L9.out.i.ci, L9.out.i.cs⟩)
  obtain ⟨⟨x0, x1⟩, -⟩ := tkV_cells K9.out.x
  by_cases hz : mm = 0
  · subst hz
    rw [errV_zero] at HCF
    have HHF := hid (fun (V : World) (hr : RT V (fun g => base g ∧ g < w.heap.size) p s4) => phasfailed_any (fun g => base g ∧ g < w.heap.size) p s4 V hr)
    rcases HFIN.out with ⟨hk, hrd⟩ | ⟨hk, hrd⟩
    · have HRD := hid (show rdT bs = some (⟨q, e, o, tg2⟩, s4.2) by rw [hrd, ← HMM.out, if_pos rfl])
      rw [show decide (s4.1 = 2) = false from decide_eq_false (by rw [hk]; decide)] at HHF
      have HK := hid (show s4 = (0, s4.2) by rw [← hk])
      clear hk hrd HFIN
      go_wp2_with (first
        | (refine wpList_valW (by rfl) (run_loadPO (.tmp 22) rfl (w.heap.size + 1) 2 rfl (ordV o A1 A2 c1 c2) (tkV_ord K9.out.x) (ordV_length o A1 A2 c1 c2)) ?_; try simp only [Act.put, List.setIfInBounds_toArray, List.set_cons_succ, List.set_cons_zero])
        | (go_at_call 120; refine (HCF.out w9 A1 A2 c1 c2 I9.out).mono ?_; rintro r10 w10 ⟨rfl, h10⟩; have K10 := hid (K9.out.new h10); have L10 := hid (L9.out.keep (S := fun _ => False) (Fr.of_new h10) (fun _ h => h.elim)); clear h10 x0 x1)
        | (go_at_call 133; refine (HHF.out w10 K10.out.r).mono ?_; rintro r11 w11 ⟨rfl, rfl⟩)
        | (refine wpList_valW (by rfl) (run_loadPT (.tmp 3) rfl (w.heap.size + 1) rfl (tkV ⟨q, e, o, tg2⟩ A1 A2 c1 c2) 105 K10.out.x (HL2.out A1 A2 c1 c2)) ?_; try simp only [Act.put, List.setIfInBounds_toArray, List.set_cons_succ, List.set_cons_zero])
        | (refine wpList_store_row rfl _ (.tmp 2) (.tmp 32) rfl w.heap.size (tkV ⟨q, e, o, tg2⟩ A1 A2 c1 c2).toArray rfl rfl 105 (tkV tk0 none none 0 0).toArray K10.out.z (sizePT_of (HL2.out A1 A2 c1 c2)) ((show (tkV tk0 none none 0 0).length = 22 from rfl).trans (HL2.out A1 A2 c1 c2).symm) (HA2.out A1 A2 c1 c2) ?_))
      refine bodyPost_ret (results_cell_row rfl _ _ w.heap.size 105 (tkV ⟨q, e, o, tg2⟩ A1 A2 c1 c2).toArray (0, 0) _ rfl (setRow_heap _ _ _ _ _ _ K10.out.z) Tryd.underlying105 rfl (sizePT_of (HL2.out A1 A2 c1 c2))) rfl ?_
      have hFZ : Fr (fun g => g = w.heap.size) w10 (w10.setRow w.heap.size (tkV ⟨q, e, o, tg2⟩ A1 A2 c1 c2).toArray) := (Fr.refl (fun g => g = w.heap.size) w10).setRow (.inr rfl) _
      have hL := L10.out.keep hFZ (fun g hg => by have h9 : g = w.heap.size := hg; have := LO.out; omega)
      refine .inl ⟨⟨q, e, o, tg2⟩, s4.2, A1, A2, c1, c2, HRD.out, rfl, ⟨⟨Rd.lt hL.i.i, Rd.lt hL.i.s, hL.i.ci, hL.i.cs⟩, (fun b q e => by have := hL.a b q e; have := LO.out; omega), fun b q e => by have := hL.b b q e; have := LO.out; omega⟩, ?_, K10.out.f.setRow (.inl (Nat.le_refl _)) _⟩
      rw [← HK.out]
      exact (K10.out.r.fr hFZ (fun g hg c => by have h1 : base g ∧ g < w.heap.size := hg; have h2 : g = w.heap.size := c; omega)).mono (fun _ hg => hg.1)
    · have HRD := hid hrd
      rw [show decide (s4.1 = 2) = true from decide_eq_true hk] at HHF
      have HK := hid hk
      clear hk hrd HFIN
      go_wp2_with (first
        | (refine wpList_valW (by rfl) (run_loadPO (.tmp 22) rfl (w.heap.size + 1) 2 rfl (ordV o A1 A2 c1 c2) (tkV_ord K9.out.x) (ordV_length o A1 A2 c1 c2)) ?_; try simp only [Act.put, List.setIfInBounds_toArray, List.set_cons_succ, List.set_cons_zero])
        | (go_at_call 120; refine (HCF.out w9 A1 A2 c1 c2 I9.out).mono ?_; rintro r10 w10 ⟨rfl, h10⟩; have K10 := hid (K9.out.new h10); clear h10 x0 x1)
        | (go_at_call 133; refine (HHF.out w10 K10.out.r).mono ?_; rintro r11 w11 ⟨rfl, rfl⟩)
        | (refine wpList_valW (by rfl) (HBZ.out _ _ _ rfl) ?_; try simp only [Act.put, List.setIfInBounds_toArray, List.set_cons_succ, List.set_cons_zero])
        | (refine wpList_store_row rfl _ (.tmp 2) (.tmp 31) rfl w.heap.size (tkV tk0 none none 0 0).toArray rfl rfl 105 (tkV tk0 none none 0 0).toArray K10.out.z (sizePT_of rfl) rfl (tkV_all _ _ _ _ _) ?_))
      refine bodyPost_ret (results_cell_row rfl _ _ w.heap.size 105 (tkV tk0 none none 0 0).toArray (0, 0) _ rfl (setRow_heap _ _ _ _ _ _ K10.out.z) Tryd.underlying105 rfl (sizePT_of rfl)) rfl ?_
      have hFZ : Fr (fun g => g = w.heap.size) w10 (w10.setRow w.heap.size (tkV tk0 none none 0 0).toArray) := (Fr.refl (fun g => g = w.heap.size) w10).setRow (.inr rfl) _
      refine .inr ⟨HRD.out, rfl, ?_, K10.out.f.setRow (.inl (Nat.le_refl _)) _⟩
      have hr := (K10.out.r.fr hFZ (fun g hg c => by have h1 : base g ∧ g < w.heap.size := hg; have h2 : g = w.heap.size := c; omega)).mono (base' := base) (fun _ hg => hg.1)
      obtain ⟨h1, h2⟩ := hr
      rw [HK.out] at h1
      exact ⟨by unfold lf at h1; rw [if_neg (by rw [HK.out]; decide)] at h1; exact h1, .inr rfl⟩
  · have HRD := hid (show rdT bs = none by
      rcases HFIN.out with ⟨-, hrd⟩ | ⟨-, hrd⟩
      · rw [hrd, if_neg (by rw [← HMM.out]; exact hz)]
      · exact hrd)
    rw [show errV mm = .iface 49 (.int .i64 mm) from errV_pos hz] at HCF
    have HFL := hid (fun (V : World) (hr : RT V (fun g => base g ∧ g < w.heap.size) p s4) => show Calls Tryd.prog 132 #[.pointer (some ⟨p, 0, none⟩), .iface 49 (.int .i64 2)] V (fun e' w' => e' = .returned (.tuple #[]) ∧ RT w' (fun g => base g ∧ g < w.heap.size) p (2, []) ∧ Fr (Only p) V w') from by
      have := fail_any (fun g => base g ∧ g < w.heap.size) p s4.1 (lf s4) V 2 (by decide) hr.rs
      rw [show errV 2 = .iface 49 (.int .i64 2) from errV_pos (by decide)] at this
      refine this.mono ?_
      rintro e' w' ⟨h1, h2, h3⟩
      refine ⟨h1, ⟨?_, .inr rfl⟩, h3⟩
      rcases hr.st with h4 | h4
      · rw [h4] at h2; exact h2
      · rw [h4] at h2; exact h2)
    have HHF := hid (fun (V : World) (hr : RT V (fun g => base g ∧ g < w.heap.size) p (2, [])) => show Calls Tryd.prog 133 #[.pointer (some ⟨p, 0, none⟩)] V (fun r W' => r = .returned (.bool true) ∧ V = W') from phasfailed_any (fun g => base g ∧ g < w.heap.size) p (2, []) V hr)
    clear hz HFIN
    go_wp2_with (first
      | (refine wpList_valW (by rfl) (run_loadPO (.tmp 22) rfl (w.heap.size + 1) 2 rfl (ordV o A1 A2 c1 c2) (tkV_ord K9.out.x) (ordV_length o A1 A2 c1 c2)) ?_; try simp only [Act.put, List.setIfInBounds_toArray, List.set_cons_succ, List.set_cons_zero])
      | (go_at_call 120; refine (HCF.out w9 A1 A2 c1 c2 I9.out).mono ?_; rintro r10 w10 ⟨rfl, h10⟩; have K10 := hid (K9.out.new h10); clear h10 x0 x1)
      | (go_at_call 132; refine (HFL.out w10 K10.out.r).mono ?_; rintro r11 w11 ⟨rfl, h1, h2⟩; have K11 := hid (K10.out.read h1 h2); clear h1 h2)
      | (go_at_call 133; refine (HHF.out w11 K11.out.r).mono ?_; rintro r12 w12 ⟨rfl, rfl⟩)
      | (refine wpList_valW (by rfl) (HBZ.out _ _ _ rfl) ?_; try simp only [Act.put, List.setIfInBounds_toArray, List.set_cons_succ, List.set_cons_zero])
      | (refine wpList_store_row rfl _ (.tmp 2) (.tmp 31) rfl w.heap.size (tkV tk0 none none 0 0).toArray rfl rfl 105 (tkV tk0 none none 0 0).toArray K11.out.z (sizePT_of rfl) rfl (tkV_all _ _ _ _ _) ?_))
    refine bodyPost_ret (results_cell_row rfl _ _ w.heap.size 105 (tkV tk0 none none 0 0).toArray (0, 0) _ rfl (setRow_heap _ _ _ _ _ _ K11.out.z) Tryd.underlying105 rfl (sizePT_of rfl)) rfl ?_
    have hFZ : Fr (fun g => g = w.heap.size) w11 (w11.setRow w.heap.size (tkV tk0 none none 0 0).toArray) := (Fr.refl (fun g => g = w.heap.size) w11).setRow (.inr rfl) _
    exact .inr ⟨HRD.out, rfl, (K11.out.r.fr hFZ (fun g hg c => by have h1 : base g ∧ g < w.heap.size := hg; have h2 : g = w.heap.size := c; omega)).mono (fun _ hg => hg.1), K11.out.f.setRow (.inl (Nat.le_refl _)) _⟩
end Go.Proofs.YtfmbpdjcoopaeaaDoor

namespace Go.Proofs.YtfmbpdjcoopaeaaDoor
open Go.RowKit

/-- From: a reader of all the bytes. -/
theorem pfrom_rt (bs : List UInt8) (A : Option Addr) (c : Nat) (w : World) (hx : Rb w w.heap.size A bs) (hl : bs.length ≤ 1000000000) :
    Calls Tryd.prog 67 #[.slice A bs.length c] w fun e w' => ∃ p, e = .returned (.pointer (some ⟨p, 0, none⟩)) ∧ w.heap.size ≤ p ∧ RT w' (fun g => w.heap.size ≤ g ∧ g < w'.heap.size) p (0, bs) ∧ Below w.heap.size w w' := by
  refine (from_any bs A c w hx hl).mono ?_
  rintro e w' ⟨p, h1, h2, h3, h4⟩
  exact ⟨p, h1, h2, RT.start h3, h4⟩
/-- End, by the reader's state. -/
def enS (s : Rs) : Nat := if s.1 = 0 ∧ s.2 = [] then 0 else 2
theorem pend_rt (base : Nat → Prop) (p : Nat) (s : Rs) (w : World) (h : RT w base p s) :
    Calls Tryd.prog 71 #[.pointer (some ⟨p, 0, none⟩)] w fun e w' => e = .returned (errV (enS s)) ∧ w = w' := by
  obtain ⟨k, bs⟩ := s
  obtain ⟨h1, h2⟩ := h
  rcases (h2 : k = 0 ∨ k = 2) with rfl | rfl
  · by_cases hb : bs = []
    · subst hb
      exact end_done base p 0 w h1
    · have e : enS (0, bs) = 2 := by unfold enS; rw [if_neg (fun h => hb h.2)]
      rw [e]
      exact end_more base p 0 bs w h1 (List.length_pos_iff.2 hb)
  · have e : enS (2, bs) = 2 := by unfold enS; rw [if_neg (fun h => absurd (show (2 : Nat) = 0 from h.1) (by decide))]
    rw [e]
    exact end_done base p 2 w h1
set_option maxRecDepth 100000 in
set_option maxHeartbeats 4000000 in
/-- Parse, of a ticket's bytes. -/
theorem pparse13_ok (bs : List UInt8) (A : Option Addr) (c : Nat) (w : World) (hx : Rb w w.heap.size A bs) (hl : bs.length ≤ 1000000000) (t : Tk13) (ht : rdT bs = some (t, [])) :
    Calls Tryd.prog 73 #[.slice A bs.length c] w fun r w' => ∃ A1 A2 c1 c2, r = .returned (.tuple #[.agg (tkV t A1 A2 c1 c2).toArray, .nilIface]) ∧ Lst13 w' w.heap.size w'.heap.size t.o A1 A2 c1 c2 ∧ Below w.heap.size w w' := by
  obtain ⟨w0, hw0⟩ : ∃ w0, w0 = w.alloc (.cells (tkV tk0 none none 0 0).toArray 105) := ⟨_, rfl⟩
  have hb0 : Below w.heap.size w w0 := by rw [hw0]; exact (Below.refl _ _).alloc (Nat.le_refl _) _
  have hz0 : At w0 w.heap.size (tkV tk0 none none 0 0).toArray 105 := by rw [hw0]; exact At.new _ _ _
  have HFR := hid (pfrom_rt bs A c w0 ((hx.below hb0).mono hb0.size) hl)
  have HRD := hid (fun (V : World) (p : Nat) (hp : w0.heap.size ≤ p) (hb : Below w0.heap.size w0 V) (hr : RT V (fun g => w0.heap.size ≤ g ∧ g < V.heap.size) p (0, bs)) => show Calls Tryd.prog 68 #[.pointer (some ⟨p, 0, none⟩)] V (fun r w' => ∃ A1 A2 c1 c2, r = .returned (.agg (tkV t A1 A2 c1 c2).toArray) ∧ Lst13 w' w0.heap.size w'.heap.size t.o A1 A2 c1 c2 ∧ RT w' (fun g => w0.heap.size ≤ g ∧ g < V.heap.size) p (0, []) ∧ Below w0.heap.size w0 w') from by
    refine (ptread_any _ p bs V hr hl).mono ?_
    rintro r w' (⟨t', rest, A1, A2, c1, c2, h1, h2, h3, h4, h5⟩ | ⟨h1, -⟩)
    · rw [ht] at h1
      cases h1
      exact ⟨A1, A2, c1, c2, h2, ⟨h3.i, fun b q e => Nat.le_trans hb.size (h3.a b q e), fun b q e => Nat.le_trans hb.size (h3.b b q e)⟩, h4, hb.trans (h5.below (fun k hk => by have h9 : k = p := hk; omega) hb.size)⟩
    · rw [ht] at h1
      cases h1)
  have HEN := hid (fun (V : World) (base : Nat → Prop) (p : Nat) (hr : RT V base p (0, [])) => show Calls Tryd.prog 71 #[.pointer (some ⟨p, 0, none⟩)] V (fun e w' => e = .returned .nilIface ∧ V = w') from pend_rt base p (0, []) V hr)
  have htk := ((rdT_iff bs t []).1 ht).1
  have HL2 := hid (fun (A1 A2 : Option Addr) (c1 c2 : Nat) => tkV_length (t := t) htk.2.2.2 A1 A2 c1 c2)
  have HA2 := hid (fun (A1 A2 : Option Addr) (c1 c2 : Nat) => tkV_all t A1 A2 c1 c2)
  have HAP := hid (fun (o : Oper) (a : Go.Act) (W : World) (h : o.op = .alloc 105) => run_alloc_of (o := o) (a := a) (W := W) _ h (tkV tk0 none none 0 0).toArray zeroPT13)
  have HZ := hid (fun (V : World) (hb : Below w0.heap.size w0 V) => And.intro (hz0.new_ hb) (hb0.trans (hb.mono hb0.size)))
  have HSZ := hid (show w.heap.size < w0.heap.size from hz0.lt)
  generalize bs.length = n at HFR
  clear hx hl ht hb0 hz0 htk
  subst hw0
  go_enter Tryd.func73, Tryd.ntmps73
  go_wp2_with (first
    | (refine Great.wpList_allocTo rfl _ rfl _ _ (HAP.out _ _ _ rfl) ?_)
    | (go_at_call 67; refine HFR.out.mono ?_; rintro r1 w1 ⟨p, rfl, hp1, hr1, hb1⟩; have R1 := hid (HRD.out w1 p hp1 hb1 hr1); clear hp1 hb1 hr1)
    | (go_at_call 68; refine R1.out.mono ?_; rintro r2 w2 ⟨A1, A2, c1, c2, rfl, hi2, hr2, hb2⟩; have R2 := hid hr2; have I2 := hid hi2; have B2 := hid hb2; clear hr2 hi2 hb2)
    | (refine wpList_store_row rfl _ (.tmp 5) (.tmp 10) rfl w2.heap.size (tkV t A1 A2 c1 c2).toArray rfl rfl 105 (tkV tk0 none none 0 0).toArray (heap_alloc_new _ _) (sizePT_of (HL2.out A1 A2 c1 c2)) ((show (tkV tk0 none none 0 0).length = 22 from rfl).trans (HL2.out A1 A2 c1 c2).symm) (HA2.out A1 A2 c1 c2) ?_; have R3 := hid (R2.out.new (pt_stored_below w2 (tkV t A1 A2 c1 c2))); have I3 := hid (I2.out.below (pt_stored_below w2 (tkV t A1 A2 c1 c2))); have X3 := hid (pt_stored w2 (tkV t A1 A2 c1 c2)); have B3 := hid (B2.out.trans ((pt_stored_below w2 (tkV t A1 A2 c1 c2)).mono B2.out.size)); generalize ((w2.alloc (.cells (tkV tk0 none none 0 0).toArray 105)).setRow w2.heap.size (tkV t A1 A2 c1 c2).toArray) = w3 at R3 I3 X3 B3 ⊢)
    | (go_at_call 71; refine (HEN.out w3 _ p R3.out).mono ?_; rintro r4 w4 ⟨rfl, rfl⟩)
    | (refine wpList_valW (by rfl) (run_loadPT (.tmp 5) rfl w2.heap.size rfl (tkV t A1 A2 c1 c2) 105 X3.out (HL2.out A1 A2 c1 c2)) ?_; try simp only [Act.put, List.setIfInBounds_toArray, List.set_cons_succ, List.set_cons_zero])
    | (refine wpList_store_row rfl _ (.tmp 2) (.tmp 17) rfl w.heap.size (tkV t A1 A2 c1 c2).toArray rfl rfl 105 (tkV tk0 none none 0 0).toArray (HZ.out w3 B3.out).1 (sizePT_of (HL2.out A1 A2 c1 c2)) ((show (tkV tk0 none none 0 0).length = 22 from rfl).trans (HL2.out A1 A2 c1 c2).symm) (HA2.out A1 A2 c1 c2) ?_))
  refine bodyPost_ret (results_row_tmp rfl _ _ w.heap.size 105 (tkV t A1 A2 c1 c2).toArray (0, 0) _ rfl (setRow_heap _ _ _ _ _ _ (HZ.out w3 B3.out).1) Tryd.underlying105 rfl (sizePT_of (HL2.out A1 A2 c1 c2))) rfl ?_
  have hFZ : Fr (fun g => g = w.heap.size) w3 (w3.setRow w.heap.size (tkV t A1 A2 c1 c2).toArray) := (Fr.refl (fun g => g = w.heap.size) w3).setRow (.inr rfl) _
  have hL := I3.out.keep hFZ (fun g hg => by have h9 : g = w.heap.size := hg; have := HSZ.out; omega)
  exact ⟨A1, A2, c1, c2, rfl, ⟨⟨Rd.lt hL.i.i, Rd.lt hL.i.s, hL.i.ci, hL.i.cs⟩, (fun b q e => by have := hL.a b q e; have := HSZ.out; omega), fun b q e => by have := hL.b b q e; have := HSZ.out; omega⟩, below_setRow (HZ.out w3 B3.out).2 (Nat.le_refl _) _⟩
set_option maxRecDepth 100000 in
set_option maxHeartbeats 4000000 in
/-- Parse, of what isn't a ticket's bytes. -/
theorem pparse13_no (bs : List UInt8) (A : Option Addr) (c : Nat) (w : World) (hx : Rb w w.heap.size A bs) (hl : bs.length ≤ 1000000000) (ht : ∀ t, rdT bs ≠ some (t, [])) :
    Calls Tryd.prog 73 #[.slice A bs.length c] w fun r w' => r = .returned (.tuple #[.agg (tkV tk0 none none 0 0).toArray, .iface 49 (.int .i64 2)]) ∧ Below w.heap.size w w' := by
  obtain ⟨w0, hw0⟩ : ∃ w0, w0 = w.alloc (.cells (tkV tk0 none none 0 0).toArray 105) := ⟨_, rfl⟩
  have hb0 : Below w.heap.size w w0 := by rw [hw0]; exact (Below.refl _ _).alloc (Nat.le_refl _) _
  have hz0 : At w0 w.heap.size (tkV tk0 none none 0 0).toArray 105 := by rw [hw0]; exact At.new _ _ _
  have HFR := hid (pfrom_rt bs A c w0 ((hx.below hb0).mono hb0.size) hl)
  have HRD := hid (fun (V : World) (p : Nat) (hp : w0.heap.size ≤ p) (hb : Below w0.heap.size w0 V) (hr : RT V (fun g => w0.heap.size ≤ g ∧ g < V.heap.size) p (0, bs)) => show Calls Tryd.prog 68 #[.pointer (some ⟨p, 0, none⟩)] V (fun r w' => ∃ (T : List Value) (s : Rs), r = .returned (.agg T.toArray) ∧ (T.length = 22 ∧ T.toArray.all (·.oneCell') = true) ∧ RT w' (fun g => w0.heap.size ≤ g ∧ g < V.heap.size) p s ∧ enS s = 2 ∧ Below w0.heap.size w0 w') from by
    refine (ptread_any _ p bs V hr hl).mono ?_
    rintro r w' (⟨t', rest, A1, A2, c1, c2, h1, h2, h3, h4, h5⟩ | ⟨h1, h2, h4, h5⟩)
    · have htk := ((rdT_iff bs t' rest).1 h1).1
      refine ⟨_, (0, rest), h2, ⟨tkV_length htk.2.2.2 _ _ _ _, tkV_all _ _ _ _ _⟩, h4, ?_, hb.trans (h5.below (fun k hk => by have h9 : k = p := hk; omega) hb.size)⟩
      unfold enS
      rw [if_neg]
      rintro ⟨-, h6⟩
      have h7 : rest = [] := h6
      rw [h7] at h1
      exact ht t' h1
    · exact ⟨_, (2, []), h2, ⟨rfl, tkV_all _ _ _ _ _⟩, h4, rfl, hb.trans (h5.below (fun k hk => by have h9 : k = p := hk; omega) hb.size)⟩)
  have HEN := hid (fun (V : World) (base : Nat → Prop) (p : Nat) (s : Rs) (hs : enS s = 2) (hr : RT V base p s) => show Calls Tryd.prog 71 #[.pointer (some ⟨p, 0, none⟩)] V (fun e w' => e = .returned (.iface 49 (.int .i64 2)) ∧ V = w') from by
    have := pend_rt base p s V hr
    rw [hs, show errV 2 = .iface 49 (.int .i64 2) from errV_pos (by decide)] at this
    exact this)
  have HAP := hid (fun (o : Oper) (a : Go.Act) (W : World) (h : o.op = .alloc 105) => run_alloc_of (o := o) (a := a) (W := W) _ h (tkV tk0 none none 0 0).toArray zeroPT13)
  have HBZ := hid (fun (o : Oper) (a : Go.Act) (W : World) (h : o.op = .build 105 #[]) => run_build_pt0 (o := o) (a := a) (W := W) h)
  have HZ := hid (fun (V : World) (hb : Below w0.heap.size w0 V) => And.intro (hz0.new_ hb) (hb0.trans (hb.mono hb0.size)))
  generalize bs.length = n at HFR
  clear hx hl ht hb0 hz0
  subst hw0
  go_enter Tryd.func73, Tryd.ntmps73
  go_wp2_with (first
    | (refine Great.wpList_allocTo rfl _ rfl _ _ (HAP.out _ _ _ rfl) ?_)
    | (go_at_call 67; refine HFR.out.mono ?_; rintro r1 w1 ⟨p, rfl, hp1, hr1, hb1⟩; have R1 := hid (HRD.out w1 p hp1 hb1 hr1); clear hp1 hb1 hr1)
    | (go_at_call 68; refine R1.out.mono ?_; rintro r2 w2 ⟨T, s, rfl, hT, hr2, he2, hb2⟩; have R2 := hid hr2; have T2 := hid hT; have E2 := hid he2; have B2 := hid hb2; clear hr2 hT he2 hb2)
    | (refine wpList_store_row rfl _ (.tmp 5) (.tmp 10) rfl w2.heap.size T.toArray rfl rfl 105 (tkV tk0 none none 0 0).toArray (heap_alloc_new _ _) (sizePT_of T2.out.1) ((show (tkV tk0 none none 0 0).length = 22 from rfl).trans T2.out.1.symm) T2.out.2 ?_; have R3 := hid (R2.out.new (pt_stored_below w2 T)); have B3 := hid (B2.out.trans ((pt_stored_below w2 T).mono B2.out.size)); generalize ((w2.alloc (.cells (tkV tk0 none none 0 0).toArray 105)).setRow w2.heap.size T.toArray) = w3 at R3 B3 ⊢)
    | (go_at_call 71; refine (HEN.out w3 _ p s E2.out R3.out).mono ?_; rintro r4 w4 ⟨rfl, rfl⟩)
    | (refine wpList_valW (by rfl) (HBZ.out _ _ _ rfl) ?_; try simp only [Act.put, List.setIfInBounds_toArray, List.set_cons_succ, List.set_cons_zero])
    | (refine wpList_store_row rfl _ (.tmp 2) (.tmp 15) rfl w.heap.size (tkV tk0 none none 0 0).toArray rfl rfl 105 (tkV tk0 none none 0 0).toArray (HZ.out w3 B3.out).1 (sizePT_of rfl) rfl (tkV_all _ _ _ _ _) ?_))
  refine bodyPost_ret (results_row_tmp rfl _ _ w.heap.size 105 (tkV tk0 none none 0 0).toArray (0, 0) _ rfl (setRow_heap _ _ _ _ _ _ (HZ.out w3 B3.out).1) Tryd.underlying105 rfl (sizePT_of rfl)) rfl ?_
  exact ⟨rfl, below_setRow (HZ.out w3 B3.out).2 (Nat.le_refl _) _⟩
end Go.Proofs.YtfmbpdjcoopaeaaDoor
