/-
  Layer 12, the program's side: lists cloned; cutOff.
  Layer 12, the program's side: After of a cutting step.
-/
import Derived.Test.YtdegmcfcbndelaaDoorL5
import Derived.Test.YtdegmcfcbndelaaDoorK6
import Derived.Lib.SliceRun
import Derived.Test.YtdegmcfcbndelaaDoorYg
namespace Go.Proofs.YtdegmcfcbndelaaDoor
open Go.RowKit

/-- Some hashes are appended, wherever they lie. -/
theorem wpList_append_hx {ops : Array Oper} {rest : List Oper} {o : Oper} {a : Go.Act} {W : World} {Q : Exit → Go.Act → World → Prop} (hw : Region.wanted o (yielded ops a.tmps) = true) (s x : Operand)
    (ho : o.op = .call { callee := .builtin .append, args := #[s, x], argTypes := #[31, 31] })
    (base : Nat) (v : Value) (n : Nat) (bs : List UInt8) (hs : a.eval s = v) (hown : Ah W base v n bs) (A0 : Addr) (m c : Nat) (l : List UInt8) (hx : a.eval x = .slice (some A0) m c) (hq : ∀ j u, (ubs l)[j]? = some u → W.cell? (A0.add j) = some u) (hp : l.length = 32 * m) (hl : n + m ≤ 4294967296) (hbase : base ≤ W.heap.size)
    (h : ∀ A c w', Ah w' base (.slice A (n + m) c) (n + m) (bs ++ l) → W.grownBy w' v.ownBlock → wpList Tryd.prog ops Q rest (a.put o.dst (.slice A (n + m) c)) w') :
    wpList Tryd.prog ops Q (o :: rest) a W :=
  BigFrame.wpList_want hw fun K hK => by
    obtain ⟨i, hi, hz, hsz, hby⟩ := info_parts infoH
    obtain ⟨v', w', hr, h2, h3, -, -⟩ := run_append_own_at (P := Tryd.prog) W base 31 o.type 25 i _ 32 32 Tryd.underlying31 hi hz hsz hby (by show (ubs n32).toArray.size = 32; rw [List.size_toArray, ubs_length]; exact n32_length) (by omega) v n (ubs bs) hown A0 m c (ubs l) (by rw [ubs_length, hp, Nat.mul_comm])
      hq (ubs_one l) (by unfold maxLen; omega) (by omega) hbase
    have h6 : Ah w' base v' (n + m) (bs ++ l) := by
      unfold Ah
      rw [ubs_append]
      exact h2
    obtain ⟨A, c', rfl⟩ := h6.form
    unfold Oper.wp execOp
    simp only [ho, resolve, invoke, builtin, Sem.run_bind, Sem.run_pure, Result.andThen_ok, List.map_toArray, List.map_cons, List.map_nil, hs, hx, hr]
    exact hK _ _ (h A c' w' h6 h3)
theorem addr_add_block (a : Addr) (j : Nat) : (a.add j).block = a.block := by
  unfold Addr.add
  split <;> rfl
/-- A slice of numbers of the call's own. -/
def Un (W : World) (base : Nat) (v : Value) (n : Nat) (l : List Nat) : Prop := W.ownsRow base 23 1 v n (nus l)
theorem Un.nil (W : World) (base : Nat) : Un W base (.slice none 0 0) 0 [] := World.ownsRow_nil _ _ _ _
theorem Un.form {W : World} {base n : Nat} {v : Value} {l : List Nat} (h : Un W base v n l) : ∃ A c, v = .slice A n c := by
  rcases h.2 with ⟨h1, h2⟩ | ⟨g, cap, cur, e, -⟩
  · rw [h1, h2]
    exact ⟨_, _, rfl⟩
  · exact ⟨_, _, e⟩
theorem Un.rd {W : World} {base n c : Nat} {A : Option Addr} {l : List Nat} (h : Un W base (.slice A n c) n l) : Nu W W.heap.size A l := fun hne => by
  rcases h.2 with ⟨h1, h2⟩ | ⟨g, cap, cur, e, hb, hh, -⟩
  · refine absurd ?_ hne
    exact List.eq_nil_of_length_eq_zero (by have := h.1; rw [h2] at this; omega)
  · obtain rfl : A = some ⟨g, 0, none⟩ := by cases e; rfl
    refine ⟨g, 0, rfl, lt_of_block hh, fun j u hu => ?_⟩
    have := World.ownsRow.cells h (g := g) rfl j u hu
    rwa [add_plain] at this
theorem Un.cap {W : World} {base n c : Nat} {A : Option Addr} {l : List Nat} (h : Un W base (.slice A n c) n l) : n ≤ c := by
  rcases h.2 with ⟨h1, h2⟩ | ⟨g, cap, cur, e, hb, hh, h3, -⟩
  · cases h1; omega
  · cases e; exact h3
theorem wpList_append_ux {ops : Array Oper} {rest : List Oper} {o : Oper} {a : Go.Act} {W : World} {Q : Exit → Go.Act → World → Prop} (hw : Region.wanted o (yielded ops a.tmps) = true) (s x : Operand)
    (ho : o.op = .call { callee := .builtin .append, args := #[s, x], argTypes := #[58, 58] })
    (base : Nat) (v : Value) (n : Nat) (bs : List Nat) (hs : a.eval s = v) (hown : Un W base v n bs) (A0 : Addr) (m c : Nat) (l : List Nat) (hx : a.eval x = .slice (some A0) m c) (hq : ∀ j u, (nus l)[j]? = some u → W.cell? (A0.add j) = some u) (hp : l.length = m) (hl : n + m ≤ 4294967296) (hbase : base ≤ W.heap.size)
    (h : ∀ A c w', Un w' base (.slice A (n + m) c) (n + m) (bs ++ l) → W.grownBy w' v.ownBlock → wpList Tryd.prog ops Q rest (a.put o.dst (.slice A (n + m) c)) w') :
    wpList Tryd.prog ops Q (o :: rest) a W :=
  BigFrame.wpList_want hw fun K hK => by
    obtain ⟨i, hi, hz, hsz, hby⟩ := infoU_parts
    obtain ⟨v', w', hr, h2, h3, -, -⟩ := run_append_own_at (P := Tryd.prog) W base 58 o.type 23 i _ 1 8 Tryd.underlying58 hi hz hsz hby rfl (by omega) v n (nus bs) hown A0 m c (nus l) (by rw [nus_length, hp, Nat.mul_one])
      hq (nus_one l) (by unfold maxLen; omega) (by omega) hbase
    have h6 : Un w' base v' (n + m) (bs ++ l) := by
      unfold Un
      rw [nus_append]
      exact h2
    obtain ⟨A, c', rfl⟩ := h6.form
    unfold Oper.wp execOp
    simp only [ho, resolve, invoke, builtin, Sem.run_bind, Sem.run_pure, Result.andThen_ok, List.map_toArray, List.map_cons, List.map_nil, hs, hx, hr]
    exact hK _ _ (h A c' w' h6 h3)
set_option maxRecDepth 100000 in
set_option maxHeartbeats 400000 in
/-- A slice of hashes cloned. -/
theorem pcloneH_any (n c : Nat) (lv : List UInt8) (A : Option Addr) (W : World) (hn2 : n ≤ 1000000) (hl : lv.length = 32 * n) (hr : Rd W W.heap.size A (ubs lv)) :
    Calls Tryd.prog 107 #[.slice A n c] W fun r W' => ∃ A' c', r = .returned (.slice A' n c') ∧ Ah W' W.heap.size (.slice A' n c') n lv ∧ Below W.heap.size W W' := by
  cases A with
  | none =>
    obtain rfl : n = 0 := by
      rcases Nat.eq_zero_or_pos n with h | h
      · exact h
      · obtain ⟨g, o, e, -⟩ := hr (by intro e; have h := congrArg List.length e; rw [ubs_length, hl] at h; simp at h; omega)
        cases e
    obtain rfl : lv = [] := List.eq_nil_of_length_eq_zero (by omega)
    have hq := Lib.run_eql_slice_nil (P := Tryd.prog) W 31 25 none 0 c 0 0 Tryd.underlying31
    clear hr hl hn2
    go_enter Tryd.func107, Tryd.ntmps107
    go_wp2
    go_ret
    exact ⟨none, 0, rfl, Ah.nil _ _, Below.refl _ _⟩
  | some A0 =>
    have hcell : ∀ j u, (ubs lv)[j]? = some u → A0.block < W.heap.size ∧ W.cell? (A0.add j) = some u := fun j u hu => by
      obtain ⟨g, o, e, hg, hc⟩ := hr (by intro e; rw [e] at hu; cases hu)
      cases e
      rw [add_plain]
      exact ⟨hg, hc j u hu⟩
    have hq := Lib.run_eql_slice_nil (P := Tryd.prog) W 31 25 (some A0) n c 0 0 Tryd.underlying31
    have HL := hid hl
    have HN := hid hn2
    have hb1 : Below W.heap.size W (W.alloc (.cells #[] 25)) := (Below.refl _ _).alloc (Nat.le_refl _) _
    have HB1 := hid hb1
    have HO := hid (show Ah (W.alloc (.cells #[] 25)) W.heap.size (.slice (some ⟨W.heap.size, 0, none⟩) 0 0) 0 [] from ⟨rfl, .inr ⟨W.heap.size, 0, #[], rfl, Nat.le_refl _, heap_alloc_new W _, Nat.le_refl _, Nat.zero_le _, rfl, rfl⟩⟩)
    have HR1 := hid (show ∀ j u, (ubs lv)[j]? = some u → (W.alloc (.cells #[] 25)).cell? (A0.add j) = some u from fun j u hu => (World.cell?_of_block (hb1.block (A0.add j).block (by rw [addr_add_block]; exact (hcell j u hu).1))).trans (hcell j u hu).2)
    clear hr hn2 hl hb1 hcell
    go_enter Tryd.func107, Tryd.ntmps107
    go_wp2_with (first
      | (refine wpList_append_hx (by rfl) (.tmp 5) (.tmp 6) rfl W.heap.size (.slice (some ⟨W.heap.size, 0, none⟩) 0 0) 0 [] rfl HO.out A0 n c lv rfl HR1.out HL.out (by have := HN.out; omega) HB1.out.size ?_; intro A2 c2 w2 h1 h2; simp only [Nat.zero_add, List.nil_append] at h1 ⊢; have H2 := hid h1; have G2 := hid h2; clear h1 h2))
    go_ret
    exact ⟨A2, c2, rfl, H2.out, HB1.out.grown G2.out HB1.out.size (fun k hk => by cases hk; exact Nat.le_refl _)⟩
set_option maxRecDepth 100000 in
set_option maxHeartbeats 400000 in
/-- A slice of numbers cloned. -/
theorem pcloneU_any (c : Nat) (l : List Nat) (A : Option Addr) (W : World) (hn2 : l.length ≤ 1000000) (hr : Nu W W.heap.size A l) (hne : l ≠ []) :
    Calls Tryd.prog 88 #[.slice A l.length c] W fun r W' => ∃ A' c', r = .returned (.slice A' l.length c') ∧ Un W' W.heap.size (.slice A' l.length c') l.length l ∧ Below W.heap.size W W' := by
  obtain ⟨g, o, rfl, hg, hrr⟩ := hr (by intro e; have h := congrArg List.length e; rw [nus_length] at h; exact hne (List.eq_nil_of_length_eq_zero h))
  obtain ⟨n, hn⟩ : ∃ n, n = l.length := ⟨_, rfl⟩
  have HLN := hid hn
  rw [← hn]
  rw [← hn] at hn2
  have hq := Lib.run_eql_slice_nil (P := Tryd.prog) W 58 23 (some ⟨g, o, none⟩) n c 0 0 Tryd.underlying58
  have HN := hid hn2
  have hb1 : Below W.heap.size W (W.alloc (.cells #[] 23)) := (Below.refl _ _).alloc (Nat.le_refl _) _
  have HB1 := hid hb1
  have HO := hid (show Un (W.alloc (.cells #[] 23)) W.heap.size (.slice (some ⟨W.heap.size, 0, none⟩) 0 0) 0 [] from ⟨rfl, .inr ⟨W.heap.size, 0, #[], rfl, Nat.le_refl _, heap_alloc_new W _, Nat.le_refl _, Nat.zero_le _, rfl, rfl⟩⟩)
  have HR1 := hid (show ∀ j u, (nus l)[j]? = some u → (W.alloc (.cells #[] 23)).cell? ((⟨g, o, none⟩ : Addr).add j) = some u from fun j u hu => by rw [add_plain]; exact (World.cell?_of_block (hb1.block g hg)).trans (hrr j u hu))
  clear hrr hg hr hn2 hb1 hn hne
  go_enter Tryd.func88, Tryd.ntmps88
  go_wp2_with (first
    | (refine wpList_append_ux (by rfl) (.tmp 5) (.tmp 6) rfl W.heap.size (.slice (some ⟨W.heap.size, 0, none⟩) 0 0) 0 [] rfl HO.out ⟨g, o, none⟩ n c l rfl HR1.out HLN.out.symm (by have := HN.out; omega) HB1.out.size ?_; intro A2 c2 w2 h1 h2; simp only [Nat.zero_add, List.nil_append] at h1 ⊢; have H2 := hid h1; have G2 := hid h2; clear h1 h2))
  go_ret
  exact ⟨A2, c2, rfl, H2.out, HB1.out.grown G2.out HB1.out.size (fun k hk => by cases hk; exact Nat.le_refl _)⟩
/-- A path in the cutting: the first hashes are cut, the rest are as they were. -/
def cutQ (path : List UInt8) (i j : Nat) : List UInt8 := cutP path i j ++ path.drop (32 * j)
theorem cutQ_zero (path : List UInt8) (i : Nat) : cutQ path i 0 = path := by
  unfold cutQ
  rw [cutP_zero, List.nil_append, Nat.mul_zero, List.drop_zero]
theorem cutQ_all {path : List UInt8} {n : Nat} (h : path.length = 32 * n) (i : Nat) : cutQ path i n = cutP path i n := by
  unfold cutQ
  rw [← h, List.drop_length, List.append_nil]
theorem drop_part (path : List UInt8) (j : Nat) : path.drop (32 * j) = hpart path j ++ path.drop (32 * (j + 1)) := by
  rw [hpart, show 32 * (j + 1) = 32 * j + 32 by omega, ← List.drop_drop, List.take_append_drop]
theorem cutQ_odd {path : List UInt8} {i j : Nat} (h : ¬ (i >>> j) % 2 = 0) : cutQ path i (j + 1) = cutQ path i j := by
  unfold cutQ
  rw [cutP_next, if_neg h, drop_part path j, List.append_assoc]
theorem cutQ_even {path : List UInt8} {i j : Nat} (h : (i >>> j) % 2 = 0) : cutQ path i (j + 1) = cutP path i j ++ (emptyL j ++ path.drop (32 * (j + 1))) := by
  unfold cutQ
  rw [cutP_next, if_pos h, List.append_assoc]
theorem cutQ_parts (path : List UInt8) (i j : Nat) : cutQ path i j = cutP path i j ++ (hpart path j ++ path.drop (32 * (j + 1))) := by
  unfold cutQ
  rw [drop_part path j]
theorem range_piece {V : World} {g : Nat} {a m z vs : List UInt8} (h : V.rangeAt g 0 (ubs (a ++ (m ++ z)))) (hm : m.length = vs.length) (ht : V.there g a.length vs.length) : (V.setCells g a.length (ubs vs)).rangeAt g 0 (ubs (a ++ (vs ++ z))) := fun j u hu => by
  rw [Nat.zero_add]
  have get : ∀ (x : List UInt8) (k : Nat), (ubs x)[k]? = (x[k]?).map ub := fun x k => by unfold ubs; rw [List.getElem?_map]
  by_cases h1 : j < a.length
  · rw [World.cell?_setCells_out _ _ _ _ _ (fun _ _ => .inl h1)]
    have := h j u (by rw [get] at hu ⊢; rw [List.getElem?_append_left h1] at hu ⊢; exact hu)
    rwa [Nat.zero_add] at this
  · by_cases h2 : j < a.length + vs.length
    · have := World.rangeAt_setCells_same V g a.length (ubs vs) (by rw [ubs_length]; exact ht) (j - a.length) u (by
        rw [get] at hu ⊢
        rw [List.getElem?_append_right (by omega), List.getElem?_append_left (by omega)] at hu
        exact hu)
      rwa [show a.length + (j - a.length) = j by omega] at this
    · rw [World.cell?_setCells_out _ _ _ _ _ (fun _ _ => .inr (by rw [ubs_length]; show a.length + vs.length ≤ j; omega))]
      have := h j u (by
        rw [get] at hu ⊢
        rw [List.getElem?_append_right (by omega), List.getElem?_append_right (by omega)] at hu ⊢
        rw [hm]
        exact hu)
      rwa [Nat.zero_add] at this
/-- A path that is cut in place, and the empty hashes. -/
structure CoW (W : World) (path E0 : List UInt8) (i n D E j : Nat) (V : World) : Prop where
  b : Below W.heap.size W V
  e : At V E (ubs E0).toArray 112
  d : n ≠ 0 → V.rangeAt D 0 (ubs (cutQ path i j)) ∧ V.there D 0 (32 * n) ∧ W.heap.size ≤ D ∧ E ≠ D ∧ D < V.heap.size
theorem CoW.odd {W V : World} {path E0 : List UInt8} {i n D E j : Nat} (k : CoW W path E0 i n D E j V) (h : ¬ (i >>> j) % 2 = 0) : CoW W path E0 i n D E (j + 1) V := ⟨k.b, k.e, fun hn => by rw [cutQ_odd h]; exact k.d hn⟩
theorem there_part {V : World} {g n a m : Nat} (h : V.there g 0 n) (e : a + m ≤ n) : V.there g a m := fun j hj => by
  have := h (a + j) (by omega)
  rwa [Nat.zero_add] at this
theorem setCells_size (w : World) (g : Nat) : ∀ (vs : List Value) (o : Nat), (w.setCells g o vs).heap.size = w.heap.size := by
  intro vs
  induction vs generalizing w with
  | nil => intro o; rfl
  | cons v r ih => intro o; rw [World.setCells, ih]; simp [World.setCell]
theorem CoW.even {W V : World} {path E0 : List UInt8} {i n D E j : Nat} (k : CoW W path E0 i n D E j V) (h : (i >>> j) % 2 = 0) (hp : path.length = 32 * n) (hj : j < n) : CoW W path E0 i n D E (j + 1) (V.setCells D (32 * j) (ubs (emptyL j))) := by
  obtain ⟨k1, k2, k3, k4, k5⟩ := k.d (by omega)
  have hc := cutP_length hp i j (by omega)
  refine ⟨below_setCells k.b k3 _ _, far_setCells k.e k4 _ _, fun _ => ⟨?_, World.there_setCells k2 _ _ _, k3, k4, by rw [setCells_size]; exact k5⟩⟩
  rw [cutQ_even h, ← hc]
  rw [cutQ_parts] at k1
  exact range_piece k1 (by rw [emptyL_length, hpart_length hp hj]) (there_part k2 (by rw [hc, emptyL_length]; omega))
theorem ah_own {W : World} {base n c : Nat} {A : Option Addr} {bs : List UInt8} (h : Ah W base (.slice A n c) n bs) (hn : n ≠ 0) : ∃ g, A = some ⟨g, 0, none⟩ ∧ base ≤ g ∧ g < W.heap.size ∧ W.rangeAt g 0 (ubs bs) ∧ W.there g 0 (32 * n) := by
  rcases h.2 with ⟨h1, h2⟩ | ⟨g, cap, cur, e, hb, hh, h3, h4, h5, h6⟩
  · exact absurd h2 hn
  · obtain rfl : A = some ⟨g, 0, none⟩ := by cases e; rfl
    have hat : At W g cur 25 := hh
    refine ⟨g, rfl, hb, lt_of_block hh, fun j u hu => ?_, fun j hj => ?_⟩
    · have := World.ownsRow.cells h (g := g) rfl j u hu
      rw [add_plain] at this
      exact this
    · refine ⟨?_, hat.frozen _⟩
      have hle : n * 32 ≤ cap * 32 := Nat.mul_le_mul_right _ (by cases e; exact h3)
      rw [hat.cell, Array.getElem?_eq_getElem (by rw [h5]; omega)]
      rfl
set_option maxRecDepth 100000 in
set_option maxHeartbeats 2000000 in
theorem pcutOff_any (path : List UInt8) (i n c : Nat) (A : Option Addr) (W : World) (hi : i < 18446744073709551616) (hn : n ≤ 32) (hp : path.length = 32 * n) (hr : Rd W W.heap.size A (ubs path)) (hT : Tabs W) :
    Calls Tryd.prog 85 #[.int .u64 (i : Int), .slice A n c] W fun r W' => ∃ A' c', r = .returned (.slice A' n c') ∧ Rd W' W'.heap.size A' (ubs (cutP path i n)) ∧ Below W.heap.size W W' := by
  have HAE := hid (fun (o : Oper) (a : Go.Act) (W : World) (h : o.op = .alloc 112) => run_alloc_of (o := o) (a := a) (W := W) _ h _ zeroAH)
  have HEM := hid (pempties_any W hT)
  have HCL := hid (fun (V : World) (b : Below W.heap.size W V) => pcloneH_any n c path A V (by omega) hp ((hr.below b).mono b.size))
  obtain ⟨E0, hE0⟩ : ∃ e, e = eRow 33 := ⟨_, rfl⟩
  have HEL := hid (show E0.length = 1056 by rw [hE0, eRow_length])
  have HZL := hid z1056_length
  have HER := hid (fun (V : World) (E : Nat) (h : At V E (ubs E0).toArray 112) (j : Nat) (hj : j < 33) => show V.rangeAt E (32 * j) (ubs (emptyL j)) from by
    rw [hE0] at h
    have := range_mid (a := 32 * j) (m := 32) (range_whole h)
    rw [Nat.zero_add] at this
    rwa [← hpart, hpart_eRow hj] at this)
  rw [← hE0] at HEM
  have HN := hid hn
  have HP := hid hp
  have HI := hid hi
  clear hi hn hp hr hT hE0
  go_enter Tryd.func85, Tryd.ntmps85
  go_wp2_with (first
    | (go_at_call 64; refine HEM.out.mono ?_; rintro r1 w1 ⟨rfl, hb1⟩; have B1 := hid hb1; clear hb1)
    | (go_at_call 107; refine (HCL.out w1 B1.out).mono ?_; rintro r2 w2 ⟨A2, c2, rfl, ha2, hb2⟩; have H2 := hid ha2; have B2 := hid (B1.out.trans (hb2.mono B1.out.size)); have S2 := hid (show W.heap.size ≤ w1.heap.size from B1.out.size); clear ha2 hb2)
    | (refine Great.wpList_allocTo rfl _ rfl _ _ (HAE.out _ _ _ rfl) ?_)
    | (refine wpList_store_row rfl _ (.tmp 5) (.tmp 8) rfl w2.heap.size (ubs E0).toArray rfl rfl 112 (ubs z1056).toArray (At.new _ _ _) (sizeAH_of HEL.out) (by simp [ubs_length, HZL.out, HEL.out]) (ubs_all _) ?_; have hb3 : Below w2.heap.size w2 ((w2.alloc (.cells (ubs z1056).toArray 112)).setRow w2.heap.size (ubs E0).toArray) := below_setRow ((Below.refl _ _).alloc (Nat.le_refl _) _) (Nat.le_refl _) _; have H3 := hid (H2.out.kept hb3); have B3 := hid (B2.out.trans (hb3.mono B2.out.size)); have E3 := hid (show At ((w2.alloc (.cells (ubs z1056).toArray 112)).setRow w2.heap.size (ubs E0).toArray) w2.heap.size (ubs E0).toArray 112 from setRow_heap _ _ _ _ _ _ (At.new w2 (ubs z1056).toArray 112)); clear hb3))
  have h0 : ∃ D, (n ≠ 0 → A2 = some ⟨D, 0, none⟩) ∧ CoW W path E0 i n D w2.heap.size 0 ((w2.alloc (.cells (ubs z1056).toArray 112)).setRow w2.heap.size (ubs E0).toArray) := by
    by_cases h : n = 0
    · exact ⟨0, fun h1 => absurd h h1, B3.out, E3.out, fun h1 => absurd h h1⟩
    · obtain ⟨D, e, hlo, hhi, hrg, hth⟩ := ah_own H3.out h
      obtain ⟨D', e', -, hhi', -⟩ := ah_own H2.out h
      rw [e] at e'
      cases e'
      exact ⟨D, fun _ => e, B3.out, E3.out, fun _ => ⟨by rw [cutQ_zero]; exact hrg, hth, Nat.le_trans S2.out hlo, by omega, hhi⟩⟩
  obtain ⟨D, hD, h0⟩ := h0
  have HD := hid hD
  have K0 := hid h0
  clear hD h0 H2 H3 B1 B2 B3 E3 S2
  generalize ((w2.alloc (.cells (ubs z1056).toArray 112)).setRow w2.heap.size (ubs E0).toArray) = w3 at K0 ⊢
  generalize w2.heap.size = E at K0 ⊢
  go_loopw [7, 13] (fun v7 v13 wr => ∃ j : Nat, j ≤ n ∧ v13 = .int .i64 (j : Int) ∧ CoW W path E0 i n D E j wr) (fun _ v13 _ => n - (intOf v13).toNat)
  case atStart => exact ⟨0, by omega, rfl, K0.out⟩
  case round =>
    clear K0
    obtain ⟨j, hj, rfl, hX⟩ := hrel
    by_cases hlt : j < n
    · have d1 : decide ((j : Int) < (n : Int)) = true := by simp; omega
      have d1n : decide (j < n) = true := by simp; omega
      have ik : (j : Int) < (n : Int) := by omega
      have ik3 : (j : Int) < 33 := by have := HN.out; omega
      have hs := shr_u64 23 i j .i64 (by have := HN.out; omega)
      obtain ⟨u, hu⟩ : ∃ u, u = i >>> j := ⟨_, rfl⟩
      have hul : u < 18446744073709551616 := by rw [hu]; exact Nat.lt_of_le_of_lt (Nat.shiftRight_le _ _) HI.out
      rw [← hu] at hs
      have HON := hid (fun (V : World) => ponRight_any u hul V)
      obtain ⟨j1, hj1⟩ : ∃ m, m = j + 1 := ⟨_, rfl⟩
      have e3 : (j : Int) + 1 = (j1 : Int) := by omega
      have ew : IntKind.i64.wrap (j1 : Int) = (j1 : Int) := by rw [IntKind.wrap_i64] <;> have := HN.out <;> omega
      have HM := hid (show j1 ≤ n ∧ n - j1 < n - j by omega)
      obtain rfl := HD.out (by omega)
      rcases Nat.mod_two_eq_zero_or_one u with hpar | hpar
      · rw [show decide (u % 2 = 0) = true by simp [hpar]] at HON
        have HE := hid (fun (V : World) (k : CoW W path E0 i n D E j V) => show CoW W path E0 i n D E j1 (V.setCells D (32 * j) (ubs (emptyL j))) from by rw [hj1]; exact k.even (by rw [← hu]; exact hpar) HP.out hlt)
        have HRS := hid (HER.out wr E hX.e j (by have := HN.out; omega))
        have HTH := hid (show wr.there D (32 * j) 32 from there_part (hX.d (by omega)).2.1 (by omega))
        have HSL := hid (emptyL_length j)
        obtain ⟨s, hse⟩ : ∃ s, s = emptyL j := ⟨_, rfl⟩
        rw [← hse] at HE HRS HSL
        obtain ⟨q, hq⟩ : ∃ q, q = 32 * j := ⟨_, rfl⟩
        rw [← hq] at HE HRS HTH
        have eq : (j : Int) * 32 = (q : Int) := by omega
        have eqn : j * 32 = q := by omega
        have HX := hid hX
        clear hX hlt hj hj1 hu hul hpar hse hq
        go_wp2_with (first
          | (go_at_call 106; refine (HON.out wr).mono ?_; rintro r4 w4 ⟨rfl, hw⟩; rw [hw]; clear hw)
          | (refine wpList_valW (by rfl) (run_loadH (.tmp 23) rfl E q rfl s HRS.out HSL.out) ?_)
          | (refine wpList_store_mid rfl 25 (.tmp 25) (.tmp 24) rfl D q (ubs s).toArray rfl rfl ?t1 (sizeH_of HSL.out) (ubs_all _) ?_; rotate_right; have X5 := hid (HE.out wr HX.out); rw [List.toList_toArray]; generalize (wr.setCells D q (ubs s)) = w5 at X5 ⊢))
        case t1 => have := HTH.out; simpa [ubs_length, HSL.out] using this
        exact ⟨⟨j1, HM.out.1, rfl, X5.out⟩, by
          show n - ((j1 : Int)).toNat < n - ((j : Int)).toNat
          rw [Int.toNat_natCast, Int.toNat_natCast]
          exact HM.out.2⟩
      · rw [show decide (u % 2 = 0) = false by simp [hpar]] at HON
        have HX := hid (show CoW W path E0 i n D E j1 wr from by rw [hj1]; exact hX.odd (by rw [← hu]; omega))
        clear hX hlt hj hj1 hu hul hpar
        go_wp2_with (first
          | (go_at_call 106; refine (HON.out wr).mono ?_; rintro r4 w4 ⟨rfl, hw⟩; rw [hw]; clear hw))
        exact ⟨⟨j1, HM.out.1, rfl, HX.out⟩, by
          show n - ((j1 : Int)).toNat < n - ((j : Int)).toNat
          rw [Int.toNat_natCast, Int.toNat_natCast]
          exact HM.out.2⟩
    · obtain rfl : j = n := by omega
      have d1 : decide ((j : Int) < (j : Int)) = false := by simp
      have HX := hid hX
      clear hlt hj hX
      go_wp2
      go_ret
      refine ⟨A2, c2, rfl, fun hne => ?_, HX.out.b⟩
      have hj0 : j ≠ 0 := fun e => hne (by subst e; rfl)
      obtain ⟨k1, k2, k3, k4, k5⟩ := HX.out.d hj0
      refine ⟨D, 0, HD.out hj0, k5, ?_⟩
      rw [cutQ_all HP.out] at k1
      exact k1
end Go.Proofs.YtdegmcfcbndelaaDoor

namespace Go.Proofs.YtdegmcfcbndelaaDoor
open Go.RowKit

/-- A cutting step as a value. -/
def cutV (leaf : List UInt8) (A : Option Addr) (n c : Nat) : List Value := ubs leaf ++ [Value.slice A n c]
theorem cutV_length {leaf : List UInt8} {A : Option Addr} {n c : Nat} (h : leaf.length = 32) : (cutV leaf A n c).length = 33 := by
  unfold cutV
  rw [List.length_append, ubs_length, h]
  rfl
theorem cutV_range {V : World} {g : Nat} {leaf : List UInt8} {A : Option Addr} {n c : Nat} {T : TypeId} (h : At V g (cutV leaf A n c).toArray T) : V.rangeAt g 0 (ubs leaf) := fun j u hu => by
  rw [Nat.zero_add, h.cell, List.getElem?_toArray, cutV, List.getElem?_append_left (List.getElem?_eq_some_iff.1 hu).1]
  exact hu
theorem cutV_cell {V : World} {g : Nat} {leaf : List UInt8} {A : Option Addr} {n c : Nat} {T : TypeId} (h : At V g (cutV leaf A n c).toArray T) (hl : leaf.length = 32) : V.cell? ⟨g, 32, none⟩ = some (.slice A n c) := by
  rw [h.cell, List.getElem?_toArray, cutV, List.getElem?_append_right (by rw [ubs_length, hl]; exact Nat.le_refl _), ubs_length, hl]
  rfl
/-- A slice's first hashes. -/
theorem elemSL12 : Tryd.prog.elem 31 = 25 := by kernel_rfl
theorem run_slice_to12 (A : Option Addr) (N lo cap : Nat) (h : lo ≤ cap) : ∃ A1, (∀ g o, A = some ⟨g, o, none⟩ → A1 = A) ∧ ∀ W : World, (Instr.slice 31 (.slice A N cap) none (some (.int .i64 (lo : Int))) none).run Tryd.prog W = .ok (.slice A1 lo cap) W := by
  refine ⟨if cap = 0 then A else A.map (·.add (0 * 32)), fun g o e => ?_, fun W => ?_⟩
  · subst e
    split
    · rfl
    · simp [add_plain]
  · have h := run_slice_h (P := Tryd.prog) (w := W) (t := 31) (a := A) (len := N) (cap := cap) (by kernel_rfl) .i64 (lo : Int) (by omega) (by omega)
    rw [h, elemSL12, run_sizeH12]
    simp only [Result.andThen_ok, Int.toNat_natCast, sliced, Nat.sub_zero]
theorem cutP_take {path : List UInt8} (i : Nat) {m : Nat} : ∀ n, n ≤ m → cutP (path.take (32 * m)) i n = cutP path i n
  | 0, _ => rfl
  | n + 1, h => by
    rw [cutP_next, cutP_next, cutP_take i n (by omega)]
    have : hpart (path.take (32 * m)) n = hpart path n := by
      have := hpart_mid (l := path) (a := 0) (m := m) (j := n) (by omega)
      rwa [Nat.mul_zero, List.drop_zero, Nat.zero_add] at this
    rw [this]
/-- A cut's memory. -/
structure CuW (W : World) (leaf root : List UInt8) (A : Option Addr) (n c : Nat) (V : World) : Prop where
  b : Below W.heap.size W V
  a : At V W.heap.size (cutV leaf A n c).toArray 83
  r : At V (W.heap.size + 1) (ubs root).toArray 25
  z : At V (W.heap.size + 2) (ubs n32).toArray 25
theorem CuW.new {W V V' : World} {leaf root : List UInt8} {A : Option Addr} {n c : Nat} (k : CuW W leaf root A n c V) (hb : Below V.heap.size V V') : CuW W leaf root A n c V' := ⟨k.b.trans (hb.mono k.b.size), k.a.new_ hb, k.r.new_ hb, k.z.new_ hb⟩
theorem CuW.drew {W V : World} {leaf root : List UInt8} {A : Option Addr} {n c : Nat} (k : CuW W leaf root A n c V) : CuW W leaf root A n c V.drew := k.new (Below.refl _ _).drew
theorem CuW.start {W : World} {leaf root : List UInt8} {A : Option Addr} {n c : Nat} : CuW W leaf root A n c (((W.alloc (.cells (cutV leaf A n c).toArray 83)).alloc (.cells (ubs root).toArray 25)).alloc (.cells (ubs n32).toArray 25)) :=
  ⟨(((Below.refl _ _).alloc (Nat.le_refl _) _).alloc (by simp) _).alloc (by simp; omega) _, ((At.new _ _ _).alloc _).alloc _, (At.new_at (by simp)).alloc _, At.new_at (by simp)⟩
/-- What the region of the check yields. -/
def cu12 (g : Nat) (A : Option Addr) (n c blocks i : Nat) (leaf x root : List UInt8) (r : Bool) : Nat → Value
  | 0 => .int .u64 (blocks : Int)
  | 1 => .int .u64 (i : Int)
  | 2 => .pointer (some ⟨g, 0, none⟩)
  | 3 => .agg (ubs leaf).toArray
  | 4 => .pointer (some ⟨g, 32, none⟩)
  | 5 => .slice A n c
  | 6 => .agg (ubs x).toArray
  | 7 => .agg (ubs root).toArray
  | _ => .bool r
/-- What the last region yields. -/
def cv12 (g : Nat) (A : Option Addr) (n c blocks i lo : Nat) (leaf y : List UInt8) : Nat → Value
  | 0 => .int .u64 (blocks : Int)
  | 1 => .int .u64 (i : Int)
  | 2 => .pointer (some ⟨g, 0, none⟩)
  | 3 => .agg (ubs leaf).toArray
  | 4 => .int .u64 (blocks : Int)
  | 5 => .int .u64 (i : Int)
  | 6 => .pointer (some ⟨g, 32, none⟩)
  | 7 => .slice A n c
  | 8 => .int .i64 (lo : Int)
  | _ => .agg (ubs y).toArray
def cx12 (g : Nat) (A A1 : Option Addr) (n c blocks i lo : Nat) (leaf y cp : List UInt8) (k : Nat) (v : Value) (V : World) : Prop :=
  (k = 9 → v = .slice A1 lo c) ∧ (k = 10 → ∃ A2 c2, v = .slice A2 lo c2 ∧ Rd V V.heap.size A2 (ubs cp)) ∧ (k ≠ 9 → k ≠ 10 → v = cv12 g A n c blocks i lo leaf y k)
theorem cx12_new {g : Nat} {A A1 : Option Addr} {n c blocks i lo : Nat} {leaf y cp : List UInt8} {k : Nat} {v : Value} {V V' : World} (h : cx12 g A A1 n c blocks i lo leaf y cp k v V) (hb : Below V.heap.size V V') : cx12 g A A1 n c blocks i lo leaf y cp k v V' :=
  ⟨h.1, fun e => (h.2.1 e).imp fun _ => Exists.imp fun _ q => ⟨q.1, (q.2.below hb).mono hb.size⟩, h.2.2⟩
set_option maxRecDepth 100000 in
set_option maxHeartbeats 4000000 in
theorem pcutAfter_range (leaf root : List UInt8) (n c was blocks : Nat) (A : Option Addr) (W : World) (h1 : was < 18446744073709551616) (h2 : blocks < 18446744073709551616) (hg : hgB blocks was = false) :
    Calls Tryd.prog 47 #[.agg (cutV leaf A n c).toArray, .agg (ubs root).toArray, .int .u64 (was : Int), .int .u64 (blocks : Int)] W fun r W' => r = .returned (.tuple #[.agg (ubs (n32)).toArray, .iface 42 (.int .i64 1)]) ∧ Below W.heap.size W W' := by
  have HAH := hid (fun (o : Oper) (a : Go.Act) (W : World) (h : o.op = .alloc 25) => run_alloc_of (o := o) (a := a) (W := W) _ h _ zeroH8)
  have HNL := hid n32_length
  have HC := hid (CuW.start (W := W) (leaf := leaf) (root := root) (A := A) (n := n) (c := c))
  obtain ⟨C, hC⟩ : ∃ C, C = (cutV leaf A n c).toArray := ⟨_, rfl⟩
  rw [← hC] at HC
  rw [← hC]
  have HH := hid (fun (V : World) => show Calls Tryd.prog 83 #[.int .u64 (blocks : Int), .int .u64 (was : Int)] V (fun r W' => r = .returned (.tuple #[.int .i64 0, .int .i64 0, .iface 42 (.int .i64 1)]) ∧ W' = V) from by
    have := pheights_any blocks was h2 h1 V
    unfold htN at this
    rw [hg] at this
    exact this)
  clear hg hC h1 h2
  go_enter Tryd.func47, Tryd.ntmps47
  go_wp2_with (first
    | (refine Great.wpList_allocTo rfl _ rfl _ _ (HAH.out _ _ _ rfl) ?_)
    | (generalize (((W.alloc (.cells C 83)).alloc (.cells (ubs root).toArray 25)).alloc (.cells (ubs n32).toArray 25)) = W0 at HC ⊢; go_at_call 83; refine (HH.out W0).mono ?_; rintro r1 w1 ⟨rfl, hw⟩; rw [hw]; clear hw)
    | (refine wpList_valW (by rfl) (run_build_hash0 rfl) ?_)
    | (refine wpList_store_row rfl _ (.tmp 8) (.tmp 23) rfl (W.heap.size + 2) (ubs n32).toArray rfl rfl 25 (ubs n32).toArray HC.out.z (sizeH_of HNL.out) (Eq.refl _) (ubs_all _) ?_))
  refine bodyPost_ret (results_row_tmp rfl _ _ (W.heap.size + 2) 25 (ubs n32).toArray (0, 0) _ rfl (setRow_heap _ _ (ubs n32).toArray _ _ _ HC.out.z) Tryd.underlying25 rfl (sizeH_of HNL.out)) rfl ?_
  exact ⟨rfl, below_setRow HC.out.b (by omega) _⟩
set_option maxRecDepth 100000 in
set_option maxHeartbeats 4000000 in
theorem pcutAfter_form (leaf root : List UInt8) (n c was blocks : Nat) (A : Option Addr) (W : World) (hf : leaf.length = 32) (h1 : was < 18446744073709551616) (h2 : blocks < 18446744073709551616) (hg : hgB blocks was = true) (hn : n ≠ highN was) :
    Calls Tryd.prog 47 #[.agg (cutV leaf A n c).toArray, .agg (ubs root).toArray, .int .u64 (was : Int), .int .u64 (blocks : Int)] W fun r W' => r = .returned (.tuple #[.agg (ubs (n32)).toArray, .iface 42 (.int .i64 2)]) ∧ Below W.heap.size W W' := by
  have HAH := hid (fun (o : Oper) (a : Go.Act) (W : World) (h : o.op = .alloc 25) => run_alloc_of (o := o) (a := a) (W := W) _ h _ zeroH8)
  have HNL := hid n32_length
  have HC := hid (CuW.start (W := W) (leaf := leaf) (root := root) (A := A) (n := n) (c := c))
  obtain ⟨C, hC⟩ : ∃ C, C = (cutV leaf A n c).toArray := ⟨_, rfl⟩
  rw [← hC] at HC
  rw [← hC]
  have HH := hid (fun (V : World) => show Calls Tryd.prog 83 #[.int .u64 (blocks : Int), .int .u64 (was : Int)] V (fun r W' => r = .returned (.tuple #[.int .i64 (highN blocks : Int), .int .i64 (highN was : Int), .nilIface]) ∧ W' = V) from by
    have := pheights_any blocks was h2 h1 V
    unfold htN at this
    rw [hg] at this
    exact this)
  have HFL := hid hf
  obtain ⟨z1, hz1⟩ : ∃ z, z = highN was := ⟨_, rfl⟩
  rw [← hz1] at HH hn
  generalize highN blocks = z2 at HH
  have d1 : ((n : Int) != (z1 : Int)) = true := by simp; omega
  have d2 : decide ((n : Int) = (z1 : Int)) = false := by simp; omega
  have d3 : decide (n = z1) = false := by simp; omega
  have d4 : ((n : Int) == (z1 : Int)) = false := by simp; omega
  clear hg hn hz1 hC h1 h2 hf
  go_enter Tryd.func47, Tryd.ntmps47
  go_wp2_with (first
    | (refine Great.wpList_allocTo rfl _ rfl _ _ (HAH.out _ _ _ rfl) ?_)
    | (generalize (((W.alloc (.cells C 83)).alloc (.cells (ubs root).toArray 25)).alloc (.cells (ubs n32).toArray 25)) = W0 at HC ⊢; go_at_call 83; refine (HH.out W0).mono ?_; rintro r1 w1 ⟨rfl, hw⟩; rw [hw]; clear hw; have c32 := cutV_cell HC.out.a HFL.out)
    | (refine wpList_valW (by rfl) (run_build_hash0 rfl) ?_)
    | (refine wpList_store_row rfl _ (.tmp 8) (.tmp 31) rfl (W.heap.size + 2) (ubs n32).toArray rfl rfl 25 (ubs n32).toArray HC.out.z (sizeH_of HNL.out) (Eq.refl _) (ubs_all _) ?_))
  refine bodyPost_ret (results_row_tmp rfl _ _ (W.heap.size + 2) 25 (ubs n32).toArray (0, 0) _ rfl (setRow_heap _ _ (ubs n32).toArray _ _ _ HC.out.z) Tryd.underlying25 rfl (sizeH_of HNL.out)) rfl ?_
  exact ⟨rfl, below_setRow HC.out.b (by omega) _⟩
set_option maxRecDepth 100000 in
set_option maxHeartbeats 4000000 in
theorem pcutAfter_proof (leaf root path : List UInt8) (n c was blocks : Nat) (A : Option Addr) (W : World) (hl : root.length = 32) (hf : leaf.length = 32) (h1 : was < 18446744073709551616) (h2 : blocks < 18446744073709551616) (hp : path.length = 32 * n) (hr : Rd W W.heap.size A (ubs path)) (hT : Tabs W) (hg : hgB blocks was = true) (hn : n = highN was) (hx : climbH leaf path (blocks - 1) n ≠ root) :
    Calls Tryd.prog 47 #[.agg (cutV leaf A n c).toArray, .agg (ubs root).toArray, .int .u64 (was : Int), .int .u64 (blocks : Int)] W fun r W' => r = .returned (.tuple #[.agg (ubs (n32)).toArray, .iface 42 (.int .i64 5)]) ∧ Below W.heap.size W W' := by
  have HAH := hid (fun (o : Oper) (a : Go.Act) (W : World) (h : o.op = .alloc 25) => run_alloc_of (o := o) (a := a) (W := W) _ h _ zeroH8)
  have HNL := hid n32_length
  have HC := hid (CuW.start (W := W) (leaf := leaf) (root := root) (A := A) (n := n) (c := c))
  obtain ⟨C, hC⟩ : ∃ C, C = (cutV leaf A n c).toArray := ⟨_, rfl⟩
  rw [← hC] at HC
  rw [← hC]
  have HH := hid (fun (V : World) => show Calls Tryd.prog 83 #[.int .u64 (blocks : Int), .int .u64 (was : Int)] V (fun r W' => r = .returned (.tuple #[.int .i64 (highN blocks : Int), .int .i64 (highN was : Int), .nilIface]) ∧ W' = V) from by
    have := pheights_any blocks was h2 h1 V
    unfold htN at this
    rw [hg] at this
    exact this)
  obtain ⟨q1, q2, q3⟩ := hgB_parts hg
  have hle := high_le q2 q3
  have hh := (highN_spec (b := was) q3).2.1
  obtain ⟨i, hi⟩ : ∃ i, i = blocks - 1 := ⟨_, rfl⟩
  have e1 : (blocks : Int) - 1 = (i : Int) := by omega
  have ew1 : IntKind.u64.wrap (i : Int) = (i : Int) := by simp [IntKind.wrap, IntKind.signed, IntKind.bits]; omega
  have E1 := hid e1
  have EW1 := hid ew1
  have HRL := hid hl
  have HFL := hid hf
  have HCL := hid (fun (V : World) (b : Below W.heap.size W V) => show Calls Tryd.prog 84 #[.int .i64 0, .int .u64 (i : Int), .agg (ubs leaf).toArray, .slice A n c] V (fun r V' => r = .returned (.agg (ubs (climbH leaf path i n)).toArray) ∧ Below V.heap.size V V') from by
    have := pclimb12_any 0 i n c leaf path A V hf (by rw [hn]; omega) (by omega) hp ((hr.below b).mono b.size) (hT.below b)
    rw [climbK_zero] at this
    exact this)
  have HXL := hid (climbH_length (path := path) (i := i) hf n)
  rw [← hi] at hx
  obtain ⟨x, hxe⟩ : ∃ x, x = climbH leaf path i n := ⟨_, rfl⟩
  rw [← hxe] at HCL HXL hx
  have HEQ := hid (show (x == root) = !true by simpa using hx)
  obtain ⟨z1, hz1⟩ : ∃ z, z = highN was := ⟨_, rfl⟩
  rw [← hz1] at HH hn hle
  have d1 : ((n : Int) != (z1 : Int)) = false := by simp; omega
  have d2 : decide ((n : Int) = (z1 : Int)) = true := by simp; omega
  have d3 : decide (n = z1) = true := by simp; omega
  have d4 : ((n : Int) == (z1 : Int)) = true := by simp; omega
  generalize highN blocks = z2 at HH
  clear hg hn q1 q2 q3 hle hh hz1 hx hi h2 h1 hl hf hp hr hT hxe hC
  go_enter Tryd.func47, Tryd.ntmps47
  go_wp2_with (first
    | (refine Great.wpList_allocTo rfl _ rfl _ _ (HAH.out _ _ _ rfl) ?_)
    | (generalize (((W.alloc (.cells C 83)).alloc (.cells (ubs root).toArray 25)).alloc (.cells (ubs n32).toArray 25)) = W0 at HC ⊢; go_at_call 83; refine (HH.out W0).mono ?_; rintro r1 w1 ⟨rfl, hw⟩; rw [hw]; clear hw; have c32 := cutV_cell HC.out.a HFL.out))
  have HCD := hid HC.out.drew
  clear c32
  try simp only [Act.put, List.setIfInBounds_toArray, List.set_cons_succ, List.set_cons_zero]
  refine wp_region_facts 10 10 [34, 35, 36, 37, 38, 39, 40, 41, 42, 33] (fun k v _ => v = cu12 W.heap.size A n c blocks i leaf x root true k) (CuW W leaf root A n c) (by kernel_rfl) (by kernel_rfl)
    (fun W W' h hb => h.new hb) (fun _ _ _ _ h _ => h) (HCD.out) ?_ ?_
  · intro k hi' vals W1 K hB hn hK
    simp only [frm_cons, frm_nil, List.set_cons_succ, List.set_cons_zero, Nat.reduceAdd] at hK ⊢
    rcases (by omega : k = 0 ∨ k = 1 ∨ k = 2 ∨ k = 3 ∨ k = 4 ∨ k = 5 ∨ k = 6 ∨ k = 7 ∨ k = 8 ∨ k = 9) with rfl | rfl | rfl | rfl | rfl | rfl | rfl | rfl | rfl | rfl
    · refine wpOp_plain rfl rfl (wp_val (w' := W1) (v := .int .u64 (blocks : Int)) (by go_simp) ?_)
      exact hK _ _ rfl (Below.refl _ _)
    · have h0 := hn 0 (by decide +kernel)
      simp only [cu12] at h0
      simp only [h0] at hK ⊢
      have q1 := E1.out
      have q2 := EW1.out
      refine wpOp_plain rfl rfl (wp_val (w' := W1) (v := .int .u64 (i : Int)) (by go_simp) ?_)
      exact hK _ _ rfl (Below.refl _ _)
    · refine wpOp_plain rfl rfl (wp_val (w' := W1) (v := .pointer (some ⟨W.heap.size, 0, none⟩)) (by go_simp) ?_)
      exact hK _ _ rfl (Below.refl _ _)
    · have h2 := hn 2 (by decide +kernel)
      simp only [cu12] at h2
      simp only [h2] at hK ⊢
      refine wpOp_plain rfl rfl (wp_val (run_loadH (.tmp 36) rfl W.heap.size 0 rfl leaf (cutV_range hB.a) HFL.out) ?_)
      exact hK _ _ rfl (Below.refl _ _)
    · refine wpOp_plain rfl rfl (wp_val (w' := W1) (v := .pointer (some ⟨W.heap.size, 32, none⟩)) (by go_simp) ?_)
      exact hK _ _ rfl (Below.refl _ _)
    · have h4 := hn 4 (by decide +kernel)
      simp only [cu12] at h4
      simp only [h4] at hK ⊢
      have c32 := cutV_cell (show At W1 W.heap.size (cutV leaf A n c).toArray 83 from hB.a) HFL.out
      refine wpOp_plain rfl rfl (wp_val (w' := W1) (v := .slice A n c) (by go_simp) ?_)
      exact hK _ _ rfl (Below.refl _ _)
    · have h1 := hn 1 (by decide +kernel)
      have h3 := hn 3 (by decide +kernel)
      have h5 := hn 5 (by decide +kernel)
      simp only [cu12] at h1 h3 h5
      simp only [h1, h3, h5] at hK ⊢
      refine wpOp_plain rfl rfl ?_
      go_simp
      go_at_call 84
      refine (HCL.out W1 hB.b).mono ?_
      rintro e W' ⟨rfl, hb⟩
      exact hK _ _ rfl hb
    · refine wpOp_plain rfl rfl (wp_val (run_loadH (.tmp 5) rfl (W.heap.size + 1) 0 rfl root (range_whole hB.r) HRL.out) ?_)
      exact hK _ _ rfl (Below.refl _ _)
    · have h6 := hn 6 (by decide +kernel)
      have h7 := hn 7 (by decide +kernel)
      simp only [cu12] at h6 h7
      simp only [h6, h7] at hK ⊢
      refine wpOp_plain rfl rfl (wp_val (run_neqH _ (.tmp 40) (.tmp 41) rfl x root HXL.out HRL.out rfl rfl true HEQ.out W1) ?_)
      exact hK _ _ rfl (Below.refl _ _)
    · have h8 := hn 8 (by decide +kernel)
      simp only [cu12] at h8
      simp only [h8] at hK ⊢
      refine wpOp_plain rfl rfl (wp_val (w' := W1) (v := .bool true) (by go_simp) ?_)
      exact hK _ _ rfl (Below.refl _ _)
  · intro vals W1 hB hF
    have h9 := hF 9 (by omega)
    simp only [cu12] at h9
    simp only [frm_cons, frm_nil, List.set_cons_succ, List.set_cons_zero, Nat.reduceAdd, h9]
    refine wpUpto_done (by decide +kernel) ?_ _
    have HC9 := hid hB
    clear hB hF h9
    
    go_simp
    go_wp2_with (first
      | (refine wpList_valW (by rfl) (run_build_hash0 rfl) ?_)
      | (refine wpList_store_row rfl _ (.tmp 8) (.tmp 43) rfl (W.heap.size + 2) (ubs n32).toArray rfl rfl 25 (ubs n32).toArray HC9.out.z (sizeH_of HNL.out) (Eq.refl _) (ubs_all _) ?_))
    refine bodyPost_ret (results_row_tmp rfl _ _ (W.heap.size + 2) 25 (ubs n32).toArray (0, 0) _ rfl (setRow_heap _ _ (ubs n32).toArray _ _ _ HC9.out.z) Tryd.underlying25 rfl (sizeH_of HNL.out)) rfl ?_
    exact ⟨rfl, below_setRow HC9.out.b (by omega) _⟩
set_option maxRecDepth 100000 in
set_option maxHeartbeats 4000000 in
theorem pcutAfter_ok (leaf root path : List UInt8) (n c was blocks : Nat) (A : Option Addr) (W : World) (hl : root.length = 32) (hf : leaf.length = 32) (h1 : was < 18446744073709551616) (h2 : blocks < 18446744073709551616) (hc : n ≤ c) (hp : path.length = 32 * n) (hr : Rd W W.heap.size A (ubs path)) (hT : Tabs W) (hg : hgB blocks was = true) (hn : n = highN was) (hx : climbH leaf path (blocks - 1) n = root) :
    Calls Tryd.prog 47 #[.agg (cutV leaf A n c).toArray, .agg (ubs root).toArray, .int .u64 (was : Int), .int .u64 (blocks : Int)] W fun r W' => r = .returned (.tuple #[.agg (ubs (climbH leaf (cutP path (blocks - 1) (highN blocks)) (blocks - 1) (highN blocks))).toArray, .nilIface]) ∧ Below W.heap.size W W' := by
  have HAH := hid (fun (o : Oper) (a : Go.Act) (W : World) (h : o.op = .alloc 25) => run_alloc_of (o := o) (a := a) (W := W) _ h _ zeroH8)
  have HNL := hid n32_length
  have HC := hid (CuW.start (W := W) (leaf := leaf) (root := root) (A := A) (n := n) (c := c))
  obtain ⟨C, hC⟩ : ∃ C, C = (cutV leaf A n c).toArray := ⟨_, rfl⟩
  rw [← hC] at HC
  rw [← hC]
  have HH := hid (fun (V : World) => show Calls Tryd.prog 83 #[.int .u64 (blocks : Int), .int .u64 (was : Int)] V (fun r W' => r = .returned (.tuple #[.int .i64 (highN blocks : Int), .int .i64 (highN was : Int), .nilIface]) ∧ W' = V) from by
    have := pheights_any blocks was h2 h1 V
    unfold htN at this
    rw [hg] at this
    exact this)
  obtain ⟨q1, q2, q3⟩ := hgB_parts hg
  have hle := high_le q2 q3
  have hh := (highN_spec (b := was) q3).2.1
  obtain ⟨i, hi⟩ : ∃ i, i = blocks - 1 := ⟨_, rfl⟩
  have e1 : (blocks : Int) - 1 = (i : Int) := by omega
  have ew1 : IntKind.u64.wrap (i : Int) = (i : Int) := by simp [IntKind.wrap, IntKind.signed, IntKind.bits]; omega
  have E1 := hid e1
  have EW1 := hid ew1
  have HRL := hid hl
  have HFL := hid hf
  have HCL := hid (fun (V : World) (b : Below W.heap.size W V) => show Calls Tryd.prog 84 #[.int .i64 0, .int .u64 (i : Int), .agg (ubs leaf).toArray, .slice A n c] V (fun r V' => r = .returned (.agg (ubs (climbH leaf path i n)).toArray) ∧ Below V.heap.size V V') from by
    have := pclimb12_any 0 i n c leaf path A V hf (by rw [hn]; omega) (by omega) hp ((hr.below b).mono b.size) (hT.below b)
    rw [climbK_zero] at this
    exact this)
  have HXL := hid (climbH_length (path := path) (i := i) hf n)
  rw [← hi] at hx
  obtain ⟨x, hxe⟩ : ∃ x, x = climbH leaf path i n := ⟨_, rfl⟩
  rw [← hxe] at HCL HXL hx
  rw [← hi]
  have HEQ := hid (show (x == root) = !false by simpa using hx)
  obtain ⟨z1, hz1⟩ : ∃ z, z = highN was := ⟨_, rfl⟩
  rw [← hz1] at HH hn hle
  have d1 : ((n : Int) != (z1 : Int)) = false := by simp; omega
  have d2 : decide ((n : Int) = (z1 : Int)) = true := by simp; omega
  have d3 : decide (n = z1) = true := by simp; omega
  have d4 : ((n : Int) == (z1 : Int)) = true := by simp; omega
  obtain ⟨z2, hz2⟩ : ∃ z, z = highN blocks := ⟨_, rfl⟩
  rw [← hz2] at HH hle ⊢
  obtain ⟨A1, hA1, hsl⟩ := run_slice_to12 A n z2 c (by omega)
  have HSL := hid hsl
  have htl : (path.take (32 * z2)).length = 32 * z2 := by rw [List.length_take]; omega
  have hr1 : Rd W W.heap.size A1 (ubs (path.take (32 * z2))) := fun hne => by
    obtain ⟨g, o, e, hg, hc⟩ := hr (fun e => hne (by unfold ubs at e ⊢; rw [List.map_take, e, List.take_nil]))
    rw [hA1 g o e]
    refine ⟨g, o, e, hg, fun j u hu => hc j u ?_⟩
    unfold ubs at hu ⊢
    rw [List.map_take, List.getElem?_take] at hu
    split at hu
    · exact hu
    · cases hu
  have HCO := hid (fun (V : World) (b : Below W.heap.size W V) => show Calls Tryd.prog 85 #[.int .u64 (i : Int), .slice A1 z2 c] V (fun r V' => ∃ A2 c2, r = .returned (.slice A2 z2 c2) ∧ Rd V' V'.heap.size A2 (ubs (cutP path i z2)) ∧ Below V.heap.size V V') from by
    have := pcutOff_any (path.take (32 * z2)) i z2 c A1 V (by omega) (by omega) htl ((hr1.below b).mono b.size) (hT.below b)
    rw [cutP_take i z2 (Nat.le_refl _)] at this
    exact this)
  obtain ⟨y, hy⟩ : ∃ y, y = climbH leaf (cutP path i z2) i z2 := ⟨_, rfl⟩
  rw [← hy]
  have HYL := hid (show y.length = 32 by rw [hy]; exact climbH_length hf z2)
  have HCP := hid (fun (V : World) (A2 : Option Addr) (c2 : Nat) (b : Below W.heap.size W V) (r : Rd V V.heap.size A2 (ubs (cutP path i z2))) => show Calls Tryd.prog 84 #[.int .i64 0, .int .u64 (i : Int), .agg (ubs leaf).toArray, .slice A2 z2 c2] V (fun r V' => r = .returned (.agg (ubs y).toArray) ∧ Below V.heap.size V V') from by
    have := pclimb12_any 0 i z2 c2 leaf (cutP path i z2) A2 V hf (by omega) (by omega) (cutP_length hp i z2 (by omega)) r (hT.below b)
    rw [climbK_zero, ← hy] at this
    exact this)
  clear hg hn q1 q2 q3 hle hh hz1 hz2 hx hi h2 h1 hl hf hp hr hT hxe hC hc hA1 hsl htl hr1 hy
  go_enter Tryd.func47, Tryd.ntmps47
  go_wp2_with (first
    | (refine Great.wpList_allocTo rfl _ rfl _ _ (HAH.out _ _ _ rfl) ?_)
    | (generalize (((W.alloc (.cells C 83)).alloc (.cells (ubs root).toArray 25)).alloc (.cells (ubs n32).toArray 25)) = W0 at HC ⊢; go_at_call 83; refine (HH.out W0).mono ?_; rintro r1 w1 ⟨rfl, hw⟩; rw [hw]; clear hw; have c32 := cutV_cell HC.out.a HFL.out))
  have HCD := hid HC.out.drew
  clear c32
  try simp only [Act.put, List.setIfInBounds_toArray, List.set_cons_succ, List.set_cons_zero]
  refine wp_region_facts 10 10 [34, 35, 36, 37, 38, 39, 40, 41, 42, 33] (fun k v _ => v = cu12 W.heap.size A n c blocks i leaf x root false k) (CuW W leaf root A n c) (by kernel_rfl) (by kernel_rfl)
    (fun W W' h hb => h.new hb) (fun _ _ _ _ h _ => h) (HCD.out) ?_ ?_
  · intro k hi' vals W1 K hB hn hK
    simp only [frm_cons, frm_nil, List.set_cons_succ, List.set_cons_zero, Nat.reduceAdd] at hK ⊢
    rcases (by omega : k = 0 ∨ k = 1 ∨ k = 2 ∨ k = 3 ∨ k = 4 ∨ k = 5 ∨ k = 6 ∨ k = 7 ∨ k = 8 ∨ k = 9) with rfl | rfl | rfl | rfl | rfl | rfl | rfl | rfl | rfl | rfl
    · refine wpOp_plain rfl rfl (wp_val (w' := W1) (v := .int .u64 (blocks : Int)) (by go_simp) ?_)
      exact hK _ _ rfl (Below.refl _ _)
    · have h0 := hn 0 (by decide +kernel)
      simp only [cu12] at h0
      simp only [h0] at hK ⊢
      have q1 := E1.out
      have q2 := EW1.out
      refine wpOp_plain rfl rfl (wp_val (w' := W1) (v := .int .u64 (i : Int)) (by go_simp) ?_)
      exact hK _ _ rfl (Below.refl _ _)
    · refine wpOp_plain rfl rfl (wp_val (w' := W1) (v := .pointer (some ⟨W.heap.size, 0, none⟩)) (by go_simp) ?_)
      exact hK _ _ rfl (Below.refl _ _)
    · have h2 := hn 2 (by decide +kernel)
      simp only [cu12] at h2
      simp only [h2] at hK ⊢
      refine wpOp_plain rfl rfl (wp_val (run_loadH (.tmp 36) rfl W.heap.size 0 rfl leaf (cutV_range hB.a) HFL.out) ?_)
      exact hK _ _ rfl (Below.refl _ _)
    · refine wpOp_plain rfl rfl (wp_val (w' := W1) (v := .pointer (some ⟨W.heap.size, 32, none⟩)) (by go_simp) ?_)
      exact hK _ _ rfl (Below.refl _ _)
    · have h4 := hn 4 (by decide +kernel)
      simp only [cu12] at h4
      simp only [h4] at hK ⊢
      have c32 := cutV_cell (show At W1 W.heap.size (cutV leaf A n c).toArray 83 from hB.a) HFL.out
      refine wpOp_plain rfl rfl (wp_val (w' := W1) (v := .slice A n c) (by go_simp) ?_)
      exact hK _ _ rfl (Below.refl _ _)
    · have h1 := hn 1 (by decide +kernel)
      have h3 := hn 3 (by decide +kernel)
      have h5 := hn 5 (by decide +kernel)
      simp only [cu12] at h1 h3 h5
      simp only [h1, h3, h5] at hK ⊢
      refine wpOp_plain rfl rfl ?_
      go_simp
      go_at_call 84
      refine (HCL.out W1 hB.b).mono ?_
      rintro e W' ⟨rfl, hb⟩
      exact hK _ _ rfl hb
    · refine wpOp_plain rfl rfl (wp_val (run_loadH (.tmp 5) rfl (W.heap.size + 1) 0 rfl root (range_whole hB.r) HRL.out) ?_)
      exact hK _ _ rfl (Below.refl _ _)
    · have h6 := hn 6 (by decide +kernel)
      have h7 := hn 7 (by decide +kernel)
      simp only [cu12] at h6 h7
      simp only [h6, h7] at hK ⊢
      refine wpOp_plain rfl rfl (wp_val (run_neqH _ (.tmp 40) (.tmp 41) rfl x root HXL.out HRL.out rfl rfl false HEQ.out W1) ?_)
      exact hK _ _ rfl (Below.refl _ _)
    · have h8 := hn 8 (by decide +kernel)
      simp only [cu12] at h8
      simp only [h8] at hK ⊢
      refine wpOp_plain rfl rfl (wp_val (w' := W1) (v := .bool false) (by go_simp) ?_)
      exact hK _ _ rfl (Below.refl _ _)
  · intro vals W1 hB hF
    have h9 := hF 9 (by omega)
    simp only [cu12] at h9
    simp only [frm_cons, frm_nil, List.set_cons_succ, List.set_cons_zero, Nat.reduceAdd, h9]
    refine wpUpto_done (by decide +kernel) ?_ _
    have HC9 := hid hB
    clear hB hF h9
    
    go_simp
    go_wp2
    have HCD9 := hid HC9.out.drew
    try simp only [Act.put, List.setIfInBounds_toArray, List.set_cons_succ, List.set_cons_zero]
    refine wp_region_upto (fun _ => True) 14 14 (by kernel_rfl) (by kernel_rfl) ?_
    refine wpUpto_facts 14 2 [0, 1, 2, 3, 4, 5, 6, 7, 8, 9, 10, 11] [45, 46, 47, 48, 49, 50, 51, 52, 53, 54, 55, 56] (cx12 W.heap.size A A1 n c blocks i z2 leaf y (cutP path i z2)) (CuW W leaf root A n c) (by kernel_rfl)
      (fun W W' h hb => h.new hb) (fun _ _ _ _ h hb => cx12_new h hb) (HCD9.out) ?_ ?_
    · intro k hi' vals W1 K hB hn hK
      replace hi' : k < 12 := hi'
      simp only [frm_cons, frm_nil, List.set_cons_succ, List.set_cons_zero, Nat.reduceAdd] at hK ⊢
      rcases (by omega : k = 0 ∨ k = 1 ∨ k = 2 ∨ k = 3 ∨ k = 4 ∨ k = 5 ∨ k = 6 ∨ k = 7 ∨ k = 8 ∨ k = 9 ∨ k = 10 ∨ k = 11) with rfl | rfl | rfl | rfl | rfl | rfl | rfl | rfl | rfl | rfl | rfl | rfl
      · refine wpOp_plain rfl rfl (wp_val (w' := W1) (v := .int .u64 (blocks : Int)) (by go_simp) ?_)
        exact hK _ _ ⟨fun h => absurd h (by decide), fun h => absurd h (by decide), fun _ _ => rfl⟩ (Below.refl _ _)
      · have h0 := hn 0 (by decide) (by decide +kernel)
        have e0 := h0.2.2 (by decide) (by decide)
        simp only [cv12] at e0
        simp only [e0] at hK ⊢
        have q1 := E1.out
        have q2 := EW1.out
        refine wpOp_plain rfl rfl (wp_val (w' := W1) (v := .int .u64 (i : Int)) (by go_simp) ?_)
        exact hK _ _ ⟨fun h => absurd h (by decide), fun h => absurd h (by decide), fun _ _ => rfl⟩ (Below.refl _ _)
      · refine wpOp_plain rfl rfl (wp_val (w' := W1) (v := .pointer (some ⟨W.heap.size, 0, none⟩)) (by go_simp) ?_)
        exact hK _ _ ⟨fun h => absurd h (by decide), fun h => absurd h (by decide), fun _ _ => rfl⟩ (Below.refl _ _)
      · have h2 := hn 2 (by decide) (by decide +kernel)
        have e2 := h2.2.2 (by decide) (by decide)
        simp only [cv12] at e2
        simp only [e2] at hK ⊢
        refine wpOp_plain rfl rfl (wp_val (run_loadH (.tmp 47) rfl W.heap.size 0 rfl leaf (cutV_range hB.a) HFL.out) ?_)
        exact hK _ _ ⟨fun h => absurd h (by decide), fun h => absurd h (by decide), fun _ _ => rfl⟩ (Below.refl _ _)
      · refine wpOp_plain rfl rfl (wp_val (w' := W1) (v := .int .u64 (blocks : Int)) (by go_simp) ?_)
        exact hK _ _ ⟨fun h => absurd h (by decide), fun h => absurd h (by decide), fun _ _ => rfl⟩ (Below.refl _ _)
      · have h4 := hn 4 (by decide) (by decide +kernel)
        have e4 := h4.2.2 (by decide) (by decide)
        simp only [cv12] at e4
        simp only [e4] at hK ⊢
        have q1 := E1.out
        have q2 := EW1.out
        refine wpOp_plain rfl rfl (wp_val (w' := W1) (v := .int .u64 (i : Int)) (by go_simp) ?_)
        exact hK _ _ ⟨fun h => absurd h (by decide), fun h => absurd h (by decide), fun _ _ => rfl⟩ (Below.refl _ _)
      · refine wpOp_plain rfl rfl (wp_val (w' := W1) (v := .pointer (some ⟨W.heap.size, 32, none⟩)) (by go_simp) ?_)
        exact hK _ _ ⟨fun h => absurd h (by decide), fun h => absurd h (by decide), fun _ _ => rfl⟩ (Below.refl _ _)
      · have h6 := hn 6 (by decide) (by decide +kernel)
        have e6 := h6.2.2 (by decide) (by decide)
        simp only [cv12] at e6
        simp only [e6] at hK ⊢
        have c32 := cutV_cell (show At W1 W.heap.size (cutV leaf A n c).toArray 83 from hB.a) HFL.out
        refine wpOp_plain rfl rfl (wp_val (w' := W1) (v := .slice A n c) (by go_simp) ?_)
        exact hK _ _ ⟨fun h => absurd h (by decide), fun h => absurd h (by decide), fun _ _ => rfl⟩ (Below.refl _ _)
      · refine wpOp_plain rfl rfl (wp_val (w' := W1) (v := .int .i64 (z2 : Int)) (by go_simp) ?_)
        exact hK _ _ ⟨fun h => absurd h (by decide), fun h => absurd h (by decide), fun _ _ => rfl⟩ (Below.refl _ _)
      · have h7 := hn 7 (by decide) (by decide +kernel)
        have h8 := hn 8 (by decide) (by decide +kernel)
        have e7 := h7.2.2 (by decide) (by decide)
        simp only [cv12] at e7
        have e8 := h8.2.2 (by decide) (by decide)
        simp only [cv12] at e8
        simp only [e7, e8] at hK ⊢
        have hsl := HSL.out W1
        refine wpOp_plain rfl rfl (wp_val (w' := W1) (v := .slice A1 z2 c) (by go_simp) ?_)
        exact hK _ _ ⟨fun _ => rfl, fun h => absurd h (by decide), fun h => absurd rfl h⟩ (Below.refl _ _)
      · have h5 := hn 5 (by decide) (by decide +kernel)
        have h9 := hn 9 (by decide) (by decide +kernel)
        have e5 := h5.2.2 (by decide) (by decide)
        simp only [cv12] at e5
        have e9 := h9.1 rfl
        simp only [e5, e9] at hK ⊢
        refine wpOp_plain rfl rfl ?_
        go_simp
        go_at_call 85
        refine (HCO.out W1 hB.b).mono ?_
        rintro e W' ⟨A2, c2, rfl, hr2, hb⟩
        exact hK _ _ ⟨fun h => absurd h (by decide), fun _ => ⟨A2, c2, rfl, hr2⟩, fun _ h => absurd rfl h⟩ hb
      · have h1 := hn 1 (by decide) (by decide +kernel)
        have h3 := hn 3 (by decide) (by decide +kernel)
        have h10 := hn 10 (by decide) (by decide +kernel)
        have e1 := h1.2.2 (by decide) (by decide)
        simp only [cv12] at e1
        have e3 := h3.2.2 (by decide) (by decide)
        simp only [cv12] at e3
        obtain ⟨A2, c2, e10, R10⟩ := h10.2.1 rfl
        simp only [e1, e3, e10] at hK ⊢
        refine wpOp_plain rfl rfl ?_
        go_simp
        go_at_call 84
        refine (HCP.out W1 A2 c2 hB.b R10).mono ?_
        rintro e W' ⟨rfl, hb⟩
        exact hK _ _ ⟨fun h => absurd h (by decide), fun h => absurd h (by decide), fun _ _ => rfl⟩ hb
    · intro vals W1 hB hF
      have h11 := hF 11 (by decide)
      have e11 := h11.2.2 (by decide) (by decide)
      simp only [cv12] at e11
      simp only [frm_cons, frm_nil, List.set_cons_succ, List.set_cons_zero, Nat.reduceAdd, e11]
      clear hF h11
      refine wpUpto_one (i := 12) rfl (by decide +kernel) rfl ?_
      intro Q0 hQ0
      refine wp_store_row 25 (.tmp 8) (.tmp 56) rfl (W.heap.size + 2) (ubs y).toArray rfl rfl 25 (ubs n32).toArray hB.z (sizeH_of HYL.out) (by simp [ubs_length, n32_length, HYL.out]) (ubs_all _) ?_
      refine hQ0.out _ _ (fun _ => trivial) ?_
      clear hQ0 Q0
      refine wpUpto_one (i := 13) rfl (by decide +kernel) rfl ?_
      intro Q0 hQ0
      go_simp
      refine hQ0.out _ _ (fun _ => trivial) ?_
      clear hQ0 Q0
      refine wpUpto_done (by decide +kernel) ?_ _
      go_simp
      go_wp2
      refine bodyPost_ret (results_row_tmp rfl _ _ (W.heap.size + 2) 25 (ubs y).toArray (0, 0) _ rfl (setRow_heap _ _ (ubs n32).toArray _ _ _ hB.z) Tryd.underlying25 rfl (sizeH_of HYL.out)) rfl ?_
      exact ⟨rfl, below_setRow hB.b (by omega) _⟩
      
theorem pcutAfter_any (leaf root path : List UInt8) (n c was blocks : Nat) (A : Option Addr) (W : World) (hl : root.length = 32) (hf : leaf.length = 32) (h1 : was < 18446744073709551616) (h2 : blocks < 18446744073709551616) (hc : n ≤ c) (hp : path.length = 32 * n) (hr : Rd W W.heap.size A (ubs path)) (hT : Tabs W) :
    Calls Tryd.prog 47 #[.agg (cutV leaf A n c).toArray, .agg (ubs root).toArray, .int .u64 (was : Int), .int .u64 (blocks : Int)] W fun r W' => r = .returned (.tuple #[.agg (ubs (ctE root leaf path n was blocks)).toArray, errV (ctN root leaf path n was blocks)]) ∧ Below W.heap.size W W' := by
  cases hg : hgB blocks was with
  | false =>
    rw [ctE_no (by rw [ctN_one hg]; omega), ctN_one hg]
    exact pcutAfter_range leaf root n c was blocks A W h1 h2 hg
  | true =>
    by_cases hn : n = highN was
    · by_cases hx : climbH leaf path (blocks - 1) n = root
      · rw [ctE_ok (ctN_zero hg hn hx), ctN_zero hg hn hx]
        exact pcutAfter_ok leaf root path n c was blocks A W hl hf h1 h2 hc hp hr hT hg hn hx
      · rw [ctE_no (by rw [ctN_five hg hn hx]; omega), ctN_five hg hn hx]
        exact pcutAfter_proof leaf root path n c was blocks A W hl hf h1 h2 hp hr hT hg hn hx
    · rw [ctE_no (by rw [ctN_two hg hn]; omega), ctN_two hg hn]
      exact pcutAfter_form leaf root n c was blocks A W hf h1 h2 hg hn
end Go.Proofs.YtdegmcfcbndelaaDoor
