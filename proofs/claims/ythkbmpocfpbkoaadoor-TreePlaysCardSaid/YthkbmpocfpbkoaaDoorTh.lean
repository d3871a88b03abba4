/-
  Layer 9, the document's side: High, New.
-/
import Derived.Test.YthkbmpocfpbkoaaDoorTa
namespace Go.Proofs.YthkbmpocfpbkoaaDoor
open Go.RowKit

/-- The least height from h on whose power is enough. -/
def hgF (b : Nat) : Nat → Nat → Nat
  | 0, h => h
  | f + 1, h => if b ≤ 2 ^ h then h else hgF b f (h + 1)
def highN (b : Nat) : Nat := hgF b 33 0
def highOk (b : Nat) : Bool := b != 0 && decide (b ≤ 4294967296)
theorem hgF_stop {b f h : Nat} (hb : b ≤ 2 ^ h) : hgF b (f + 1) h = h := by rw [hgF, if_pos hb]
theorem hgF_go {b f h : Nat} (hb : 2 ^ h < b) : hgF b (f + 1) h = hgF b f (h + 1) := by rw [hgF, if_neg (by omega)]
theorem hgF_spec (b : Nat) : ∀ f h, b ≤ 2 ^ (h + f) → (∀ k, k < h → 2 ^ k < b) → b ≤ 2 ^ hgF b f h ∧ hgF b f h ≤ h + f ∧ ∀ k, k < hgF b f h → 2 ^ k < b := by
  intro f
  induction f with
  | zero => exact fun h h1 h2 => ⟨h1, Nat.le_refl _, h2⟩
  | succ f ih =>
    intro h h1 h2
    by_cases e : b ≤ 2 ^ h
    · rw [hgF_stop e]
      exact ⟨e, by omega, h2⟩
    · rw [hgF_go (by omega)]
      obtain ⟨a, c, d⟩ := ih (h + 1) (by rwa [show h + 1 + f = h + (f + 1) by omega]) (fun k hk => by
        by_cases q : k = h
        · subst q; omega
        · exact h2 k (by omega))
      exact ⟨a, by omega, d⟩
theorem highN_spec {b : Nat} (hb : b ≤ 4294967296) : b ≤ 2 ^ highN b ∧ highN b ≤ 32 ∧ ∀ k, k < highN b → 2 ^ k < b := by
  obtain ⟨h1, -, h3⟩ := hgF_spec b 33 0 (by simp; omega) (fun k hk => by omega)
  refine ⟨h1, ?_, h3⟩
  refine Nat.le_of_not_lt fun h => ?_
  have := h3 32 h
  have e : (2 : Nat) ^ 32 = 4294967296 := by decide
  omega
set_option maxRecDepth 100000 in
set_option maxHeartbeats 1000000 in
theorem highR_any (b : Nat) (w : World) :
    Calls Tryd.prog 27 #[.int .u64 (b : Int)] w fun r w' => r = .returned (.tuple #[.int .i64 ((if highOk b then highN b else 0 : Nat) : Int), .bool (highOk b)]) ∧ w' = w := by
  by_cases h0 : b = 0
  · subst h0
    have e0 : highOk 0 = false := by decide
    rw [e0]
    go_enter Tryd.func27, Tryd.ntmps27
    go_wp2
    go_ret2
    exact ⟨rfl, rfl⟩
  have c0 : decide ((b : Int) = 0) = false := by simp; omega
  have c0' : decide (b = 0) = false := by simp; omega
  have c0b : ((b : Int) == 0) = false := by simp; omega
  by_cases h1 : 4294967296 < b
  · have e0 : highOk b = false := by unfold highOk; simp; omega
    have c1 : decide (4294967296 < (b : Int)) = true := by simp; omega
    have c1' : decide (4294967296 < b) = true := by simp; omega
    rw [e0]
    clear e0 h0 h1
    go_enter Tryd.func27, Tryd.ntmps27
    go_wp2
    go_ret2
    exact ⟨rfl, rfl⟩
  have e0 : highOk b = true := by unfold highOk; simp; omega
  have c1 : decide (4294967296 < (b : Int)) = false := by simp; omega
  have c1' : decide (4294967296 < b) = false := by simp; omega
  have HB := hid (show b ≤ 4294967296 by omega)
  obtain ⟨hn, hhn⟩ : ∃ n, n = highN b := ⟨_, rfl⟩
  rw [e0, if_pos rfl, ← hhn]
  have HN := hid (show hgF b 33 0 = hn from hhn.symm)
  have HN32 := hid (show hn ≤ 32 by rw [hhn]; exact (highN_spec HB.out).2.1)
  clear e0 h0 h1 hhn
  go_enter Tryd.func27, Tryd.ntmps27
  go_wp2
  go_loopw [4, 5] (fun v4 v5 wr => ∃ k m : Nat, k ≤ 32 ∧ v4 = .int .i64 (k : Int) ∧ v5 = .int .u64 (m : Int) ∧ Hid (m = 2 ^ k) ∧ Hid (hgF b (33 - k) k = hn) ∧ wr = w) (fun v4 _ _ => 33 - (intOf v4).toNat)
  case atStart => exact ⟨0, 1, by omega, rfl, rfl, hid rfl, HN, rfl⟩
  case round =>
    obtain ⟨k, m, hk, rfl, rfl, hm, hg, rfl⟩ := hrel
    by_cases hlt : m < b
    · have c2 : decide ((m : Int) < (b : Int)) = true := by simp; omega
      have c2' : decide (m < b) = true := by simp; omega
      have hm2 : m ≤ 4294967296 := by have := HB.out; omega
      have wm : IntKind.u64.wrap ((m : Int) * 2) = ((m * 2 : Nat) : Int) := by simp [IntKind.wrap, IntKind.signed, IntKind.bits]; omega
      have wk : IntKind.i64.wrap ((k : Int) + 1) = ((k + 1 : Nat) : Int) := by simp [IntKind.wrap, IntKind.signed, IntKind.bits]; omega
      have HM := hid (show m * 2 = 2 ^ (k + 1) by rw [hm.out, Nat.pow_succ])
      have hk2 : k < 32 := by
        refine Nat.lt_of_not_le fun h => ?_
        obtain rfl : k = 32 := by omega
        have e : (2 : Nat) ^ 32 = 4294967296 := by decide
        have h1 := hm.out
        have h2 := HB.out
        omega
      have HG := hid (show hgF b (33 - (k + 1)) (k + 1) = hn by
        have h1 := hg.out
        rw [show 33 - k = (33 - (k + 1)) + 1 by omega, hgF_go (by rw [← hm.out]; exact hlt)] at h1
        exact h1)
      obtain ⟨m', hm'⟩ : ∃ m', m' = m * 2 := ⟨_, rfl⟩
      rw [← hm'] at wm HM
      have HK2 := hid hk2
      clear hm hm2 hm' hg hk hlt hk2
      go_wp2
      exact ⟨⟨k + 1, m', by have := HK2.out; omega, by go_num, rfl, HM, HG, trivial⟩, by have := HK2.out; simp [intOf]; omega⟩
    · have c2 : decide ((m : Int) < (b : Int)) = false := by simp; omega
      have c2' : decide (m < b) = false := by simp; omega
      obtain rfl : k = hn := by
        have h1 := hg.out
        rw [show 33 - k = (32 - k) + 1 by omega, hgF_stop (by rw [← hm.out]; omega)] at h1
        exact h1
      clear hm hg hk hlt HN
      go_wp2
      go_ret2
      exact ⟨rfl, rfl⟩
theorem sizeTr : (Tryd.prog.info? 28).map (·.size) = some 3 := by kernel_rfl
theorem zeroTr : (Tryd.prog.info? 28).bind (·.zero) = some (.agg #[.int .i64 0, .slice none 0 0, .slice none 0 0]) := by kernel_rfl
theorem built_tr (h : Int) (E : Option Addr) (n c : Nat) : Tryd.prog.built 28 [(0, .int .i64 h), (2, .slice E n c)] = some #[.int .i64 h, .slice none 0 0, .slice E n c] := by kernel_rfl
theorem run_build_tr {o : Oper} {a : Go.Act} {W : World} (x y : Operand) (ho : o.op = .build 28 #[(0, x), (2, y)]) (h : Int) (E : Option Addr) (n c : Nat) (hx : a.eval x = .int .i64 h) (hy : a.eval y = .slice E n c) : (execOp a.eval o).run Tryd.prog W = .ok (.value (.agg #[.int .i64 h, .slice none 0 0, .slice E n c])) W :=
  run_build_of _ _ ho _ (by
    rw [← built_tr h E n c]
    simp [hx, hy])
/-- All empty hashes as a slice reads them. -/
def Ev (W : World) (B : Nat) (E : Option Addr) : Prop := Rd W B E (ubs (eRow 33))
theorem Ev.new {W W' : World} {E : Option Addr} (h : Ev W W.heap.size E) (hb : Below W.heap.size W W') : Ev W' W'.heap.size E := (Rd.below h hb).mono hb.size
theorem Ev.drew {W : World} {B : Nat} {E : Option Addr} (h : Ev W B E) : Ev W.drew B E := h
theorem Ev.of_row {W : World} {base g c : Nat} (h : Hw W base (.slice (some ⟨g, 0, none⟩) 33 c) 33 (eRow 33)) : Ev W W.heap.size (some ⟨g, 0, none⟩) := fun _ => by
  refine ⟨g, 0, rfl, ?_, fun j u hu => ?_⟩
  · rcases h.2 with ⟨_, h2⟩ | ⟨g', cap, cur, e, hb1, hh, r⟩
    · have := h.1
      omega
    · obtain rfl : g = g' := by cases e; rfl
      exact lt_of_block hh
  · have := h.cells (g := g) rfl j u hu
    rwa [add_plain] at this
/-- A slice that reads as before where another block is filled. -/
theorem Rd.row {W : World} {A : Option Addr} {xs : List Value} {g : Nat} (h : Rd W W.heap.size A xs) (hn : ∀ b o, A = some ⟨b, o, none⟩ → b ≠ g) (cs : Array Value) : Rd (W.setRow g cs) (W.setRow g cs).heap.size A xs := by
  have e : (W.setRow g cs).heap.size = W.heap.size := by simp [World.setRow]
  rw [e]
  exact Rd.fr h ((Fr.refl (fun k => k = g) W).setRow (.inr rfl) cs) (fun b o q hS => hn b o q hS)
theorem tr_cell {W : World} {g : Nat} {cs : List Value} {T : TypeId} (h : At W g cs.toArray T) (k : Nat) : W.cell? ⟨g, k, none⟩ = cs[k]? := by rw [h.cell k, List.getElem?_toArray]
theorem Hw.above {W w : World} {g c : Nat} {o : Obj} (h : Hw W (w.alloc o).heap.size (.slice (some ⟨g, 0, none⟩) 33 c) 33 (eRow 33)) : w.heap.size < g := by
  obtain ⟨g', c', e, hb⟩ := Hw.block h (by omega)
  obtain rfl : g = g' := by cases e; rfl
  simp at hb
  omega
set_option maxRecDepth 100000 in
set_option maxHeartbeats 1000000 in
theorem newR9_any (h : Int) (w : World) (hT : Tabr w) (hI : Tab w 1 IV.l) :
    Calls Tryd.prog 56 #[.int .i64 h] w fun r w' => ∃ g c, r = .returned (.agg #[.int .i64 h, .slice none 0 0, .slice (some ⟨g, 0, none⟩) 33 c]) ∧ Ev w' w'.heap.size (some ⟨g, 0, none⟩) ∧ Below w.heap.size w w' ∧ w.heap.size ≤ g := by
  have HAT := hid (fun (o : Oper) (a : Go.Act) (W : World) (h : o.op = .alloc 28) => run_alloc_of (o := o) (a := a) (W := W) _ h _ zeroTr)
  have A0 := hid (At.new w #[.int .i64 0, .slice none 0 0, .slice none 0 0] 28)
  have B0 := hid ((Below.refl w.heap.size w).alloc (Nat.le_refl _) (.cells #[.int .i64 0, .slice none 0 0, .slice none 0 0] 28))
  have HRE := hid (emptiesR_any (w.alloc (.cells #[.int .i64 0, .slice none 0 0, .slice none 0 0] 28)) (hT.below B0.out) (Tab.below (x := IV.a) (xs := [IV.b, IV.c, IV.d, IV.e, IV.f, IV.g, IV.h]) hI B0.out))
  have HSZ := hid (fun (cs : Array Value) (h : cs.size = 3) => show (Tryd.prog.info? 28).map (·.size) = some cs.size by rw [sizeTr, h])
  clear hT hI
  go_enter Tryd.func56, Tryd.ntmps56
  go_wp2_with (first
    | (refine Great.wpList_allocTo rfl _ rfl _ _ (HAT.out _ _ _ rfl) ?_)
    | (go_at_call 86; refine HRE.out.mono ?_; rintro r1 w1 ⟨g, c, rfl, he1, hb1⟩; have A1 := hid (A0.out.new_ hb1); have B1 := hid (B0.out.trans (hb1.mono B0.out.size)); have E1 := hid (Ev.of_row he1); have G1 := hid (Hw.above he1); have c0 := tr_cell A1.out 0; have c1 := tr_cell A1.out 1; have c2 := tr_cell A1.out 2; have f0 := A1.out.frozen 0; have f1 := A1.out.frozen 1; have f2 := A1.out.frozen 2; simp only [List.getElem?_cons_zero, List.getElem?_cons_succ] at c0 c1 c2; clear he1 hb1)
    | (refine wpList_valW (by rfl) (run_build_tr (.tmp 3) (.tmp 4) rfl h (some ⟨g, 0, none⟩) 33 c rfl rfl) ?_))
  have A2 := (show At (((w1.setCell ⟨w.heap.size, 0, none⟩ (.int .i64 h)).setCell ⟨w.heap.size, 1, none⟩ (.slice none 0 0)).setCell ⟨w.heap.size, 2, none⟩ (.slice (some ⟨g, 0, none⟩) 33 c)) w.heap.size #[.int .i64 h, .slice none 0 0, .slice (some ⟨g, 0, none⟩) 33 c] 28 from ((A1.out.put 0 _).put 1 _).put 2 _)
  refine bodyPost_ret (results_cell_row rfl _ _ w.heap.size 28 #[.int .i64 h, .slice none 0 0, .slice (some ⟨g, 0, none⟩) 33 c] (0, 0) _ rfl A2 Tryd.underlying28 rfl (HSZ.out _ rfl)) rfl ?_
  have hg : ∀ (b o : Nat), (some ⟨g, 0, none⟩ : Option Addr) = some ⟨b, o, none⟩ → b ≠ w.heap.size := fun b o e => by
    obtain ⟨rfl, rfl⟩ : g = b ∧ 0 = o := by simpa using e
    have := G1.out
    omega
  refine ⟨g, c, rfl, ?_, ((B1.out.setCell (p := ⟨w.heap.size, 0, none⟩) (Nat.le_refl _) _).setCell (p := ⟨w.heap.size, 1, none⟩) (Nat.le_refl _) _).setCell (p := ⟨w.heap.size, 2, none⟩) (Nat.le_refl _) _, by have := G1.out; omega⟩
  have := ((Rd.setCell E1.out (p := ⟨w.heap.size, 0, none⟩) hg (.int .i64 h)).setCell (p := ⟨w.heap.size, 1, none⟩) hg (.slice none 0 0)).setCell (p := ⟨w.heap.size, 2, none⟩) hg (.slice (some ⟨g, 0, none⟩) 33 c)
  exact Rd.mono this (by simp [World.setCell])
end Go.Proofs.YthkbmpocfpbkoaaDoor
