/-
  Layer 12, the program's side: lists cloned; cutOff.
  Layer 12, the program's side: After of a cutting step.
-/
import Derived.Test.YtdegmcfcbndelaaDoorL5
import Derived.Test.YtdegmcfcbndelaaDoorK6
import Derived.Lib.SliceRun
import Derived.Test.YtdegmcfcbndelaaDoorYg
namespace Go.Proofs.YtdegmcfcbndelaaDoor
open Go.RowKit

/-- A slice of numbers of the call's own. -/
def Un (W : World) (base : Nat) (v : Value) (n : Nat) (l : List Nat) : Prop := W.ownsRow base 23 1 v n (nus l)
theorem Un.nil (W : World) (base : Nat) : Un W base (.slice none 0 0) 0 [] := World.ownsRow_nil _ _ _ _
theorem Un.form {W : World} {base n : Nat} {v : Value} {l : List Nat} (h : Un W base v n l) : ∃ A c, v = .slice A n c := by
  rcases h.2 with ⟨h1, h2⟩ | ⟨g, cap, cur, e, -⟩
  · rw [h1, h2]
    exact ⟨_, _, rfl⟩
  · exact ⟨_, _, e⟩
theorem Un.rd {W : World} {base n c : Nat} {A : Option Addr} {l : List Nat} (h : Un W base (.slice A n c) n l) : Nu W W.heap.size A l := fun hne => by
  rcases h.2 with ⟨h1, h2⟩ | ⟨g, cap, cur, e, hb, hh, -⟩
  · refine absurd ?_ hne
    exact List.eq_nil_of_length_eq_zero (by have := h.1; rw [h2] at this; omega)
  · obtain rfl : A = some ⟨g, 0, none⟩ := by cases e; rfl
    refine ⟨g, 0, rfl, lt_of_block hh, fun j u hu => ?_⟩
    have := World.ownsRow.cells h (g := g) rfl j u hu
    rwa [add_plain] at this
theorem Un.cap {W : World} {base n c : Nat} {A : Option Addr} {l : List Nat} (h : Un W base (.slice A n c) n l) : n ≤ c := by
  rcases h.2 with ⟨h1, h2⟩ | ⟨g, cap, cur, e, hb, hh, h3, -⟩
  · cases h1; omega
  · cases e; exact h3
theorem wpList_append_ux {ops : Array Oper} {rest : List Oper} {o : Oper} {a : Go.Act} {W : World} {Q : Exit → Go.Act → World → Prop} (hw : Region.wanted o (yielded ops a.tmps) = true) (s x : Operand)
    (ho : o.op = .call { callee := .builtin .append, args := #[s, x], argTypes := #[58, 58] })
    (base : Nat) (v : Value) (n : Nat) (bs : List Nat) (hs : a.eval s = v) (hown : Un W base v n bs) (A0 : Addr) (m c : Nat) (l : List Nat) (hx : a.eval x = .slice (some A0) m c) (hq : ∀ j u, (nus l)[j]? = some u → W.cell? (A0.add j) = some u) (hp : l.length = m) (hl : n + m ≤ 4294967296) (hbase : base ≤ W.heap.size)
    (h : ∀ A c w', Un w' base (.slice A (n + m) c) (n + m) (bs ++ l) → W.grownBy w' v.ownBlock → wpList Tryd.prog ops Q rest (a.put o.dst (.slice A (n + m) c)) w') :
    wpList Tryd.prog ops Q (o :: rest) a W :=
  BigFrame.wpList_want hw fun K hK => by
    obtain ⟨i, hi, hz, hsz, hby⟩ := infoU_parts
    obtain ⟨v', w', hr, h2, h3, -, -⟩ := run_append_own_at (P := Tryd.prog) W base 58 o.type 23 i _ 1 8 Tryd.underlying58 hi hz hsz hby rfl (by omega) v n (nus bs) hown A0 m c (nus l) (by rw [nus_length, hp, Nat.mul_one])
      hq (nus_one l) (by unfold maxLen; omega) (by omega) hbase
    have h6 : Un w' base v' (n + m) (bs ++ l) := by
      unfold Un
      rw [nus_append]
      exact h2
    obtain ⟨A, c', rfl⟩ := h6.form
    unfold Oper.wp execOp
    simp only [ho, resolve, invoke, builtin, Sem.run_bind, Sem.run_pure, Result.andThen_ok, List.map_toArray, List.map_cons, List.map_nil, hs, hx, hr]
    exact hK _ _ (h A c' w' h6 h3)
set_option maxRecDepth 100000 in
set_option maxHeartbeats 400000 in
/-- A slice of numbers cloned. -/
theorem pcloneU_any (c : Nat) (l : List Nat) (A : Option Addr) (W : World) (hn2 : l.length ≤ 1000000) (hr : Nu W W.heap.size A l) (hne : l ≠ []) :
    Calls Tryd.prog 88 #[.slice A l.length c] W fun r W' => ∃ A' c', r = .returned (.slice A' l.length c') ∧ Un W' W.heap.size (.slice A' l.length c') l.length l ∧ Below W.heap.size W W' := by
  obtain ⟨g, o, rfl, hg, hrr⟩ := hr (by intro e; have h := congrArg List.length e; rw [nus_length] at h; exact hne (List.eq_nil_of_length_eq_zero h))
  obtain ⟨n, hn⟩ : ∃ n, n = l.length := ⟨_, rfl⟩
  have HLN := hid hn
  rw [← hn]
  rw [← hn] at hn2
  have hq := Lib.run_eql_slice_nil (P := Tryd.prog) W 58 23 (some ⟨g, o, none⟩) n c 0 0 Tryd.underlying58
  have HN := hid hn2
  have hb1 : Below W.heap.size W (W.alloc (.cells #[] 23)) := (Below.refl _ _).alloc (Nat.le_refl _) _
  have HB1 := hid hb1
  have HO := hid (show Un (W.alloc (.cells #[] 23)) W.heap.size (.slice (some ⟨W.heap.size, 0, none⟩) 0 0) 0 [] from ⟨rfl, .inr ⟨W.heap.size, 0, #[], rfl, Nat.le_refl _, heap_alloc_new W _, Nat.le_refl _, Nat.zero_le _, rfl, rfl⟩⟩)
  have HR1 := hid (show ∀ j u, (nus l)[j]? = some u → (W.alloc (.cells #[] 23)).cell? ((⟨g, o, none⟩ : Addr).add j) = some u from fun j u hu => by rw [add_plain]; exact (World.cell?_of_block (hb1.block g hg)).trans (hrr j u hu))
  clear hrr hg hr hn2 hb1 hn hne
  go_enter Tryd.func88, Tryd.ntmps88
  go_wp2_with (first
    | (refine wpList_append_ux (by rfl) (.tmp 5) (.tmp 6) rfl W.heap.size (.slice (some ⟨W.heap.size, 0, none⟩) 0 0) 0 [] rfl HO.out ⟨g, o, none⟩ n c l rfl HR1.out HLN.out.symm (by have := HN.out; omega) HB1.out.size ?_; intro A2 c2 w2 h1 h2; simp only [Nat.zero_add, List.nil_append] at h1 ⊢; have H2 := hid h1; have G2 := hid h2; clear h1 h2))
  go_ret
  exact ⟨A2, c2, rfl, H2.out, HB1.out.grown G2.out HB1.out.size (fun k hk => by cases hk; exact Nat.le_refl _)⟩
end Go.Proofs.YtdegmcfcbndelaaDoor

namespace Go.Proofs.YtdegmcfcbndelaaDoor
open Go.RowKit

/-- A cutting step as a value. -/
def cutV (leaf : List UInt8) (A : Option Addr) (n c : Nat) : List Value := ubs leaf ++ [Value.slice A n c]
theorem cutV_length {leaf : List UInt8} {A : Option Addr} {n c : Nat} (h : leaf.length = 32) : (cutV leaf A n c).length = 33 := by
  unfold cutV
  rw [List.length_append, ubs_length, h]
  rfl
theorem cutV_range {V : World} {g : Nat} {leaf : List UInt8} {A : Option Addr} {n c : Nat} {T : TypeId} (h : At V g (cutV leaf A n c).toArray T) : V.rangeAt g 0 (ubs leaf) := fun j u hu => by
  rw [Nat.zero_add, h.cell, List.getElem?_toArray, cutV, List.getElem?_append_left (List.getElem?_eq_some_iff.1 hu).1]
  exact hu
theorem cutV_cell {V : World} {g : Nat} {leaf : List UInt8} {A : Option Addr} {n c : Nat} {T : TypeId} (h : At V g (cutV leaf A n c).toArray T) (hl : leaf.length = 32) : V.cell? ⟨g, 32, none⟩ = some (.slice A n c) := by
  rw [h.cell, List.getElem?_toArray, cutV, List.getElem?_append_right (by rw [ubs_length, hl]; exact Nat.le_refl _), ubs_length, hl]
  rfl
/-- A cut's memory. -/
structure CuW (W : World) (leaf root : List UInt8) (A : Option Addr) (n c : Nat) (V : World) : Prop where
  b : Below W.heap.size W V
  a : At V W.heap.size (cutV leaf A n c).toArray 83
  r : At V (W.heap.size + 1) (ubs root).toArray 25
  z : At V (W.heap.size + 2) (ubs n32).toArray 25
theorem CuW.new {W V V' : World} {leaf root : List UInt8} {A : Option Addr} {n c : Nat} (k : CuW W leaf root A n c V) (hb : Below V.heap.size V V') : CuW W leaf root A n c V' := ⟨k.b.trans (hb.mono k.b.size), k.a.new_ hb, k.r.new_ hb, k.z.new_ hb⟩
theorem CuW.drew {W V : World} {leaf root : List UInt8} {A : Option Addr} {n c : Nat} (k : CuW W leaf root A n c V) : CuW W leaf root A n c V.drew := k.new (Below.refl _ _).drew
theorem CuW.start {W : World} {leaf root : List UInt8} {A : Option Addr} {n c : Nat} : CuW W leaf root A n c (((W.alloc (.cells (cutV leaf A n c).toArray 83)).alloc (.cells (ubs root).toArray 25)).alloc (.cells (ubs n32).toArray 25)) :=
  ⟨(((Below.refl _ _).alloc (Nat.le_refl _) _).alloc (by simp) _).alloc (by simp; omega) _, ((At.new _ _ _).alloc _).alloc _, (At.new_at (by simp)).alloc _, At.new_at (by simp)⟩
end Go.Proofs.YtdegmcfcbndelaaDoor
