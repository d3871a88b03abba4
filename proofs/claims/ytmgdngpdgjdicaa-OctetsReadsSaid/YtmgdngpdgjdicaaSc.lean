/-
  A script that came in: what its cells hold; the statement's own function 'long'.
-/
import Derived.Test.YtmgdngpdgjdicaaEq
namespace Go.Proofs.Ytmgdngpdgjdicaa
open Go.RowKit

/-- What is written, or read: an act of the script, as its cells have it. -/
structure Act where
  kind : Int
  size : Int
  n : Nat
  A : Option Addr
  c : Nat
  bs : List UInt8
def Act.cells (a : Act) : List Value := [.int .i64 a.kind, .int .i64 a.size, .int .u64 a.n, .slice a.A a.bs.length a.c]
structure Script (w : World) (B : Nat) (S : Option Addr) (acts : List Act) : Prop where
  cells : Rd w B S (acts.flatMap Act.cells)
  each : ∀ a ∈ acts, Rb w B a.A a.bs ∧ (-9223372036854775808 ≤ a.kind ∧ a.kind ≤ 9223372036854775807) ∧ (-9223372036854775808 ≤ a.size ∧ a.size ≤ 9223372036854775807) ∧ a.n < 18446744073709551616 ∧ a.bs.length ≤ 140737488351232
theorem flat_cells (acts : List Act) : ∀ (i j : Nat) (h : i < acts.length), j < 4 → (acts.flatMap Act.cells)[i * 4 + j]? = (acts[i]).cells[j]? := by
  induction acts with
  | nil => intro i j h; simp at h
  | cons a r ih =>
    intro i j h hj
    rw [List.flatMap_cons]
    cases i with
    | zero => rw [List.getElem?_append_left (by simp [Act.cells]; omega)]; simp
    | succ i =>
      rw [List.getElem?_append_right (by simp [Act.cells]; omega)]
      have : (i + 1) * 4 + j - a.cells.length = i * 4 + j := by simp [Act.cells]; omega
      rw [this, ih i j (by simpa using h) hj]
      simp
theorem Script.mono {w : World} {B B' : Nat} {S : Option Addr} {acts : List Act} (h : Script w B S acts) (hB : B ≤ B') : Script w B' S acts :=
  ⟨h.cells.mono hB, fun a ha => ⟨(h.each a ha).1.mono hB, (h.each a ha).2⟩⟩
theorem Script.below {w w' : World} {B : Nat} {S : Option Addr} {acts : List Act} (h : Script w B S acts) (hb : Below B w w') : Script w' B S acts :=
  ⟨h.cells.below hb, fun a ha => ⟨(h.each a ha).1.below hb, (h.each a ha).2⟩⟩
/-- The cells of an act. -/
theorem Script.at_ {w : World} {B : Nat} {S : Option Addr} {acts : List Act} (h : Script w B S acts) {i : Nat} (hi : i < acts.length) :
    ∃ b o, S = some ⟨b, o, none⟩ ∧ b < B ∧ w.cell? ⟨b, o + i * 4, none⟩ = some (.int .i64 acts[i].kind) ∧ w.cell? ⟨b, o + i * 4 + 1, none⟩ = some (.int .i64 acts[i].size) ∧
      w.cell? ⟨b, o + i * 4 + 2, none⟩ = some (.int .u64 acts[i].n) ∧ w.cell? ⟨b, o + i * 4 + 3, none⟩ = some (.slice acts[i].A acts[i].bs.length acts[i].c) := by
  have e := fun j hj => flat_cells acts i j hi hj
  obtain ⟨b, o, h1, h2, h3⟩ := h.cells (by
    intro h0
    have := e 0 (by omega)
    rw [h0] at this
    simp [Act.cells] at this)
  refine ⟨b, o, h1, h2, ?_, ?_, ?_, ?_⟩
  · exact h3 (i * 4 + 0) _ (e 0 (by omega))
  · rw [Nat.add_assoc]; exact h3 _ _ (e 1 (by omega))
  · rw [Nat.add_assoc]; exact h3 _ _ (e 2 (by omega))
  · rw [Nat.add_assoc]; exact h3 _ _ (e 3 (by omega))

/-- How many bytes there are in all. -/
def total (acts : List Act) : Nat := (acts.map fun a => a.bs.length).sum
theorem total_snoc (acts : List Act) (a : Act) : total (acts ++ [a]) = total acts + a.bs.length := by simp [total]

def LongOut (acts : List Act) (w : World) (x : Value) (w' : World) : Prop := ∃ b, x = .bool b ∧ (b = false → acts.length ≤ 41 ∧ total acts ≤ 200000) ∧ Below w.heap.size w w'
set_option maxHeartbeats 1000000 in
theorem long_any (acts : List Act) (S : Option Addr) (c : Nat) (w : World) (h : Script w w.heap.size S acts) (hl : acts.length ≤ 9223372036854775807) :
    Calls Try.prog 8 #[.slice S acts.length c] w fun e w' => ∃ x, e = .returned x ∧ LongOut acts w x w' := by
  have H := hid h
  clear h
  go_enter Try.func8, Try.ntmps8
  go_wp2
  go_loopw [3, 8] (fun n i wr => ∃ j : Nat, j ≤ acts.length ∧ j ≤ 41 ∧ i = .int .i64 j ∧ n = .int .i64 (total (acts.take j)) ∧ total (acts.take j) ≤ 200000 ∧ Below w.heap.size w wr) (fun _ i _ => acts.length - (intOf i).toNat)
  case atStart => exact ⟨0, by omega, by omega, rfl, rfl, by simp [total], Below.refl _ _⟩
  case round =>
    obtain ⟨j, hj, hj41, rfl, rfl, ht, hb⟩ := hrel
    have HB := hid hb
    clear hb
    by_cases hlt : j < acts.length
    · obtain ⟨b, o, rfl, hbl, c0, c1, c2, c3⟩ := (H.out.below HB.out).at_ hlt
      have hs := hid (total_snoc (acts.take j) acts[j])
      rw [← take_snoc acts j hlt] at hs
      have hm : acts[j].bs.length ≤ 140737488351232 := (H.out.each acts[j] (List.getElem_mem hlt)).2.2.2.2
      go_wp2
      all_goals first
        | (go_ret; exact ⟨_, rfl, true, rfl, fun h => (by cases h), (HB.out.alloc HB.out.size _)⟩)
        | skip
      go_roundw
      case rel => exact ⟨j + 1, by omega, by omega, by go_num, by rw [hs.out]; simp, by rw [hs.out]; omega, HB.out.alloc HB.out.size _⟩
      case measure => simp [intOf]; omega
    · obtain rfl : j = acts.length := by omega
      go_wp2
      go_ret
      exact ⟨_, rfl, false, rfl, fun _ => ⟨hj41, by simpa using ht⟩, HB.out⟩
end Go.Proofs.Ytmgdngpdgjdicaa
