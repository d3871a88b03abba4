/-
  Is of layer 9: a tree held against the document's, over what the program's trees are to answer.
  What layer 9's laws share: dropping all that a script names; what Both has, later on.
  Slices of indices, of hashes, compared (entrustnum.Wide, entrustnum.Hashes).
-/
import Derived.Test.YtdegmcfcbndelaaDoorTo
import Derived.Test.YtdegmcfcbndelaaDoorY1
import Derived.Test.YtdegmcfcbndelaaDoorK1
import Derived.Test.YtdegmcfcbndelaaDoorY4
namespace Go.Proofs.YtdegmcfcbndelaaDoor
open Go.RowKit

attribute [local go_sem] Oper.semAt_some

section
variable {F : Fence} {rm : Nat} {P : Program} {ops : Array Oper} {Q : Exit → Act → World → Prop}
end
end Go.Proofs.YtdegmcfcbndelaaDoor

namespace Go.Proofs.YtdegmcfcbndelaaDoor
open Go.RowKit

section
variable {Pt : PtT} {w0 W W' W'' : World} {S : Nat → Prop} {b h : Nat} {L : List (Nat × List UInt8)} {A1 E : Option Addr}
theorem BoW.new (t : T9c Pt w0) (k : BoW Pt W S b h L A1 E W') (hb : Below W'.heap.size W' W'') : BoW Pt W S b h L A1 E W'' :=
  ⟨t.new k.t hb, k.l.new hb, k.e.new hb, k.far, k.sA, k.sE, k.below.trans (hb.mono k.below.size)⟩
end
theorem Gd.bnd {h : Nat} (l : List Act9) : (acts9 h l).length ≤ l.length := by
  have := acts9_le h l l.length (Nat.le_refl _)
  rwa [List.take_length] at this
/-- Whether Both has trees. -/
def bothB (h : Int) (n : Nat) : Prop := n ≤ 25 ∧ 0 ≤ h ∧ h ≤ 32
theorem both_no {Pt : PtT} {w : World} (t : T9c Pt w) (h : Int) (n : Nat) (A : Option Addr) (c : Nat) (W : World) (hW : Below w.heap.size w W) (hn : ¬ bothB h n) :
    Calls Tryd.prog 13 #[.int .i64 h, .slice A n c] W fun r W' => r = .returned (.tuple #[.pointer none, .agg #[.int .i64 0, .slice none 0 0, .slice none 0 0], .bool true, .bool false]) ∧ Below W.heap.size W W' := by
  by_cases h1 : 25 < n
  · exact both_large h n A c W h1
  · exact both_range t h n A c W hW (by omega) (by unfold bothB at hn; omega)
end Go.Proofs.YtdegmcfcbndelaaDoor

namespace Go.Proofs.YtdegmcfcbndelaaDoor
open Go.RowKit

theorem take_nextw {α : Type} [DecidableEq α] {a b : List α} {j : Nat} (ha : j < a.length) (hb : j < b.length) (h : a.take j = b.take j) (e : a[j] = b[j]) : a.take (j + 1) = b.take (j + 1) := by
  rw [List.take_succ_eq_append_getElem ha, List.take_succ_eq_append_getElem hb, h, e]
theorem ne_at {α : Type} {a b : List α} {j : Nat} (ha : j < a.length) (hb : j < b.length) (e : a[j] ≠ b[j]) : a ≠ b := by
  rintro rfl
  exact e rfl
set_option maxRecDepth 100000 in
set_option maxHeartbeats 1000000 in
theorem wide_any (a b : List Nat) (A B : Option Addr) (c d : Nat) (W : World) (ha : Nu W W.heap.size A a) (hb : Nu W W.heap.size B b) (hl : a.length ≤ 1000000) :
    Calls Tryd.prog 36 #[.slice A a.length c, .slice B b.length d] W fun r W' => r = .returned (.bool (decide (a = b))) ∧ Below W.heap.size W W' := by
  obtain ⟨n, hn⟩ : ∃ n, n = a.length := ⟨_, rfl⟩
  by_cases hm : a.length = b.length
  · rw [← hm, ← hn]
    have f0 : decide ((n : Int) = (n : Int)) = true := by simp
    have HA := hid (fun (V : World) (h : Below W.heap.size W V) => (ha.new h : Nu V V.heap.size A a))
    have HB := hid (fun (V : World) (h : Below W.heap.size W V) => (hb.new h : Nu V V.heap.size B b))
    have HN := hid hn
    have HM := hid hm
    have HL := hid (show n ≤ 1000000 by omega)
    clear ha hb hl hn hm
    go_enter Tryd.func36, Tryd.ntmps36
    go_wp2
    clear f0
    go_loopw [5, 13] (fun _ v13 wr => ∃ j : Nat, j ≤ n ∧ v13 = .int .i64 (j : Int) ∧ Hid (a.take j = b.take j) ∧ Hid (Below W.heap.size W wr)) (fun _ v13 _ => n - (intOf v13).toNat)
    case atStart => exact ⟨0, by omega, rfl, hid rfl, hid (Below.refl _ _)⟩
    case round =>
      obtain ⟨j, hj, rfl, HT, HW⟩ := hrel
      by_cases hlt : j < n
      · have d1 : decide ((j : Int) < (n : Int)) = true := by simp; omega
        have d1n : decide (j < n) = true := by simp; omega
        have ik : (j : Int) < (n : Int) := by omega
        have hja : j < a.length := by rw [← HN.out]; exact hlt
        have hjb : j < b.length := by rw [← HM.out]; exact hja
        obtain ⟨g, o, rfl, -, c0⟩ := (HA.out wr HW.out).at hja
        obtain ⟨g2, o2, rfl, -, c1⟩ := (HB.out wr HW.out).at hjb
        have HEQ := hid (fun e => take_nextw hja hjb HT.out e)
        have HNE := hid (fun e => ne_at hja hjb e)
        obtain ⟨x, hx⟩ : ∃ x, x = a[j] := ⟨_, rfl⟩
        obtain ⟨y, hy⟩ : ∃ x, x = b[j] := ⟨_, rfl⟩
        rw [← hx] at c0 HEQ HNE
        rw [← hy] at c1 HEQ HNE
        obtain ⟨p, hp⟩ : ∃ p, p = o + j := ⟨_, rfl⟩
        rw [← hp] at c0
        have ep := hp.symm
        obtain ⟨p2, hp2⟩ : ∃ p, p = o2 + j := ⟨_, rfl⟩
        rw [← hp2] at c1
        have ep2 := hp2.symm
        obtain ⟨j1, hj1⟩ : ∃ m, m = j + 1 := ⟨_, rfl⟩
        rw [← hj1] at HEQ
        have e2 : (j : Int) + 1 = (j1 : Int) := by omega
        have ew : IntKind.i64.wrap (j1 : Int) = (j1 : Int) := by rw [IntKind.wrap_i64] <;> have := HL.out <;> omega
        have HX := hid (show j1 ≤ n ∧ n - j1 < n - j by omega)
        by_cases hc : x = y
        · have k0 : decide ((x : Int) = (y : Int)) = true := by simp; omega
          have k0n : decide (x = y) = true := by simpa using hc
          have k0b : ((x : Int) == (y : Int)) = true := by simp; omega
          have k0c : ((x : Int) != (y : Int)) = false := by simp; omega
          have k0d : (x == y) = true := by simpa using hc
          have k0e : (x != y) = false := by simp; omega
          have HT2 := hid (HEQ.out hc)
          clear hx hy hp hp2 hj1 hlt hj hja hjb hc HT
          go_wp2
          go_quiet (fail)
          have HW2 := hid (below_drewN HW.out nq)
          clear c0 c1 HW
          generalize wr.drewN nq = W1 at HW2 ⊢
          go_wp2
          exact ⟨⟨j1, HX.out.1, rfl, HT2, HW2⟩, by
            show n - ((j1 : Int)).toNat < n - ((j : Int)).toNat
            rw [Int.toNat_natCast, Int.toNat_natCast]
            exact HX.out.2⟩
        · have k0 : decide ((x : Int) = (y : Int)) = false := by simp; omega
          have k0n : decide (x = y) = false := by simpa using hc
          have k0b : ((x : Int) == (y : Int)) = false := by simp; omega
          have k0c : ((x : Int) != (y : Int)) = true := by simp; omega
          have k0d : (x == y) = false := by simpa using hc
          have k0e : (x != y) = true := by simp; omega
          have HO := hid (show decide (a = b) = false by simpa using HNE.out hc)
          clear hx hy hp hp2 hj1 hlt hj hja hjb hc HT
          go_wp2
          go_quiet (fail)
          have HW2 := hid (below_drewN HW.out nq)
          clear c0 c1 HW
          generalize wr.drewN nq = W1 at HW2 ⊢
          go_wp2
          go_ret
          exact ⟨by rw [HO.out]; rfl, HW2.out⟩
      · obtain rfl : j = n := by omega
        have d1 : decide ((j : Int) < (j : Int)) = false := by simp
        have HO := hid (show decide (a = b) = true by
          have h := HT.out
          rw [HN.out, List.take_length, HM.out, List.take_length] at h
          simpa using h)
        clear hlt hj
        go_wp2
        go_ret
        exact ⟨by rw [HO.out]; rfl, HW.out⟩
  · obtain ⟨m, hmm⟩ : ∃ m, m = b.length := ⟨_, rfl⟩
    have hne : n ≠ m := by omega
    have HO := hid (show decide (a = b) = false by
      simp only [decide_eq_false_iff_not]
      rintro rfl
      exact hm rfl)
    rw [← hn, ← hmm]
    have k0 : decide ((n : Int) = (m : Int)) = false := by simp; omega
    have k0n : decide (n = m) = false := by simpa using hne
    have k0b : ((n : Int) == (m : Int)) = false := by simp; omega
    have k0c : ((n : Int) != (m : Int)) = true := by simp; omega
    have k0d : (n == m) = false := by simpa using hne
    have k0e : (n != m) = true := by simp; omega
    clear ha hb hl hn hm hmm hne
    go_enter Tryd.func36, Tryd.ntmps36
    go_wp2
    go_ret
    exact ⟨by rw [HO.out]; rfl, Below.refl _ _⟩
end Go.Proofs.YtdegmcfcbndelaaDoor
