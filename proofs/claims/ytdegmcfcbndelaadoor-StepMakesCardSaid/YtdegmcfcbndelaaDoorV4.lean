/-
  The program's layer 6: labels' tags, sessions' keys.
  The program's sets of keys: as values, in memory; a session's key.
  The program's Of; a set's Session.
  The program's layer 7: a sealer in memory; New, and none's sealer.
  The program's layer 7: what is in range; a writer of the call's own; a place's bytes.
  The program's layer 7: a writer of the call's own; a place's bytes.
  The document's layer 7: Seal, Open.
  The program's layer 7: a block turned.
  Comparing bytes without haste.
  The short tag, and checking a tag.
  The program's layer 7: Seal.
-/
import Derived.Test.YtdegmcfcbndelaaDoorV0
import Derived.Test.YtdegmcfcbndelaaDoorY9
import Derived.Test.YtdegmcfcbndelaaDoorY1
import Derived.Test.YtdegmcfcbndelaaDoorX0
import Derived.Laws.Tables
import Derived.Test.YtdegmcfcbndelaaDoorV3
import Derived.Test.YtdegmcfcbndelaaDoorL1
namespace Go.Proofs.YtdegmcfcbndelaaDoor
open Go.RowKit

theorem SsW.begin (w : World) (l : List UInt8) : SsW w l ((w.alloc (.cells (ubs l).toArray 25)).alloc (.cells (ubs n32).toArray 25)) :=
  ⟨(At.new _ _ _).alloc _, At.new_at (by simp), ((Below.refl w.heap.size w).alloc (Nat.le_refl _) _).alloc (by simp) _⟩
end Go.Proofs.YtdegmcfcbndelaaDoor

namespace Go.Proofs.YtdegmcfcbndelaaDoor
open Go.RowKit

end Go.Proofs.YtdegmcfcbndelaaDoor

namespace Go.Proofs.YtdegmcfcbndelaaDoor
open Go.RowKit

end Go.Proofs.YtdegmcfcbndelaaDoor

namespace Go.Proofs.YtdegmcfcbndelaaDoor
open Go.RowKit

end Go.Proofs.YtdegmcfcbndelaaDoor

namespace Go.Proofs.YtdegmcfcbndelaaDoor
open Go.RowKit

end Go.Proofs.YtdegmcfcbndelaaDoor

namespace Go.Proofs.YtdegmcfcbndelaaDoor
open Go.RowKit

/-- A writer that lies where the world w ends, and the bytes that it has; nothing else has turned. -/
def WN (w : World) (bs : List UInt8) (W : World) : Prop := (∃ v, WI W w.heap.size w.heap.size 0 v bs) ∧ Below w.heap.size w W
theorem WN.begin (w : World) : WN w [] (w.alloc (.cells #[.nilIface, .slice none 0 0] 175)) :=
  ⟨⟨.slice none 0 0, At.new _ _ _, ⟨rfl, .inl ⟨rfl, rfl⟩⟩, Nat.le_refl _⟩, (Below.refl _ _).alloc (Nat.le_refl _) _⟩
theorem WN.new {w W W' : World} {bs : List UInt8} (h : WN w bs W) (hb : Below W.heap.size W W') : WN w bs W' := by
  obtain ⟨⟨v, h1⟩, h2⟩ := h
  exact ⟨⟨v, h1.keep (Fr.of_new (S := fun _ => False) hb) (fun _ _ => id)⟩, h2.trans (hb.mono h2.size)⟩
theorem WN.drew {w W : World} {bs : List UInt8} (h : WN w bs W) : WN w bs W.drew := by
  obtain ⟨⟨v, h1⟩, h2⟩ := h
  exact ⟨⟨v, h1.at_, h1.own, h1.low⟩, h2.drew⟩
theorem WN.out {w W W' : World} {bs bs' : List UInt8} {v x : Value} (h : WI W w.heap.size w.heap.size 0 v bs) (hb : Below w.heap.size w W) (ho : WOut w.heap.size w.heap.size 0 bs' v W x W') : x = .pointer (some ⟨w.heap.size, 0, none⟩) ∧ WN w bs' W' := by
  obtain ⟨rfl, v', h1, h2, -⟩ := ho
  refine ⟨rfl, ⟨v', h1⟩, ?_⟩
  have h3 : Fr (fun k => w.heap.size ≤ k) w W := Fr.of_below hb (fun _ _ h => h)
  refine (h3.next h2 (fun g hg hw => ?_)).below (fun _ h => h) (Nat.le_refl _)
  rcases hw with rfl | hw
  · exact Nat.le_refl _
  · obtain ⟨A, c, rfl, -, -, -, ho, ha⟩ := own_form h.own
    rcases A with _ | a
    · rw [ho] at hw; cases hw
    · rw [ho] at hw
      obtain rfl : a.block = g := by simpa using hw
      exact (ha a rfl).2.2.1
theorem be_toBE (n s : Nat) : be n s = toBE s n := by unfold be toBE; rfl
theorem wn_num {w W : World} {bs : List UInt8} (h : WN w bs W) (n s : Nat) (hs : Sz s) (hn : n < 256 ^ s) (hl : bs.length ≤ 900000000) :
    Calls Tryd.prog 94 #[.pointer (some ⟨w.heap.size, 0, none⟩), .int .u64 (n : Int), .int .i64 (s : Int)] W fun e w' => e = .returned (.pointer (some ⟨w.heap.size, 0, none⟩)) ∧ WN w (bs ++ toBE s n) w' := by
  obtain ⟨⟨v, h1⟩, h2⟩ := h
  refine (num_fit w.heap.size w.heap.size 0 v bs n s hs hn W h1 h2.size hl).mono ?_
  rintro e w' ⟨x, rfl, ho⟩
  obtain ⟨rfl, h3⟩ := WN.out h1 h2 ho
  rw [wput, if_pos rfl, be_toBE] at h3
  exact ⟨rfl, h3⟩
theorem wn_done {w W : World} {bs : List UInt8} (h : WN w bs W) (hl : bs.length ≤ 1000000000) :
    Calls Tryd.prog 96 #[.pointer (some ⟨w.heap.size, 0, none⟩)] W fun e w' => ∃ A c, e = .returned (.tuple #[.slice A bs.length c, .nilIface]) ∧ Ow w' w.heap.size (.slice A bs.length c) bs ∧ Rb w' w'.heap.size A bs ∧ Below w.heap.size w w' := by
  obtain ⟨⟨v, h1⟩, h2⟩ := h
  refine (done_good w.heap.size w.heap.size v bs W h1 hl).mono ?_
  rintro e w' ⟨x, rfl, ho, hb⟩
  obtain ⟨A, c, rfl, -⟩ := own_form ho
  refine ⟨A, c, by rw [errV_zero], own_mono ho (fun k hk => ?_), Rd.of_own ho, h2.trans (hb.mono h2.size)⟩
  obtain ⟨A', c', e, -, -, -, ho', ha⟩ := own_form ho
  rw [ho'] at hk
  rcases A' with _ | a
  · cases hk
  · obtain rfl : a.block = k := by simpa using hk
    exact Nat.le_trans h2.size (ha a rfl).2.2.1
end Go.Proofs.YtdegmcfcbndelaaDoor

namespace Go.Proofs.YtdegmcfcbndelaaDoor
open Go.RowKit

end Go.Proofs.YtdegmcfcbndelaaDoor

namespace Go.Proofs.YtdegmcfcbndelaaDoor
open Go.RowKit

section
variable {w W W' : World} {b c r t : List UInt8} {C S : Nat}
end
end Go.Proofs.YtdegmcfcbndelaaDoor

namespace Go.Proofs.YtdegmcfcbndelaaDoor
open Go.RowKit

end Go.Proofs.YtdegmcfcbndelaaDoor

namespace Go.Proofs.YtdegmcfcbndelaaDoor
open Go.RowKit

/-- What a call with a key and parts is handed. -/
structure Handed (k : List UInt8) (K : Option Addr) (ps : List Part) (S : Option Addr) (w : World) : Prop where
  rk : Rb w w.heap.size K k
  rs : Rd w w.heap.size S (ps.map Part.v)
  rp : ∀ p ∈ ps, Rb w w.heap.size p.A p.bs
  lk : k.length ≤ 1000000000
  lj : (joined ps).length ≤ 900000000
  lp : ps.length ≤ 900000000
  tb : Tabs w
theorem Handed.below {k : List UInt8} {K : Option Addr} {ps : List Part} {S : Option Addr} {w w' : World} (h : Handed k K ps S w) (hb : Below w.heap.size w w') : Handed k K ps S w' :=
  ⟨(h.rk.below hb).mono hb.size, (h.rs.below hb).mono hb.size, fun p hp => ((h.rp p hp).below hb).mono hb.size, h.lk, h.lj, h.lp, h.tb.below hb⟩
end Go.Proofs.YtdegmcfcbndelaaDoor

namespace Go.Proofs.YtdegmcfcbndelaaDoor
open Go.RowKit

section
variable {w W W' : World} {b r t pl d : List UInt8} {A : Option Addr} {C S X e : Nat}
end
end Go.Proofs.YtdegmcfcbndelaaDoor
