/-
  The program's layer 6: labels' tags, sessions' keys.
  The program's sets of keys: as values, in memory; a session's key.
  The program's Of; a set's Session.
  The program's layer 7: a sealer in memory; New, and none's sealer.
  The program's layer 7: what is in range; a writer of the call's own; a place's bytes.
  The program's layer 7: a writer of the call's own; a place's bytes.
  The document's layer 7: Seal, Open.
  The program's layer 7: a block turned.
  Comparing bytes without haste.
  The short tag, and checking a tag.
  The program's layer 7: Seal.
-/
import Derived.Test.YtfmbpdjcoopaeaaDoorV0
import Derived.Test.YtfmbpdjcoopaeaaDoorY9
import Derived.Test.YtfmbpdjcoopaeaaDoorY1
import Derived.Test.YtfmbpdjcoopaeaaDoorX0
import Derived.Laws.Tables
import Derived.Test.YtfmbpdjcoopaeaaDoorV3
import Derived.Test.YtfmbpdjcoopaeaaDoorDc
namespace Go.Proofs.YtfmbpdjcoopaeaaDoor
open Go.RowKit

theorem SsW.begin (w : World) (l : List UInt8) : SsW w l ((w.alloc (.cells (ubs l).toArray 25)).alloc (.cells (ubs n32).toArray 25)) :=
  ⟨(At.new _ _ _).alloc _, At.new_at (by simp), ((Below.refl w.heap.size w).alloc (Nat.le_refl _) _).alloc (by simp) _⟩
end Go.Proofs.YtfmbpdjcoopaeaaDoor

namespace Go.Proofs.YtfmbpdjcoopaeaaDoor
open Go.RowKit

def n112 : List UInt8 := List.replicate 112 0
end Go.Proofs.YtfmbpdjcoopaeaaDoor

namespace Go.Proofs.YtfmbpdjcoopaeaaDoor
open Go.RowKit

/-- What holds in Of: the key, the result, the label's tag. -/
structure OfW (w : World) (key h : List UInt8) (D : Nat) (W : World) : Prop where
  a0 : At W w.heap.size (ubs key).toArray 31
  a1 : At W (w.heap.size + 1) (ubs n112).toArray 137
  d : At W D (ubs h).toArray 25
  below : Below w.heap.size w W
theorem OfW.new {w W W' : World} {key h : List UInt8} {D : Nat} (x : OfW w key h D W) (hb : Below W.heap.size W W') : OfW w key h D W' := ⟨x.a0.new_ hb, x.a1.new_ hb, x.d.new_ hb, x.below.trans (hb.mono x.below.size)⟩
theorem OfW.drew {w W : World} {key h : List UInt8} {D : Nat} (x : OfW w key h D W) : OfW w key h D W.drew := ⟨x.a0, x.a1, x.d, x.below.drew⟩
end Go.Proofs.YtfmbpdjcoopaeaaDoor

namespace Go.Proofs.YtfmbpdjcoopaeaaDoor
open Go.RowKit

/-- A sealer's cells; a sealer for a key. -/
def slv (C : Nat) (t : List UInt8) : List Value := .pointer (some ⟨C, 0, none⟩) :: ubs t
def SlB (w : World) (r t : List UInt8) (S : Nat) : Prop := ∃ C, At w C (ubs r).toArray 219 ∧ At w S (slv C t).toArray 142
theorem SlB.new {w w' : World} {r t : List UInt8} {S : Nat} (h : SlB w r t S) (hb : Below w.heap.size w w') : SlB w' r t S := by
  obtain ⟨C, h1, h2⟩ := h
  exact ⟨C, h1.new_ hb, h2.new_ hb⟩
def SlA (w : World) (key : List UInt8) (S : Nat) : Prop := SlB w (rks (keyEnc key) 11) (keyTag key) S
theorem SlA.new {w w' : World} {key : List UInt8} {S : Nat} (h : SlA w key S) (hb : Below w.heap.size w w') : SlA w' key S := SlB.new h hb
theorem SlA.drew {w : World} {key : List UInt8} {S : Nat} (h : SlA w key S) : SlA w.drew key S := h
/-- A sealer or none. -/
def Slp (w : World) (key : List UInt8) (p : Option Addr) : Prop := (p = none ∧ key = n16) ∨ ∃ S, p = some ⟨S, 0, none⟩ ∧ SlA w key S
theorem Slp.new {w w' : World} {key : List UInt8} {p : Option Addr} (h : Slp w key p) (hb : Below w.heap.size w w') : Slp w' key p := h.imp id (fun ⟨S, e, h⟩ => ⟨S, e, h.new hb⟩)
end Go.Proofs.YtfmbpdjcoopaeaaDoor

namespace Go.Proofs.YtfmbpdjcoopaeaaDoor
open Go.RowKit

set_option maxRecDepth 100000 in
set_option maxHeartbeats 1000000 in
theorem pright_any (i e : Nat) (w : World) (he : e < 18446744073709551616) : Calls Tryd.prog 21 #[.int .u64 (i : Int), .int .u64 (e : Int)] w fun r w' => r = .returned (.bool (rightB i e)) ∧ w' = w := by
  by_cases h1 : i ≤ 4294967295
  · have c1 : decide ((i : Int) < 4294967296) = true := by simp; omega
    by_cases h2 : e = 0
    · have c2 : decide ((1 : Int) ≤ (e : Int)) = false := by rw [h2]; rfl
      have hr : rightB i e = false := by rw [rightB, h2]; simp
      rw [hr]
      clear h1 h2 hr he
      go_enter Tryd.func21, Tryd.ntmps21
      go_wp2
      go_ret
      exact ⟨rfl, rfl⟩
    · have c2 : decide ((1 : Int) ≤ (e : Int)) = true := by simp; omega
      by_cases h3 : e < 18446744073709551615
      · have c3 : decide ((e : Int) < 18446744073709551615) = true := by simp; omega
        have hr : rightB i e = true := by rw [rightB]; simp [h1, h2]; omega
        rw [hr]
        clear h1 h2 h3 hr he
        go_enter Tryd.func21, Tryd.ntmps21
        go_wp2
        go_ret
        exact ⟨rfl, rfl⟩
      · obtain rfl : e = 18446744073709551615 := by omega
        have hr : rightB i 18446744073709551615 = false := by rw [rightB]; simp
        rw [hr]
        clear h1 h2 h3 hr c2 he
        have c2 : decide ((1 : Int) ≤ ((18446744073709551615 : Nat) : Int)) = true := rfl
        have c3 : decide (((18446744073709551615 : Nat) : Int) < 18446744073709551615) = false := rfl
        go_enter Tryd.func21, Tryd.ntmps21
        go_wp2
        go_ret
        exact ⟨rfl, rfl⟩
  · have c1 : decide ((i : Int) < 4294967296) = false := by simp; omega
    have hr : rightB i e = false := by rw [rightB, decide_eq_false h1]; simp
    rw [hr]
    clear h1 hr he
    go_enter Tryd.func21, Tryd.ntmps21
    go_wp2
    go_ret
    exact ⟨rfl, rfl⟩
end Go.Proofs.YtfmbpdjcoopaeaaDoor

namespace Go.Proofs.YtfmbpdjcoopaeaaDoor
open Go.RowKit

/-- A writer that lies where the world w ends, and the bytes that it has; nothing else has turned. -/
def WN (w : World) (bs : List UInt8) (W : World) : Prop := (∃ v, WI W w.heap.size w.heap.size 0 v bs) ∧ Below w.heap.size w W
theorem WN.begin (w : World) : WN w [] (w.alloc (.cells #[.nilIface, .slice none 0 0] 154)) :=
  ⟨⟨.slice none 0 0, At.new _ _ _, ⟨rfl, .inl ⟨rfl, rfl⟩⟩, Nat.le_refl _⟩, (Below.refl _ _).alloc (Nat.le_refl _) _⟩
theorem WN.new {w W W' : World} {bs : List UInt8} (h : WN w bs W) (hb : Below W.heap.size W W') : WN w bs W' := by
  obtain ⟨⟨v, h1⟩, h2⟩ := h
  exact ⟨⟨v, h1.keep (Fr.of_new (S := fun _ => False) hb) (fun _ _ => id)⟩, h2.trans (hb.mono h2.size)⟩
theorem WN.drew {w W : World} {bs : List UInt8} (h : WN w bs W) : WN w bs W.drew := by
  obtain ⟨⟨v, h1⟩, h2⟩ := h
  exact ⟨⟨v, h1.at_, h1.own, h1.low⟩, h2.drew⟩
theorem WN.out {w W W' : World} {bs bs' : List UInt8} {v x : Value} (h : WI W w.heap.size w.heap.size 0 v bs) (hb : Below w.heap.size w W) (ho : WOut w.heap.size w.heap.size 0 bs' v W x W') : x = .pointer (some ⟨w.heap.size, 0, none⟩) ∧ WN w bs' W' := by
  obtain ⟨rfl, v', h1, h2, -⟩ := ho
  refine ⟨rfl, ⟨v', h1⟩, ?_⟩
  have h3 : Fr (fun k => w.heap.size ≤ k) w W := Fr.of_below hb (fun _ _ h => h)
  refine (h3.next h2 (fun g hg hw => ?_)).below (fun _ h => h) (Nat.le_refl _)
  rcases hw with rfl | hw
  · exact Nat.le_refl _
  · obtain ⟨A, c, rfl, -, -, -, ho, ha⟩ := own_form h.own
    rcases A with _ | a
    · rw [ho] at hw; cases hw
    · rw [ho] at hw
      obtain rfl : a.block = g := by simpa using hw
      exact (ha a rfl).2.2.1
theorem be_toBE (n s : Nat) : be n s = toBE s n := by unfold be toBE; rfl
theorem wn_num {w W : World} {bs : List UInt8} (h : WN w bs W) (n s : Nat) (hs : Sz s) (hn : n < 256 ^ s) (hl : bs.length ≤ 900000000) :
    Calls Tryd.prog 87 #[.pointer (some ⟨w.heap.size, 0, none⟩), .int .u64 (n : Int), .int .i64 (s : Int)] W fun e w' => e = .returned (.pointer (some ⟨w.heap.size, 0, none⟩)) ∧ WN w (bs ++ toBE s n) w' := by
  obtain ⟨⟨v, h1⟩, h2⟩ := h
  refine (num_fit w.heap.size w.heap.size 0 v bs n s hs hn W h1 h2.size hl).mono ?_
  rintro e w' ⟨x, rfl, ho⟩
  obtain ⟨rfl, h3⟩ := WN.out h1 h2 ho
  rw [wput, if_pos rfl, be_toBE] at h3
  exact ⟨rfl, h3⟩
theorem wn_raw {w W : World} {bs xs : List UInt8} {A : Option Addr} (c : Nat) (h : WN w bs W) (hx : Rb W W.heap.size A xs) (hl : bs.length + xs.length ≤ 1000000000) :
    Calls Tryd.prog 88 #[.pointer (some ⟨w.heap.size, 0, none⟩), .slice A xs.length c] W fun e w' => e = .returned (.pointer (some ⟨w.heap.size, 0, none⟩)) ∧ WN w (bs ++ xs) w' := by
  obtain ⟨⟨v, h1⟩, h2⟩ := h
  refine (raw_any w.heap.size w.heap.size 0 v bs xs A c W h1 hx h2.size hl).mono ?_
  rintro e w' ⟨x, rfl, ho⟩
  obtain ⟨rfl, h3⟩ := WN.out h1 h2 ho
  rw [wput, if_pos rfl] at h3
  exact ⟨rfl, h3⟩
theorem wn_done {w W : World} {bs : List UInt8} (h : WN w bs W) (hl : bs.length ≤ 1000000000) :
    Calls Tryd.prog 89 #[.pointer (some ⟨w.heap.size, 0, none⟩)] W fun e w' => ∃ A c, e = .returned (.tuple #[.slice A bs.length c, .nilIface]) ∧ Ow w' w.heap.size (.slice A bs.length c) bs ∧ Rb w' w'.heap.size A bs ∧ Below w.heap.size w w' := by
  obtain ⟨⟨v, h1⟩, h2⟩ := h
  refine (done_good w.heap.size w.heap.size v bs W h1 hl).mono ?_
  rintro e w' ⟨x, rfl, ho, hb⟩
  obtain ⟨A, c, rfl, -⟩ := own_form ho
  refine ⟨A, c, by rw [errV_zero], own_mono ho (fun k hk => ?_), Rd.of_own ho, h2.trans (hb.mono h2.size)⟩
  obtain ⟨A', c', e, -, -, -, ho', ha⟩ := own_form ho
  rw [ho'] at hk
  rcases A' with _ | a
  · cases hk
  · obtain rfl : a.block = k := by simpa using hk
    exact Nat.le_trans h2.size (ha a rfl).2.2.1
end Go.Proofs.YtfmbpdjcoopaeaaDoor

namespace Go.Proofs.YtfmbpdjcoopaeaaDoor
open Go.RowKit

/-- What holds in Seal: the key, the block, the result. -/
structure SeW (w : World) (key b : List UInt8) (r : List Value) (W : World) : Prop where
  k : At W w.heap.size (ubs key).toArray 31
  b : At W (w.heap.size + 1) (ubs b).toArray 35
  r : At W (w.heap.size + 2) r.toArray 44
  below : Below w.heap.size w W
theorem SeW.new {w W W' : World} {key b : List UInt8} {r : List Value} (h : SeW w key b r W) (hb : Below W.heap.size W W') : SeW w key b r W' := ⟨h.k.new_ hb, h.b.new_ hb, h.r.new_ hb, h.below.trans (hb.mono h.below.size)⟩
theorem SeW.drew {w W : World} {key b : List UInt8} {r : List Value} (h : SeW w key b r W) : SeW w key b r W.drew := ⟨h.k, h.b, h.r, h.below.drew⟩
theorem SeW.start (w : World) (key b : List UInt8) : SeW w key b (sv 0 n32 n16) (((w.alloc (.cells (ubs key).toArray 31)).alloc (.cells (ubs b).toArray 35)).alloc (.cells (sv 0 n32 n16).toArray 44)) :=
  ⟨((At.new _ _ _).alloc _).alloc _, (At.new_at (by simp)).alloc _, At.new_at (by simp), (((Below.refl w.heap.size w).alloc (Nat.le_refl _) _).alloc (by simp) _).alloc (by simp; omega) _⟩
end Go.Proofs.YtfmbpdjcoopaeaaDoor

namespace Go.Proofs.YtfmbpdjcoopaeaaDoor
open Go.RowKit

/-- What holds in turned: the block, the result, the counter, the sealer. -/
structure PvW (w : World) (b c r t : List UInt8) (C S : Nat) (W : World) : Prop where
  blk : At W w.heap.size (ubs b).toArray 35
  res : At W (w.heap.size + 1) (ubs n32).toArray 35
  ctr : At W (w.heap.size + 2) (ubs c).toArray 30
  ci : At W C (ubs r).toArray 219
  sl : At W S (slv C t).toArray 142
  below : Below w.heap.size w W
section
variable {w W W' : World} {b c r t : List UInt8} {C S : Nat}
theorem PvW.new (h : PvW w b c r t C S W) (hb : Below W.heap.size W W') : PvW w b c r t C S W' := ⟨h.blk.new_ hb, h.res.new_ hb, h.ctr.new_ hb, h.ci.new_ hb, h.sl.new_ hb, h.below.trans (hb.mono h.below.size)⟩
theorem PvW.drew (h : PvW w b c r t C S W) : PvW w b c r t C S W.drew := ⟨h.blk, h.res, h.ctr, h.ci, h.sl, h.below.drew⟩
theorem PvW.start (b : List UInt8) (h1 : At w C (ubs r).toArray 219) (h2 : At w S (slv C t).toArray 142) :
    PvW w b n16 r t C S (((w.alloc (.cells (ubs b).toArray 35)).alloc (.cells (ubs n32).toArray 35)).alloc (.cells (ubs n16).toArray 30)) :=
  ⟨((At.new _ _ _).alloc _).alloc _, (At.new_at (by simp)).alloc _, At.new_at (by simp), ((h1.alloc _).alloc _).alloc _, ((h2.alloc _).alloc _).alloc _, (((Below.refl w.heap.size w).alloc (Nat.le_refl _) _).alloc (by simp) _).alloc (by simp; omega) _⟩
theorem PvW.fill {d : List UInt8} (h : PvW w b c r t C S W) (hC : C < w.heap.size) (hS : S < w.heap.size) (hA : At W' (w.heap.size + 2) (ubs d).toArray 30) (hF : Fr (fun k => k = w.heap.size + 2) W W') : PvW w b d r t C S W' :=
  ⟨h.blk.fr hF (by omega), h.res.fr hF (by omega), hA, h.ci.fr hF (by omega), h.sl.fr hF (by omega), ((Fr.of_below (S := fun k => w.heap.size ≤ k) h.below (fun _ _ h => h)).next hF (fun k hk e => by omega)).below (fun _ h => h) (Nat.le_refl _)⟩
end
end Go.Proofs.YtfmbpdjcoopaeaaDoor

namespace Go.Proofs.YtfmbpdjcoopaeaaDoor
open Go.RowKit

theorem nxor_zero (a b : Nat) : a ^^^ b = 0 ↔ a = b :=
  ⟨fun h => by
    have := congrArg (· ^^^ b) h
    simpa [Nat.xor_assoc, Nat.xor_self] using this, fun h => by rw [h, Nat.xor_self]⟩
/-- What differs ahead of place k, the lengths first. -/
def difk (a b : List UInt8) : Nat → Nat
  | 0 => a.length ^^^ b.length
  | k + 1 => difk a b k ||| (a.getD k 0 ^^^ b.getD k 0).toNat
theorem difk_zero (a b : List UInt8) : difk a b 0 = a.length ^^^ b.length := rfl
theorem difk_succ (a b : List UInt8) (k : Nat) : difk a b (k + 1) = difk a b k ||| (a.getD k 0 ^^^ b.getD k 0).toNat := rfl
theorem difk_iff (a b : List UInt8) (k : Nat) : difk a b k = 0 ↔ a.length = b.length ∧ ∀ j, j < k → a.getD j 0 = b.getD j 0 := by
  induction k with
  | zero => rw [difk_zero, nxor_zero]; simp
  | succ k ih =>
    rw [difk_succ, Nat.or_eq_zero_iff, ih]
    have hx : (a.getD k 0 ^^^ b.getD k 0).toNat = 0 ↔ a.getD k 0 = b.getD k 0 := by
      rw [UInt8.toNat_xor, nxor_zero]
      exact UInt8.toNat_inj
    rw [hx]
    constructor
    · rintro ⟨⟨h1, h2⟩, h3⟩
      refine ⟨h1, fun j hj => ?_⟩
      rcases Nat.lt_or_ge j k with h | h
      · exact h2 j h
      · obtain rfl : j = k := by omega
        exact h3
    · rintro ⟨h1, h2⟩
      exact ⟨⟨h1, fun j hj => h2 j (by omega)⟩, h2 k (by omega)⟩
theorem difk_end (a b : List UInt8) (k : Nat) (h : k = max a.length b.length) : ((difk a b k : Int) == 0) = (a == b) := by
  rw [Bool.eq_iff_iff, beq_iff_eq, beq_iff_eq]
  have h1 : ((difk a b k : Int) = 0) ↔ difk a b k = 0 := by omega
  rw [h1, difk_iff]
  constructor
  · rintro ⟨h2, h3⟩
    refine List.ext_getElem h2 fun i hi hi2 => ?_
    have := h3 i (by omega)
    simpa [hi, hi2] using this
  · rintro rfl
    exact ⟨rfl, fun _ _ => rfl⟩
attribute [irreducible] difk
set_option maxRecDepth 100000 in
set_option maxHeartbeats 1000000 in
theorem same_any (a b : List UInt8) (A B : Option Addr) (ca cb : Nat) (w : World) (ha : Rb w w.heap.size A a) (hb : Rb w w.heap.size B b) (la : a.length ≤ 140737488355328) (lb : b.length ≤ 140737488355328) :
    Calls Tryd.prog 75 #[.slice A a.length ca, .slice B b.length cb] w fun e w' => e = .returned (.bool (a == b)) ∧ w = w' := by
  have KA := fun i => at_any a A ca i w ha
  have KB := fun i => at_any b B cb i w hb
  have D0 := difk_zero a b
  have DE := difk_end a b
  obtain ⟨n, hn⟩ : ∃ n, n = a.length := ⟨_, rfl⟩
  obtain ⟨m, hm⟩ : ∃ m, m = b.length := ⟨_, rfl⟩
  have h0 := n_xor 3 n m (by omega) (by omega)
  have hlt0 : n ^^^ m < 2 ^ 63 := Nat.xor_lt_two_pow (by omega) (by omega)
  rw [← hn, ← hm] at D0 DE ⊢
  rw [← hn] at KA la
  rw [← hm] at KB lb
  obtain ⟨d0, hd0⟩ : ∃ d, d = n ^^^ m := ⟨_, rfl⟩
  rw [← hd0] at h0 D0 hlt0
  have HKA := hid KA
  have HKB := hid KB
  have HD0 := hid D0
  obtain ⟨x, hx⟩ : ∃ x, x = max n m := ⟨_, rfl⟩
  rw [← hx] at DE
  have hxi : max (n : Int) (m : Int) = (x : Int) := by omega
  have hx2 : x ≤ 140737488355328 := by omega
  have HDE := hid DE
  have HS := hid (difk_succ a b)
  clear hd0 hn hm KA KB D0 DE ha hb hx
  have tok : Hid True := trivial
  by_cases hnm : n < m
  · obtain rfl : x = m := by omega
    clear hxi
    go_enter Tryd.func75, Tryd.ntmps75
    go_wp2
    go_loop [5, 17] (fun d i => ∃ k q : Nat, k ≤ x ∧ i = .int .i64 k ∧ d = .int .i64 q ∧ q < 2 ^ 63 ∧ Hid (difk a b k = q)) (fun _ i => x - (intOf i).toNat)
    case atStart => exact ⟨0, d0, by omega, rfl, rfl, hlt0, HD0⟩
    case round =>
      clear HD0 h0 hlt0
      obtain ⟨k, q, hk, rfl, rfl, hq, HQ⟩ := hrel
      by_cases hlt : k < x
      · have HX := hid (HS.out k)
        have hxy := b_xor 5 (a.getD k 0) (b.getD k 0)
        obtain ⟨y, hy⟩ : ∃ y, y = a.getD k 0 ^^^ b.getD k 0 := ⟨_, rfl⟩
        have hyl := y.toNat_lt
        have ho := n_or 3 q y.toNat hq (by omega)
        have hol : q ||| y.toNat < 2 ^ 63 := Nat.or_lt_two_pow hq (by omega)
        rw [← hy, HQ.out] at HX
        rw [← hy] at hxy
        obtain ⟨u, hu⟩ : ∃ u, u = a.getD k 0 := ⟨_, rfl⟩
        obtain ⟨v, hv⟩ : ∃ v, v = b.getD k 0 := ⟨_, rfl⟩
        have HU := HKA.out k
        have HV := HKB.out k
        rw [← hu] at hxy HU
        rw [← hv] at hxy HV
        obtain ⟨yn, hyn⟩ : ∃ yn, yn = y.toNat := ⟨_, rfl⟩
        rw [← hyn] at hxy ho hol hyl HX
        obtain ⟨r, hr⟩ : ∃ r, r = q ||| yn := ⟨_, rfl⟩
        rw [← hr] at ho hol HX
        replace HU := hid HU
        replace HV := hid HV
        clear hy hu hv hyn hr hq HQ
        go_wp2_with (first
          | (go_at_call 137; have _t := tok; clear tok _t; refine HU.out.mono ?_; rintro e w' ⟨rfl, hw⟩; rw [hw])
          | (go_at_call 137; refine HV.out.mono ?_; rintro e w' ⟨rfl, hw⟩; rw [hw]))
        go_round
        case rel => exact ⟨k + 1, r, by omega, by go_num, rfl, hol, HX⟩
        case measure => simp [intOf]; omega
      · have HE := hid (HDE.out k (by omega))
        rw [HQ.out] at HE
        go_wp2
        go_ret
        exact ⟨by rw [← HE.out]; rfl, rfl⟩
  · obtain rfl : x = n := by omega
    clear hxi
    go_enter Tryd.func75, Tryd.ntmps75
    go_wp2
    go_loop [5, 17] (fun d i => ∃ k q : Nat, k ≤ x ∧ i = .int .i64 k ∧ d = .int .i64 q ∧ q < 2 ^ 63 ∧ Hid (difk a b k = q)) (fun _ i => x - (intOf i).toNat)
    case atStart => exact ⟨0, d0, by omega, rfl, rfl, hlt0, HD0⟩
    case round =>
      clear HD0 h0 hlt0
      obtain ⟨k, q, hk, rfl, rfl, hq, HQ⟩ := hrel
      by_cases hlt : k < x
      · have HX := hid (HS.out k)
        have hxy := b_xor 5 (a.getD k 0) (b.getD k 0)
        obtain ⟨y, hy⟩ : ∃ y, y = a.getD k 0 ^^^ b.getD k 0 := ⟨_, rfl⟩
        have hyl := y.toNat_lt
        have ho := n_or 3 q y.toNat hq (by omega)
        have hol : q ||| y.toNat < 2 ^ 63 := Nat.or_lt_two_pow hq (by omega)
        rw [← hy, HQ.out] at HX
        rw [← hy] at hxy
        obtain ⟨u, hu⟩ : ∃ u, u = a.getD k 0 := ⟨_, rfl⟩
        obtain ⟨v, hv⟩ : ∃ v, v = b.getD k 0 := ⟨_, rfl⟩
        have HU := HKA.out k
        have HV := HKB.out k
        rw [← hu] at hxy HU
        rw [← hv] at hxy HV
        obtain ⟨yn, hyn⟩ : ∃ yn, yn = y.toNat := ⟨_, rfl⟩
        rw [← hyn] at hxy ho hol hyl HX
        obtain ⟨r, hr⟩ : ∃ r, r = q ||| yn := ⟨_, rfl⟩
        rw [← hr] at ho hol HX
        replace HU := hid HU
        replace HV := hid HV
        clear hy hu hv hyn hr hq HQ
        go_wp2_with (first
          | (go_at_call 137; have _t := tok; clear tok _t; refine HU.out.mono ?_; rintro e w' ⟨rfl, hw⟩; rw [hw])
          | (go_at_call 137; refine HV.out.mono ?_; rintro e w' ⟨rfl, hw⟩; rw [hw]))
        go_round
        case rel => exact ⟨k + 1, r, by omega, by go_num, rfl, hol, HX⟩
        case measure => simp [intOf]; omega
      · have HE := hid (HDE.out k (by omega))
        rw [HQ.out] at HE
        go_wp2
        go_ret
        exact ⟨by rw [← HE.out]; rfl, rfl⟩
end Go.Proofs.YtfmbpdjcoopaeaaDoor

namespace Go.Proofs.YtfmbpdjcoopaeaaDoor
open Go.RowKit

/-- What a call with a key and parts is handed. -/
structure Handed (k : List UInt8) (K : Option Addr) (ps : List Part) (S : Option Addr) (w : World) : Prop where
  rk : Rb w w.heap.size K k
  rs : Rd w w.heap.size S (ps.map Part.v)
  rp : ∀ p ∈ ps, Rb w w.heap.size p.A p.bs
  lk : k.length ≤ 1000000000
  lj : (joined ps).length ≤ 900000000
  lp : ps.length ≤ 900000000
  tb : Tabs w
theorem Handed.below {k : List UInt8} {K : Option Addr} {ps : List Part} {S : Option Addr} {w w' : World} (h : Handed k K ps S w) (hb : Below w.heap.size w w') : Handed k K ps S w' :=
  ⟨(h.rk.below hb).mono hb.size, (h.rs.below hb).mono hb.size, fun p hp => ((h.rp p hp).below hb).mono hb.size, h.lk, h.lj, h.lp, h.tb.below hb⟩
theorem Handed.mac {k : List UInt8} {K : Option Addr} {ps : List Part} {S : Option Addr} {w : World} (h : Handed k K ps S w) (ck cap : Nat) :
    Calls Tryd.prog 74 #[.slice K k.length ck, .slice S ps.length cap] w fun e w' => e = .returned (.agg (ubs (macL k (joined ps))).toArray) ∧ Below w.heap.size w w' :=
  mac_any k K ck ps S cap w h.rk h.rs h.rp h.lk h.lj h.lp h.tb
theorem short_splice (m : List UInt8) (h : m.length = 32) : splice (ubs n16) 0 ((ubs m).take 16) = ubs (m.take 16) := by
  simp only [splice, List.take_zero, List.nil_append, Nat.zero_add, ubs_drop, ubs_take, ← ubs_append, ubs_length, List.length_take, n16, List.drop_replicate, h]
  simp
set_option maxRecDepth 100000 in
set_option maxHeartbeats 8000000 in
theorem short_any (k : List UInt8) (K : Option Addr) (ck : Nat) (ps : List Part) (S : Option Addr) (cap : Nat) (w : World) (hh : Handed k K ps S w) :
    Calls Tryd.prog 83 #[.slice K k.length ck, .slice S ps.length cap] w fun e w' => ∃ g, e = .returned (.slice (some ⟨g, 0, none⟩) 16 16) ∧ At w' g (ubs ((macL k (joined ps)).take 16)).toArray 5 ∧ w.heap.size ≤ g ∧ Below w.heap.size w w' := by
  have hm := hh.mac ck cap
  obtain ⟨m, hm0⟩ : ∃ m, m = macL k (joined ps) := ⟨_, rfl⟩
  have HML := hid (show m.length = 32 by rw [hm0, macL_length])
  rw [← hm0] at hm ⊢
  obtain ⟨n, hn⟩ : ∃ n, n = ps.length := ⟨_, rfl⟩
  obtain ⟨l, hl⟩ : ∃ l, l = k.length := ⟨_, rfl⟩
  rw [← hn, ← hl] at hm ⊢
  have HM := hid hm
  have HS := hid (show (Tryd.prog.info? 25).map (·.size) = some (ubs m).toArray.size by rw [sizeH]; simp [ubs_length, HML.out])
  have HP := hid (short_splice m HML.out)
  have hz32 := noughts32
  have hmk : ∀ w : World, (Instr.makeSlice 22 (.int .i64 16) (.int .i64 16)).run Tryd.prog w = .ok (.slice (some ⟨w.heap.size, 0, none⟩) 16 16) (w.alloc (.cells (ubs n16).toArray 5)) := fun w => run_makeB 16 (by omega) w
  have HF := hid (fun (w2 w1 : World) (h : Fr (fun k => k = w2.heap.size) (w2.alloc (.cells (ubs n16).toArray 5)) w1) => (((Fr.refl (fun _ => False) w2).alloc _).next h (fun k hk he => by omega)).below (B := w2.heap.size) (fun _ h => h.elim) (Nat.le_refl _))
  clear hm hm0 hn hl hh
  go_enter Tryd.func83, Tryd.ntmps83
  go_wp2_with (first
    | (go_at_call 74; refine HM.out.mono ?_; rintro e w1 ⟨rfl, hb1⟩)
    | (refine wpList_store_row rfl _ (.tmp 5) (.tmp 9) rfl w1.heap.size (ubs m).toArray rfl rfl 25 (ubs n32).toArray (heap_alloc_new _ _) HS.out ?e1 (ubs_all _) ?e2; rotate_right; (have b2 := hb1.trans ((stored_below w1 m).mono hb1.size)); have B2 := hid b2; have A2 := hid (stored_at w1 m); clear b2 hb1; generalize ((w1.alloc (.cells (ubs n32).toArray 25)).setRow w1.heap.size (ubs m).toArray) = W2 at B2 A2 ⊢)
    | (refine wpList_copy_rd rfl (.tmp 11) (.tmp 12) _ _ rfl 5 Tryd.underlying22 sizeU8 W2.heap.size 0 16 16 (W2.heap.size + 1) (some ⟨w1.heap.size, 0, none⟩) 32 32 rfl rfl (ubs n16) 5 (At.new _ _ _) (ubs m) (Rd.mono (B := W2.heap.size) (rb_at (A2.out)) (by omega) |>.alloc _) (by rw [ubs_length]; exact HML.out) (by rw [ubs_length, n16_length]; omega) (ubs_one _) ?_; intro w3 hA3 hF3; rw [HP.out] at hA3; have A3 := hid hA3; have B3 := hid (HF.out _ _ hF3); clear hA3 hF3))
  case e1 => simp [ubs_length, n32_length, HML.out]
  go_ret
  exact ⟨_, rfl, A3.out, B2.out.size, B2.out.trans (B3.out.mono B2.out.size)⟩
/-- Which tags are one: the whole one, the short one. -/
def isTag (m t : List UInt8) : Bool := t == m || t == m.take 16
theorem isTag_short (m t : List UInt8) (hm : m.length = 32) (h : t.length = 16) : (t == m.take 16) = isTag m t := by
  have : (t == m) = false := by
    rw [beq_eq_false_iff_ne]
    rintro rfl
    omega
  rw [isTag, this, Bool.false_or]
theorem isTag_whole (m t : List UInt8) (hm : m.length = 32) (h : t.length = 32) : (t == m.take 32) = isTag m t := by
  have : (t == m.take 16) = false := by
    rw [beq_eq_false_iff_ne]
    intro e
    have := congrArg List.length e
    rw [List.length_take] at this
    omega
  rw [isTag, this, Bool.or_false, List.take_of_length_le (by omega)]
theorem isTag_other (m t : List UInt8) (hm : m.length = 32) (h : t.length ≠ 16) (h2 : t.length ≠ 32) : isTag m t = false := by
  rw [isTag, Bool.or_eq_false_iff, beq_eq_false_iff_ne, beq_eq_false_iff_ne]
  constructor
  · rintro rfl
    omega
  · intro e
    have := congrArg List.length e
    rw [List.length_take] at this
    omega
attribute [irreducible] isTag
set_option maxRecDepth 100000 in
theorem check_any (t : List UInt8) (T : Option Addr) (ct : Nat) (k : List UInt8) (K : Option Addr) (ck : Nat) (ps : List Part) (S : Option Addr) (cap : Nat) (w : World) (ht : Rb w w.heap.size T t) (lt : t.length ≤ 140737488355328) (hh : Handed k K ps S w) :
    Calls Tryd.prog 16 #[.slice T t.length ct, .slice K k.length ck, .slice S ps.length cap] w fun e w' => e = .returned (.bool (isTag (macL k (joined ps)) t)) ∧ Below w.heap.size w w' := by
  have hm := hh.mac ck cap
  obtain ⟨m, hm0⟩ : ∃ m, m = macL k (joined ps) := ⟨_, rfl⟩
  have HML := hid (show m.length = 32 by rw [hm0, macL_length])
  rw [← hm0] at hm ⊢
  obtain ⟨n, hn⟩ : ∃ n, n = ps.length := ⟨_, rfl⟩
  obtain ⟨l, hl⟩ : ∃ l, l = k.length := ⟨_, rfl⟩
  obtain ⟨x, hx⟩ : ∃ x, x = t.length := ⟨_, rfl⟩
  have HX := hid hx
  rw [← hn, ← hl] at hm ⊢
  rw [← hx] at lt ⊢
  have HM := hid hm
  have HS := hid (show (Tryd.prog.info? 25).map (·.size) = some (ubs m).toArray.size by rw [sizeH]; simp [ubs_length, HML.out])
  have HT := hid ht
  have hz32 := noughts32
  clear hm hm0 hn hl hh hx ht
  by_cases h16 : x = 16
  · subst h16
    have HR := hid (isTag_short m t HML.out HX.out.symm)
    go_enter Tryd.func16, Tryd.ntmps16
    go_wp2_with (first
      | (go_at_call 74; refine HM.out.mono ?_; rintro e w1 ⟨rfl, hb1⟩)
      | (refine wpList_store_row rfl _ (.tmp 7) (.tmp 10) rfl w1.heap.size (ubs m).toArray rfl rfl 25 (ubs n32).toArray (heap_alloc_new _ _) HS.out ?e16 (ubs_all _) ?f16; rotate_right; (have b2 := hb1.trans ((stored_below w1 m).mono hb1.size)); have B2 := hid b2; have A2 := hid (stored_rb w1 m); clear b2 hb1; generalize ((w1.alloc (.cells (ubs n32).toArray 25)).setRow w1.heap.size (ubs m).toArray) = W2 at B2 A2 ⊢)
      | (go_at_call 75; (have cq := same_any t (m.take 16) T (some ⟨w1.heap.size, 0, none⟩) ct 32 W2 ((HT.out.below B2.out).mono B2.out.size) (rb_take A2.out 16) (by have := HX.out; omega) (by rw [List.length_take]; omega)); rw [← HX.out, List.length_take, HML.out, HR.out] at cq; refine cq.mono ?_; rintro e w3 ⟨rfl, rfl⟩))
    case e16 => simp [ubs_length, n32_length, HML.out]
    go_ret
    exact ⟨rfl, B2.out⟩
  by_cases h32 : x = 32
  · subst h32
    have HR := hid (isTag_whole m t HML.out HX.out.symm)
    go_enter Tryd.func16, Tryd.ntmps16
    go_wp2_with (first
      | (go_at_call 74; refine HM.out.mono ?_; rintro e w1 ⟨rfl, hb1⟩)
      | (refine wpList_store_row rfl _ (.tmp 7) (.tmp 10) rfl w1.heap.size (ubs m).toArray rfl rfl 25 (ubs n32).toArray (heap_alloc_new _ _) HS.out ?e32 (ubs_all _) ?f32; rotate_right; (have b2 := hb1.trans ((stored_below w1 m).mono hb1.size)); have B2 := hid b2; have A2 := hid (stored_rb w1 m); clear b2 hb1; generalize ((w1.alloc (.cells (ubs n32).toArray 25)).setRow w1.heap.size (ubs m).toArray) = W2 at B2 A2 ⊢)
      | (go_at_call 75; (have cq := same_any t (m.take 32) T (some ⟨w1.heap.size, 0, none⟩) ct 32 W2 ((HT.out.below B2.out).mono B2.out.size) (rb_take A2.out 32) (by have := HX.out; omega) (by rw [List.length_take]; omega)); rw [← HX.out, List.length_take, HML.out, HR.out] at cq; refine cq.mono ?_; rintro e w3 ⟨rfl, rfl⟩))
    case e32 => simp [ubs_length, n32_length, HML.out]
    go_ret
    exact ⟨rfl, B2.out⟩
  · have HR := hid (isTag_other m t HML.out (by rw [← HX.out]; exact h16) (by rw [← HX.out]; exact h32))
    have c1 : ((x : Int) == 16) = false := by simp; omega
    have c2 : ((x : Int) == 32) = false := by simp; omega
    go_enter Tryd.func16, Tryd.ntmps16
    go_wp2_with (first
      | (go_at_call 74; refine HM.out.mono ?_; rintro e w1 ⟨rfl, hb1⟩)
      | (refine wpList_store_row rfl _ (.tmp 7) (.tmp 10) rfl w1.heap.size (ubs m).toArray rfl rfl 25 (ubs n32).toArray (heap_alloc_new _ _) HS.out ?e99 (ubs_all _) ?f99; rotate_right; (have b2 := hb1.trans ((stored_below w1 m).mono hb1.size)); have B2 := hid b2; have A2 := hid (stored_rb w1 m); clear b2 hb1; generalize ((w1.alloc (.cells (ubs n32).toArray 25)).setRow w1.heap.size (ubs m).toArray) = W2 at B2 A2 ⊢)
      | (go_at_call 75; (have cq := same_any t (m.take 99) T (some ⟨w1.heap.size, 0, none⟩) ct 32 W2 ((HT.out.below B2.out).mono B2.out.size) (rb_take A2.out 99) (by have := HX.out; omega) (by rw [List.length_take]; omega)); rw [← HX.out, List.length_take, HML.out, HR.out] at cq; refine cq.mono ?_; rintro e w3 ⟨rfl, rfl⟩))
    case e99 => simp [ubs_length, n32_length, HML.out]
    go_ret
    exact ⟨by rw [HR.out]; rfl, B2.out⟩
end Go.Proofs.YtfmbpdjcoopaeaaDoor

namespace Go.Proofs.YtfmbpdjcoopaeaaDoor
open Go.RowKit

theorem built_ps (e : Nat) (d t : List UInt8) (hd : d.length = 32) (ht : t.length = 16) : Tryd.prog.built 37 [(0, .int .u64 (e : Int)), (1, .agg (ubs d).toArray), (2, .agg (ubs t).toArray)] = some (sv e d t).toArray ∧ Tryd.prog.built 37 [(0, .int .u64 (e : Int)), (1, .agg (ubs d).toArray)] = some (sv e d n16).toArray ∧ Tryd.prog.built 37 [(0, .int .u64 (e : Int))] = some (sv e n32 n16).toArray := by
  obtain ⟨it, hit, hzero⟩ : ∃ it, Tryd.prog.info? 37 = some it ∧ it.zero = some (.agg (sv 0 n32 n16).toArray) := by
    have hz := zeroPs
    cases h : Tryd.prog.info? 37 with
    | none => rw [h] at hz; cases hz
    | some it => rw [h] at hz; exact ⟨it, rfl, hz⟩
  obtain ⟨fs, hu, hp⟩ : ∃ fs, Tryd.prog.underlying 37 = some (.struct fs) ∧ fs.toList.mapM (fun f => (Tryd.prog.info? f.type).map fun i => (f.offset, i.size)) = some [(0, 1), (1, 32), (33, 16)] := ⟨_, Tryd.underlying37, by kernel_rfl⟩
  have s1 : spv (sv 0 n32 n16) 0 [.int .u64 (e : Int)] = sv e n32 n16 := rfl
  have s2 : spv (sv e n32 n16) 1 (ubs d) = sv e d n16 := by
    have := spv_at [.int .u64 (e : Int)] (ubs n32) (ubs n16) (ubs d) (by simp [ubs_length, n32_length, hd])
    exact this
  have s3 : spv (sv e d n16) 33 (ubs t) = sv e d t := by
    have := spv_at (.int .u64 (e : Int) :: ubs d) (ubs n16) [] (ubs t) (by simp [ubs_length, n16_length, ht])
    rw [List.length_cons, ubs_length, hd, List.append_nil, List.append_nil] at this
    exact this
  have f1 : ∀ place rest, place 0 = some (0, 1) → Instr.fill place (sv 0 n32 n16).toArray ((0, .int .u64 (e : Int)) :: rest) = Instr.fill place (sv e n32 n16).toArray rest := fun place rest h => by
    rw [fill_step place 0 0 1 (sv 0 n32 n16) [.int .u64 (e : Int)] _ _ rfl h rfl (by rw [sv_length 0 n32 n16 n32_length n16_length]; omega), s1]
  have f2 : ∀ place rest, place 1 = some (1, 32) → Instr.fill place (sv e n32 n16).toArray ((1, .agg (ubs d).toArray) :: rest) = Instr.fill place (sv e d n16).toArray rest := fun place rest h => by
    rw [fill_step place 1 1 32 _ (ubs d) _ _ rfl h (by rw [ubs_length, hd]) (by rw [sv_length e n32 n16 n32_length n16_length]; omega), s2]
  have f3 : ∀ place rest, place 2 = some (33, 16) → Instr.fill place (sv e d n16).toArray ((2, .agg (ubs t).toArray) :: rest) = Instr.fill place (sv e d t).toArray rest := fun place rest h => by
    rw [fill_step place 2 33 16 _ (ubs t) _ _ rfl h (by rw [ubs_length, ht]) (by rw [sv_length e d n16 hd n16_length]; omega), s3]
  unfold Program.built
  simp only [hit, hu, hzero, hp]
  refine ⟨?_, ?_, ?_⟩
  · show Instr.fill _ (sv 0 n32 n16).toArray _ = _
    rw [f1 _ _ rfl, f2 _ _ rfl, f3 _ _ rfl]
    rfl
  · show Instr.fill _ (sv 0 n32 n16).toArray _ = _
    rw [f1 _ _ rfl, f2 _ _ rfl]
    rfl
  · show Instr.fill _ (sv 0 n32 n16).toArray _ = _
    rw [f1 _ _ rfl]
    rfl
theorem run_build_ps1 {o : Oper} {a : Go.Act} {W : World} (x : Operand) (ho : o.op = .build 37 #[(0, x)]) (e : Nat) (hx : a.eval x = .int .u64 (e : Int)) : (execOp a.eval o).run Tryd.prog W = .ok (.value (.agg (sv e n32 n16).toArray)) W :=
  run_build_of _ _ ho _ (by
    have := (built_ps e n32 n16 n32_length n16_length).2.2
    rw [← this]
    simp [hx])
theorem rd_row {w : World} {g : Nat} {t : TypeId} {l : List Value} (h : At w g l.toArray t) : Rd w w.heap.size (some ⟨g, 0, none⟩) l := fun _ => ⟨g, 0, rfl, h.lt, fun j u hu => by
  rw [Nat.zero_add, h.cell, List.getElem?_toArray]
  exact hu⟩
theorem splice_sv (e : Nat) (d t : List UInt8) (hd : d.length = 32) (ht : t.length = 16) : splice (sv e d n16) 33 ((ubs t).take 16) = sv e d t := by
  rw [List.take_of_length_le (by rw [ubs_length, ht]; omega)]
  unfold splice
  rw [List.drop_eq_nil_of_le (by rw [sv_length e d n16 hd n16_length, ubs_length, ht]; omega), List.append_nil]
  have : (sv e d n16).take 33 = .int .u64 (e : Int) :: ubs d := by
    unfold sv
    rw [List.take_succ_cons, List.take_left' (by rw [ubs_length, hd])]
  rw [this]
  rfl
theorem splice_svd (e : Nat) (d t : List UInt8) (hd : d.length = 32) : splice (sv e n32 t) 1 ((ubs d).take 32) = sv e d t := by
  rw [List.take_of_length_le (by rw [ubs_length, hd]; omega)]
  unfold splice sv
  rw [List.take_succ_cons, List.take_zero, ubs_length, hd, Nat.add_comm, List.drop_succ_cons, List.drop_left' (by rw [ubs_length, n32_length])]
  rfl
/-- What holds in Seal: the block, the result. -/
structure PsW (w : World) (b : List UInt8) (W : World) : Prop where
  blk : At W w.heap.size (ubs b).toArray 35
  res : At W (w.heap.size + 1) (sv 0 n32 n16).toArray 37
  below : Below w.heap.size w W
theorem PsW.new {w W W' : World} {b : List UInt8} (h : PsW w b W) (hb : Below W.heap.size W W') : PsW w b W' := ⟨h.blk.new_ hb, h.res.new_ hb, h.below.trans (hb.mono h.below.size)⟩
theorem PsW.drew {w W : World} {b : List UInt8} (h : PsW w b W) : PsW w b W.drew := ⟨h.blk, h.res, h.below.drew⟩
theorem PsW.start (w : World) (b : List UInt8) : PsW w b ((w.alloc (.cells (ubs b).toArray 35)).alloc (.cells (sv 0 n32 n16).toArray 37)) :=
  ⟨(At.new _ _ _).alloc _, At.new_at (by simp), ((Below.refl w.heap.size w).alloc (Nat.le_refl _) _).alloc (by simp) _⟩
/-- Beside: the sealed block as it grows, the sealer, the place's bytes. -/
structure PqW (w : World) (b r t pl d : List UInt8) (A : Option Addr) (C S X e : Nat) (W : World) : Prop where
  ps : PsW w b W
  x : At W X (sv e d n16).toArray 37
  ci : At W C (ubs r).toArray 219
  sl : At W S (slv C t).toArray 142
  rd : Rb W W.heap.size A pl
  far : w.heap.size + 2 ≤ X
section
variable {w W W' : World} {b r t pl d : List UInt8} {A : Option Addr} {C S X e : Nat}
theorem PqW.new (h : PqW w b r t pl d A C S X e W) (hb : Below W.heap.size W W') : PqW w b r t pl d A C S X e W' := ⟨h.ps.new hb, h.x.new_ hb, h.ci.new_ hb, h.sl.new_ hb, (h.rd.below hb).mono hb.size, h.far⟩
theorem PqW.drew (h : PqW w b r t pl d A C S X e W) : PqW w b r t pl d A C S X e W.drew := ⟨h.ps.drew, h.x, h.ci, h.sl, h.rd, h.far⟩
end
end Go.Proofs.YtfmbpdjcoopaeaaDoor
