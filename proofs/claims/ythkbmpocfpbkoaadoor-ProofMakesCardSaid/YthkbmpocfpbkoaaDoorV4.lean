/-
  The program's layer 6: labels' tags, sessions' keys.
  The program's sets of keys: as values, in memory; a session's key.
  The program's Of; a set's Session.
  The program's layer 7: a sealer in memory; New, and none's sealer.
  The program's layer 7: what is in range; a writer of the call's own; a place's bytes.
  The program's layer 7: a writer of the call's own; a place's bytes.
  The document's layer 7: Seal, Open.
  The program's layer 7: a block turned.
  Comparing bytes without haste.
  The short tag, and checking a tag.
  The program's layer 7: Seal.
-/
import Derived.Test.YthkbmpocfpbkoaaDoorV1
import Derived.Test.YthkbmpocfpbkoaaDoorY9
import Derived.Test.YthkbmpocfpbkoaaDoorY1
import Derived.Test.YthkbmpocfpbkoaaDoorX0
import Derived.Laws.Tables
import Derived.Test.YthkbmpocfpbkoaaDoorV3
import Derived.Test.YthkbmpocfpbkoaaDoorV0
import Derived.Test.YthkbmpocfpbkoaaDoorDc
namespace Go.Proofs.YthkbmpocfpbkoaaDoor
open Go.RowKit

/-- A new writer. -/
theorem wi_new (w : World) : WI (w.alloc (.cells #[.nilIface, .slice none 0 0] 168)) w.heap.size w.heap.size 0 (.slice none 0 0) [] :=
  ⟨At.new _ _ _, ⟨rfl, .inl ⟨rfl, rfl⟩⟩, Nat.le_refl _⟩
/-- A number's bytes, by a writer of its own. -/
theorem new_num (n : Nat) (w : World) (hn : n < 18446744073709551616) :
    Calls Tryd.prog 92 #[.pointer (some ⟨w.heap.size, 0, none⟩), .int .u64 (n : Int), .int .i64 8] (w.alloc (.cells #[.nilIface, .slice none 0 0] 168)) fun e w' => e = .returned (.pointer (some ⟨w.heap.size, 0, none⟩)) ∧ (∃ v, WI w' w.heap.size w.heap.size 0 v (toBE 8 n)) ∧ Below w.heap.size w w' := by
  have := num_fit w.heap.size w.heap.size 0 (.slice none 0 0) [] n 8 (Or.inr (Or.inr (Or.inr rfl))) (by omega) (w.alloc (.cells #[.nilIface, .slice none 0 0] 168)) (wi_new w) (by simp) (by simp)
  refine this.mono ?_
  rintro e w' ⟨x, rfl, rfl, v', h1, h2, -⟩
  rw [show wput 0 [] (be n 8) = toBE 8 n by rw [wput, if_pos rfl, List.nil_append]; unfold be toBE; rfl] at h1
  refine ⟨rfl, ⟨v', h1⟩, ?_⟩
  have h3 : Fr (Wt w.heap.size (.slice none 0 0)) w (w.alloc (.cells #[.nilIface, .slice none 0 0] 168)) := (Fr.refl _ _).alloc _
  exact (h3.trans h2).below (fun k hk => by
    rcases hk with rfl | hk
    · exact Nat.le_refl _
    · cases hk) (Nat.le_refl _)
theorem num_done (n : Nat) (b : Nat) (v : Value) (w : World) (hv : WI w b b 0 v (toBE 8 n)) :
    Calls Tryd.prog 94 #[.pointer (some ⟨b, 0, none⟩)] w fun e w' => ∃ A c, e = .returned (.tuple #[.slice A 8 c, .nilIface]) ∧ Rb w' w'.heap.size A (toBE 8 n) ∧ Below w.heap.size w w' := by
  refine (done_good b b v (toBE 8 n) w hv (by rw [toBE_length]; omega)).mono ?_
  rintro e w' ⟨x, rfl, ho, hb⟩
  obtain ⟨A, c, rfl, -⟩ := own_form ho
  refine ⟨A, c, ?_, Rd.of_own ho, hb⟩
  rw [toBE_length, errV_zero]
theorem SsW.begin (w : World) (l : List UInt8) : SsW w l ((w.alloc (.cells (ubs l).toArray 35)).alloc (.cells (ubs n32).toArray 35)) :=
  ⟨(At.new _ _ _).alloc _, At.new_at (by simp), ((Below.refl w.heap.size w).alloc (Nat.le_refl _) _).alloc (by simp) _⟩
end Go.Proofs.YthkbmpocfpbkoaaDoor

namespace Go.Proofs.YthkbmpocfpbkoaaDoor
open Go.RowKit

/-- A set of keys: its bytes. -/
def setL (key : List UInt8) : List UInt8 := keyEnc key ++ (keyTag key ++ (keyTicket key ++ keyLink key))
theorem setL_length (key : List UInt8) : (setL key).length = 112 := by simp [setL, keyEnc_length, keyTag_length, keyTicket_length, keyLink_length]
def n112 : List UInt8 := List.replicate 112 0
theorem n112_length : n112.length = 112 := by simp [n112]
theorem fill_one (l : List UInt8) (o : Nat) (vs : List UInt8) : (((ubs vs).toArray.zipIdx.foldl (fun cs (c, j) => cs.setIfInBounds (o + j) c) (ubs l).toArray) : Array Value) = (ubs (spl l o vs)).toArray := by
  have key : ∀ (vs : List UInt8) (k : Nat) (l : List UInt8), (((ubs vs).zipIdx k).foldl (fun (cs : Array Value) (c : Value × Nat) => cs.setIfInBounds (o + c.2) c.1) (ubs l).toArray) = (ubs (spl l (o + k) vs)).toArray := by
    intro vs
    induction vs with
    | nil => intro k l; rfl
    | cons v r ih =>
      intro k l
      have := ih (k + 1) (l.set (o + k) v)
      rw [show ubs (v :: r) = ub v :: ubs r from rfl, List.zipIdx_cons, List.foldl_cons, spl]
      rw [show o + (k + 1) = o + k + 1 by omega] at this
      rw [← this]
      congr 1
      simp [ubs, List.map_set]
  have := key vs 0 l
  rw [Nat.add_zero] at this
  rw [← this, ← Array.foldl_toList, Array.toList_zipIdx]
end Go.Proofs.YthkbmpocfpbkoaaDoor

namespace Go.Proofs.YthkbmpocfpbkoaaDoor
open Go.RowKit

theorem set_link {W : World} {g : Nat} {key : List UInt8} {t : TypeId} (h : At W g (ubs (setL key)).toArray t) : W.rangeAt g 80 (ubs (keyLink key)) := by
  have := range_at (a := keyEnc key ++ (keyTag key ++ keyTicket key)) (m := keyLink key) (z := []) h (by simp [setL, List.append_assoc])
  rw [List.length_append, List.length_append, keyEnc_length, keyTag_length, keyTicket_length] at this
  exact this
theorem set_enc {W : World} {g : Nat} {key : List UInt8} {t : TypeId} (h : At W g (ubs (setL key)).toArray t) : W.rangeAt g 0 (ubs (keyEnc key)) := by
  have := range_at (a := []) (m := keyEnc key) (z := keyTag key ++ (keyTicket key ++ keyLink key)) h (by rw [List.nil_append, setL])
  rw [List.length_nil] at this
  exact this
theorem set_tag {W : World} {g : Nat} {key : List UInt8} {t : TypeId} (h : At W g (ubs (setL key)).toArray t) : W.rangeAt g 16 (ubs (keyTag key)) := by
  have := range_at (a := keyEnc key) (m := keyTag key) (z := keyTicket key ++ keyLink key) h (by rw [setL])
  rw [keyEnc_length] at this
  exact this
theorem set_ticket {W : World} {g : Nat} {key : List UInt8} {t : TypeId} (h : At W g (ubs (setL key)).toArray t) : W.rangeAt g 48 (ubs (keyTicket key)) := by
  have := range_at (a := keyEnc key ++ keyTag key) (m := keyTicket key) (z := keyLink key) h (by simp [setL, List.append_assoc])
  rw [List.length_append, keyEnc_length, keyTag_length] at this
  exact this
/-- What Of's last region yields. -/
def ofF (key t u l e s : List UInt8) (D : Nat) : Nat → Value
  | 0 => .slice (some ⟨D, 0, none⟩) 16 32
  | 1 => .pointer (some ⟨D, 0, none⟩)
  | 2 => .agg (ubs e).toArray
  | 3 => .agg (ubs key).toArray
  | 4 => .agg (ubs t).toArray
  | 5 => .agg (ubs key).toArray
  | 6 => .agg (ubs u).toArray
  | 7 => .agg (ubs key).toArray
  | 8 => .agg (ubs l).toArray
  | _ => .agg (ubs s).toArray
end Go.Proofs.YthkbmpocfpbkoaaDoor

namespace Go.Proofs.YthkbmpocfpbkoaaDoor
open Go.RowKit

/-- A sealer's cells; a sealer for a key. -/
def slv (C : Nat) (t : List UInt8) : List Value := .pointer (some ⟨C, 0, none⟩) :: ubs t
theorem slv_length (C : Nat) (t : List UInt8) (ht : t.length = 32) : (slv C t).length = 33 := by simp [slv, ubs_length, ht]
theorem run_box_of {o : Oper} {a : Go.Act} {W : World} (t : TypeId) (x : Operand) (ho : o.op = .box t x) (cs : Array Value) (hx : a.eval x = .agg cs) :
    (execOp a.eval o).run Tryd.prog W = .ok (.value (.pointer (some ⟨W.heap.size, 0, none⟩))) (W.alloc (.cells cs t)) := by
  unfold execOp
  simp only [ho, Sem.run_bind, Instr.box, newVar, newRow, run_newObj_alloc, Sem.run_pure, Result.andThen_ok, hx, Value.cells]
end Go.Proofs.YthkbmpocfpbkoaaDoor

namespace Go.Proofs.YthkbmpocfpbkoaaDoor
open Go.RowKit

end Go.Proofs.YthkbmpocfpbkoaaDoor

namespace Go.Proofs.YthkbmpocfpbkoaaDoor
open Go.RowKit

/-- A writer that lies where the world w ends, and the bytes that it has; nothing else has turned. -/
def WN (w : World) (bs : List UInt8) (W : World) : Prop := (∃ v, WI W w.heap.size w.heap.size 0 v bs) ∧ Below w.heap.size w W
theorem WN.begin (w : World) : WN w [] (w.alloc (.cells #[.nilIface, .slice none 0 0] 168)) :=
  ⟨⟨.slice none 0 0, At.new _ _ _, ⟨rfl, .inl ⟨rfl, rfl⟩⟩, Nat.le_refl _⟩, (Below.refl _ _).alloc (Nat.le_refl _) _⟩
theorem WN.new {w W W' : World} {bs : List UInt8} (h : WN w bs W) (hb : Below W.heap.size W W') : WN w bs W' := by
  obtain ⟨⟨v, h1⟩, h2⟩ := h
  exact ⟨⟨v, h1.keep (Fr.of_new (S := fun _ => False) hb) (fun _ _ => id)⟩, h2.trans (hb.mono h2.size)⟩
theorem WN.drew {w W : World} {bs : List UInt8} (h : WN w bs W) : WN w bs W.drew := by
  obtain ⟨⟨v, h1⟩, h2⟩ := h
  exact ⟨⟨v, h1.at_, h1.own, h1.low⟩, h2.drew⟩
theorem WN.out {w W W' : World} {bs bs' : List UInt8} {v x : Value} (h : WI W w.heap.size w.heap.size 0 v bs) (hb : Below w.heap.size w W) (ho : WOut w.heap.size w.heap.size 0 bs' v W x W') : x = .pointer (some ⟨w.heap.size, 0, none⟩) ∧ WN w bs' W' := by
  obtain ⟨rfl, v', h1, h2, -⟩ := ho
  refine ⟨rfl, ⟨v', h1⟩, ?_⟩
  have h3 : Fr (fun k => w.heap.size ≤ k) w W := Fr.of_below hb (fun _ _ h => h)
  refine (h3.next h2 (fun g hg hw => ?_)).below (fun _ h => h) (Nat.le_refl _)
  rcases hw with rfl | hw
  · exact Nat.le_refl _
  · obtain ⟨A, c, rfl, -, -, -, ho, ha⟩ := own_form h.own
    rcases A with _ | a
    · rw [ho] at hw; cases hw
    · rw [ho] at hw
      obtain rfl : a.block = g := by simpa using hw
      exact (ha a rfl).2.2.1
theorem be_toBE (n s : Nat) : be n s = toBE s n := by unfold be toBE; rfl
theorem wn_num {w W : World} {bs : List UInt8} (h : WN w bs W) (n s : Nat) (hs : Sz s) (hn : n < 256 ^ s) (hl : bs.length ≤ 900000000) :
    Calls Tryd.prog 92 #[.pointer (some ⟨w.heap.size, 0, none⟩), .int .u64 (n : Int), .int .i64 (s : Int)] W fun e w' => e = .returned (.pointer (some ⟨w.heap.size, 0, none⟩)) ∧ WN w (bs ++ toBE s n) w' := by
  obtain ⟨⟨v, h1⟩, h2⟩ := h
  refine (num_fit w.heap.size w.heap.size 0 v bs n s hs hn W h1 h2.size hl).mono ?_
  rintro e w' ⟨x, rfl, ho⟩
  obtain ⟨rfl, h3⟩ := WN.out h1 h2 ho
  rw [wput, if_pos rfl, be_toBE] at h3
  exact ⟨rfl, h3⟩
theorem wn_raw {w W : World} {bs xs : List UInt8} {A : Option Addr} (c : Nat) (h : WN w bs W) (hx : Rb W W.heap.size A xs) (hl : bs.length + xs.length ≤ 1000000000) :
    Calls Tryd.prog 109 #[.pointer (some ⟨w.heap.size, 0, none⟩), .slice A xs.length c] W fun e w' => e = .returned (.pointer (some ⟨w.heap.size, 0, none⟩)) ∧ WN w (bs ++ xs) w' := by
  obtain ⟨⟨v, h1⟩, h2⟩ := h
  refine (raw_any w.heap.size w.heap.size 0 v bs xs A c W h1 hx h2.size hl).mono ?_
  rintro e w' ⟨x, rfl, ho⟩
  obtain ⟨rfl, h3⟩ := WN.out h1 h2 ho
  rw [wput, if_pos rfl] at h3
  exact ⟨rfl, h3⟩
theorem wn_done {w W : World} {bs : List UInt8} (h : WN w bs W) (hl : bs.length ≤ 1000000000) :
    Calls Tryd.prog 94 #[.pointer (some ⟨w.heap.size, 0, none⟩)] W fun e w' => ∃ A c, e = .returned (.tuple #[.slice A bs.length c, .nilIface]) ∧ Ow w' w.heap.size (.slice A bs.length c) bs ∧ Rb w' w'.heap.size A bs ∧ Below w.heap.size w w' := by
  obtain ⟨⟨v, h1⟩, h2⟩ := h
  refine (done_good w.heap.size w.heap.size v bs W h1 hl).mono ?_
  rintro e w' ⟨x, rfl, ho, hb⟩
  obtain ⟨A, c, rfl, -⟩ := own_form ho
  refine ⟨A, c, by rw [errV_zero], own_mono ho (fun k hk => ?_), Rd.of_own ho, h2.trans (hb.mono h2.size)⟩
  obtain ⟨A', c', e, -, -, -, ho', ha⟩ := own_form ho
  rw [ho'] at hk
  rcases A' with _ | a
  · cases hk
  · obtain rfl : a.block = k := by simpa using hk
    exact Nat.le_trans h2.size (ha a rfl).2.2.1
end Go.Proofs.YthkbmpocfpbkoaaDoor

namespace Go.Proofs.YthkbmpocfpbkoaaDoor
open Go.RowKit

theorem at_alloc1 {w : World} {o o' : Obj} {cs : Array Value} {t : TypeId} {n : Nat} (ho : o' = .cells cs t) (hn : n = w.heap.size + 1) : At ((w.alloc o).alloc o') n cs t := by
  subst ho hn
  exact At.new_at (by simp)
/-- What Seal answers. -/
def sealL (key : List UInt8) (i e : Nat) (b : List UInt8) : List Value := if rightB i e then sv e (turnedL key i e b) (tagL key i e (turnedL key i e b)) else sv 0 n32 n16
theorem sealL_right (key : List UInt8) (i e : Nat) (b : List UInt8) (h : rightB i e = true) : sealL key i e b = sv e (turnedL key i e b) (tagL key i e (turnedL key i e b)) := by rw [sealL, h]; rfl
theorem sealL_wrong (key : List UInt8) (i e : Nat) (b : List UInt8) (h : rightB i e = false) : sealL key i e b = sv 0 n32 n16 := by rw [sealL, h]; rfl
end Go.Proofs.YthkbmpocfpbkoaaDoor

namespace Go.Proofs.YthkbmpocfpbkoaaDoor
open Go.RowKit

section
variable {w W W' : World} {b c r t : List UInt8} {C S : Nat}
end
/-- What turned's last region yields. -/
def pvF (w : World) (c u : List UInt8) (C S : Nat) (i : Nat) (v : Value) (W : World) : Prop :=
  match i with
  | 0 => v = .pointer (some ⟨S, 0, none⟩)
  | 1 => v = .pointer (some ⟨S, 0, none⟩)
  | 2 => v = .pointer (some ⟨S, 0, none⟩)
  | 3 => v = .pointer (some ⟨C, 0, none⟩)
  | 4 => v = .agg (ubs c).toArray
  | 5 => v = .slice (some ⟨w.heap.size, 0, none⟩) 32 32
  | 6 => ∃ g, v = .slice (some ⟨g, 0, none⟩) 32 32 ∧ At W g (ubs u).toArray 5
  | 7 => ∃ g, v = .pointer (some ⟨g, 0, none⟩) ∧ At W g (ubs u).toArray 5
  | _ => v = .agg (ubs u).toArray
theorem ptF_new {w : World} {c u : List UInt8} {C S i : Nat} {v : Value} {W W' : World} (h : pvF w c u C S i v W) (hb : Below W.heap.size W W') : pvF w c u C S i v W' := by
  rcases i with _ | _ | _ | _ | _ | _ | _ | _ | i
  iterate 6 exact h
  · obtain ⟨C, h1, h2⟩ := h; exact ⟨C, h1, h2.new_ hb⟩
  · obtain ⟨C, h1, h2⟩ := h; exact ⟨C, h1, h2.new_ hb⟩
  · exact h
end Go.Proofs.YthkbmpocfpbkoaaDoor

namespace Go.Proofs.YthkbmpocfpbkoaaDoor
open Go.RowKit

theorem nxor_zero (a b : Nat) : a ^^^ b = 0 ↔ a = b :=
  ⟨fun h => by
    have := congrArg (· ^^^ b) h
    simpa [Nat.xor_assoc, Nat.xor_self] using this, fun h => by rw [h, Nat.xor_self]⟩
/-- What differs ahead of place k, the lengths first. -/
def difk (a b : List UInt8) : Nat → Nat
  | 0 => a.length ^^^ b.length
  | k + 1 => difk a b k ||| (a.getD k 0 ^^^ b.getD k 0).toNat
theorem difk_zero (a b : List UInt8) : difk a b 0 = a.length ^^^ b.length := rfl
theorem difk_succ (a b : List UInt8) (k : Nat) : difk a b (k + 1) = difk a b k ||| (a.getD k 0 ^^^ b.getD k 0).toNat := rfl
theorem difk_iff (a b : List UInt8) (k : Nat) : difk a b k = 0 ↔ a.length = b.length ∧ ∀ j, j < k → a.getD j 0 = b.getD j 0 := by
  induction k with
  | zero => rw [difk_zero, nxor_zero]; simp
  | succ k ih =>
    rw [difk_succ, Nat.or_eq_zero_iff, ih]
    have hx : (a.getD k 0 ^^^ b.getD k 0).toNat = 0 ↔ a.getD k 0 = b.getD k 0 := by
      rw [UInt8.toNat_xor, nxor_zero]
      exact UInt8.toNat_inj
    rw [hx]
    constructor
    · rintro ⟨⟨h1, h2⟩, h3⟩
      refine ⟨h1, fun j hj => ?_⟩
      rcases Nat.lt_or_ge j k with h | h
      · exact h2 j h
      · obtain rfl : j = k := by omega
        exact h3
    · rintro ⟨h1, h2⟩
      exact ⟨⟨h1, fun j hj => h2 j (by omega)⟩, h2 k (by omega)⟩
theorem difk_end (a b : List UInt8) (k : Nat) (h : k = max a.length b.length) : ((difk a b k : Int) == 0) = (a == b) := by
  rw [Bool.eq_iff_iff, beq_iff_eq, beq_iff_eq]
  have h1 : ((difk a b k : Int) = 0) ↔ difk a b k = 0 := by omega
  rw [h1, difk_iff]
  constructor
  · rintro ⟨h2, h3⟩
    refine List.ext_getElem h2 fun i hi hi2 => ?_
    have := h3 i (by omega)
    simpa [hi, hi2] using this
  · rintro rfl
    exact ⟨rfl, fun _ _ => rfl⟩
attribute [irreducible] difk
end Go.Proofs.YthkbmpocfpbkoaaDoor

namespace Go.Proofs.YthkbmpocfpbkoaaDoor
open Go.RowKit

/-- What a call with a key and parts is handed. -/
structure Handed (k : List UInt8) (K : Option Addr) (ps : List Part) (S : Option Addr) (w : World) : Prop where
  rk : Rb w w.heap.size K k
  rs : Rd w w.heap.size S (ps.map Part.v)
  rp : ∀ p ∈ ps, Rb w w.heap.size p.A p.bs
  lk : k.length ≤ 1000000000
  lj : (joined ps).length ≤ 900000000
  lp : ps.length ≤ 900000000
  tb : Tabs w
theorem Handed.below {k : List UInt8} {K : Option Addr} {ps : List Part} {S : Option Addr} {w w' : World} (h : Handed k K ps S w) (hb : Below w.heap.size w w') : Handed k K ps S w' :=
  ⟨(h.rk.below hb).mono hb.size, (h.rs.below hb).mono hb.size, fun p hp => ((h.rp p hp).below hb).mono hb.size, h.lk, h.lj, h.lp, h.tb.below hb⟩
theorem short_splice (m : List UInt8) (h : m.length = 32) : splice (ubs n16) 0 ((ubs m).take 16) = ubs (m.take 16) := by
  simp only [splice, List.take_zero, List.nil_append, Nat.zero_add, ubs_drop, ubs_take, ← ubs_append, ubs_length, List.length_take, n16, List.drop_replicate, h]
  simp
/-- Which tags are one: the whole one, the short one. -/
def isTag (m t : List UInt8) : Bool := t == m || t == m.take 16
theorem isTag_short (m t : List UInt8) (hm : m.length = 32) (h : t.length = 16) : (t == m.take 16) = isTag m t := by
  have : (t == m) = false := by
    rw [beq_eq_false_iff_ne]
    rintro rfl
    omega
  rw [isTag, this, Bool.false_or]
theorem isTag_whole (m t : List UInt8) (hm : m.length = 32) (h : t.length = 32) : (t == m.take 32) = isTag m t := by
  have : (t == m.take 16) = false := by
    rw [beq_eq_false_iff_ne]
    intro e
    have := congrArg List.length e
    rw [List.length_take] at this
    omega
  rw [isTag, this, Bool.or_false, List.take_of_length_le (by omega)]
theorem isTag_other (m t : List UInt8) (hm : m.length = 32) (h : t.length ≠ 16) (h2 : t.length ≠ 32) : isTag m t = false := by
  rw [isTag, Bool.or_eq_false_iff, beq_eq_false_iff_ne, beq_eq_false_iff_ne]
  constructor
  · rintro rfl
    omega
  · intro e
    have := congrArg List.length e
    rw [List.length_take] at this
    omega
attribute [irreducible] isTag
end Go.Proofs.YthkbmpocfpbkoaaDoor

namespace Go.Proofs.YthkbmpocfpbkoaaDoor
open Go.RowKit

theorem rd_row {w : World} {g : Nat} {t : TypeId} {l : List Value} (h : At w g l.toArray t) : Rd w w.heap.size (some ⟨g, 0, none⟩) l := fun _ => ⟨g, 0, rfl, h.lt, fun j u hu => by
  rw [Nat.zero_add, h.cell, List.getElem?_toArray]
  exact hu⟩
theorem splice_sv (e : Nat) (d t : List UInt8) (hd : d.length = 32) (ht : t.length = 16) : splice (sv e d n16) 33 ((ubs t).take 16) = sv e d t := by
  rw [List.take_of_length_le (by rw [ubs_length, ht]; omega)]
  unfold splice
  rw [List.drop_eq_nil_of_le (by rw [sv_length e d n16 hd n16_length, ubs_length, ht]; omega), List.append_nil]
  have : (sv e d n16).take 33 = .int .u64 (e : Int) :: ubs d := by
    unfold sv
    rw [List.take_succ_cons, List.take_left' (by rw [ubs_length, hd])]
  rw [this]
  rfl
theorem splice_svd (e : Nat) (d t : List UInt8) (hd : d.length = 32) : splice (sv e n32 t) 1 ((ubs d).take 32) = sv e d t := by
  rw [List.take_of_length_le (by rw [ubs_length, hd]; omega)]
  unfold splice sv
  rw [List.take_succ_cons, List.take_zero, ubs_length, hd, Nat.add_comm, List.drop_succ_cons, List.drop_left' (by rw [ubs_length, n32_length])]
  rfl
theorem rightB_le7 {i e : Nat} (h : rightB i e = true) : i ≤ 4294967295 := by
  simp [rightB] at h
  exact h.1.1
section
variable {w W W' : World} {b r t pl d : List UInt8} {A : Option Addr} {C S X e : Nat}
end
theorem part2 (A B : Option Addr) (x y : List UInt8) (c1 c2 n m : Nat) (hx : x.length = n) (hy : y.length = m) : ([(⟨A, x, c1⟩ : Part), ⟨B, y, c2⟩]).map Part.v = [.slice A n c1, .slice B m c2] := by
  subst hx hy
  rfl
/-- What Seal's last region yields. -/
def sgF (tg : List UInt8) (A : Option Addr) (cc S X : Nat) (i : Nat) (v : Value) (W : World) : Prop :=
  match i with
  | 0 => v = .pointer (some ⟨X, 33, none⟩)
  | 1 => v = .slice (some ⟨X, 33, none⟩) 16 16
  | 2 => v = .pointer (some ⟨S, 0, none⟩)
  | 3 => v = .pointer (some ⟨S, 0, none⟩)
  | 4 => v = .pointer (some ⟨S, 1, none⟩)
  | 5 => v = .slice (some ⟨S, 1, none⟩) 32 32
  | 6 => v = .slice A 12 cc
  | 7 => v = .pointer (some ⟨X, 1, none⟩)
  | 8 => v = .slice (some ⟨X, 1, none⟩) 32 32
  | 9 => ∃ g, v = .slice (some ⟨g, 0, none⟩) 2 2 ∧ At W g #[.slice A 12 cc, .slice (some ⟨X, 1, none⟩) 32 32] 89
  | _ => ∃ g, v = .slice (some ⟨g, 0, none⟩) 16 16 ∧ At W g (ubs tg).toArray 5
theorem sgF_new {tg : List UInt8} {A : Option Addr} {cc S X i : Nat} {v : Value} {W W' : World} (h : sgF tg A cc S X i v W) (hb : Below W.heap.size W W') : sgF tg A cc S X i v W' := by
  rcases i with _ | _ | _ | _ | _ | _ | _ | _ | _ | _ | i
  iterate 9 exact h
  · obtain ⟨C, h1, h2⟩ := h; exact ⟨C, h1, h2.new_ hb⟩
  · obtain ⟨C, h1, h2⟩ := h; exact ⟨C, h1, h2.new_ hb⟩
end Go.Proofs.YthkbmpocfpbkoaaDoor
