/-
  The document's round keys.
-/
import Derived.Test.YtenlidbgllahhaaEe
import Derived.StillTailTactics
import Derived.BigQuiet
namespace Go.Proofs.Ytenlidbgllahhaa
open Go.RowKit

theorem infoB : (Try.prog.info? 5).map (fun i => (i.zero, i.size, i.bytes)) = some (some (.int .u8 0), 1, 1) := by kernel_rfl
/-- A slice of the call's own. -/
structure Own1 (w : World) (n : Nat) (bs : List UInt8) (v : Value) (w' : World) : Prop where
  len : n = bs.length
  own : w'.ownsRow w.heap.size 5 1 v n (ubs bs)
  below : Below w.heap.size w w'
theorem rb_one (w : World) (b : UInt8) : Rb (w.alloc (.cells #[.int .u8 (b.toNat : Int)] 5)) (w.heap.size + 1) (some ⟨w.heap.size, 0, none⟩) [b] :=
  Rd.of_at (At.new w #[.int .u8 (b.toNat : Int)] 5) 0 (fun j u hj => by
    rcases j with _ | j
    · simp [ubs, ub] at hj; subst hj; rfl
    · simp [ubs] at hj) (by omega)
theorem Own1.next {w w' w2 : World} {n : Nat} {bs : List UInt8} {b : UInt8} {v v2 : Value} {o : Obj} (h : Own1 w n bs v w') (h2 : w2.ownsRow w.heap.size 5 1 v2 (n + 1) (ubs bs ++ ubs [b])) (hg : (w'.alloc o).grownBy w2 v.ownBlock) : Own1 w (n + 1) (bs ++ [b]) v2 w2 :=
  ⟨by rw [List.length_append, h.len]; rfl, by rw [ubs_append]; exact h2, (h.below.alloc h.below.size o).grown hg (by have := h.below.size; simp; omega) (fun k hk => (World.ownsRow.lt h.own k hk).1)⟩
theorem Own1.more {w w' w2 : World} {bs cs : List UInt8} {v v2 : Value} {n m : Nat} (h : Own1 w m bs v w') (h2 : w2.ownsRow w.heap.size 5 1 v2 (m + n) (ubs bs ++ ubs cs)) (hn : n = cs.length) (hg : w'.grownBy w2 v.ownBlock) : Own1 w (m + n) (bs ++ cs) v2 w2 :=
  ⟨by rw [List.length_append, h.len, hn], by rw [ubs_append]; exact h2, h.below.grown hg h.below.size (fun k hk => (World.ownsRow.lt h.own k hk).1)⟩
theorem own_start (w : World) : Own1 w 0 [] (.slice (some ⟨w.heap.size, 0, none⟩) 0 0) (w.alloc (.cells #[] 5)) :=
  ⟨rfl, by have := World.ownsRow_made (base := w.heap.size) (e := 5) (size := 1) w #[] 0 (by omega) (by simp [maxLen]) rfl; simpa [ubs] using this, (Below.refl _ _).alloc (Nat.le_refl _) _⟩
/-- The bytes that word i is made with; word i; the round keys, n words of them made, and the factor. -/
def kt (ws : List UInt8) (i : Nat) (f : UInt8) : List UInt8 :=
  if i % 4 = 0 then [xr (sT (ws.getD (4 * i - 3) 0)) f, sT (ws.getD (4 * i - 2) 0), sT (ws.getD (4 * i - 1) 0), sT (ws.getD (4 * i - 4) 0)]
  else [ws.getD (4 * i - 4) 0, ws.getD (4 * i - 3) 0, ws.getD (4 * i - 2) 0, ws.getD (4 * i - 1) 0]
def kb (ws : List UInt8) (i : Nat) (f : UInt8) (j : Nat) : UInt8 := xr (ws.getD (4 * i - 16 + j) 0) ((kt ws i f).getD j 0)
def kw (ws : List UInt8) (i : Nat) (f : UInt8) (j : Nat) : List UInt8 := ws ++ (List.range j).map (kb ws i f)
def kf (i : Nat) (f : UInt8) : UInt8 := if i % 4 = 0 then dbl f else f
def ks (key : List UInt8) : Nat → List UInt8 × UInt8
  | 0 => (key, 1)
  | n + 1 => (kw (ks key n).1 (n + 4) (ks key n).2 4, kf (n + 4) (ks key n).2)
def keysL (key : List UInt8) : List UInt8 := (ks key 40).1
theorem ks_zero (key : List UInt8) : ks key 0 = (key, 1) := rfl
theorem ks_succ (key : List UInt8) (n : Nat) : ks key (n + 1) = (kw (ks key n).1 (n + 4) (ks key n).2 4, kf (n + 4) (ks key n).2) := rfl
theorem kw_zero (ws : List UInt8) (i : Nat) (f : UInt8) : kw ws i f 0 = ws := by simp [kw]
theorem kw_succ (ws : List UInt8) (i : Nat) (f : UInt8) (j : Nat) : kw ws i f (j + 1) = kw ws i f j ++ [kb ws i f j] := by simp [kw, List.range_succ]
theorem kw_length (ws : List UInt8) (i : Nat) (f : UInt8) (j : Nat) : (kw ws i f j).length = ws.length + j := by simp [kw]
theorem kw_get (ws : List UInt8) (i : Nat) (f : UInt8) (j k : Nat) (h : k < ws.length) : (kw ws i f j).getD k 0 = ws.getD k 0 := by
  unfold kw
  rw [List.getD_eq_getElem?_getD, List.getD_eq_getElem?_getD, List.getElem?_append_left h]
theorem kt_length (ws : List UInt8) (i : Nat) (f : UInt8) : (kt ws i f).length = 4 := by unfold kt; split <;> rfl
theorem kt_yes (ws : List UInt8) (i : Nat) (f : UInt8) (h : i % 4 = 0) : kt ws i f = [xr (sT (ws.getD (4 * i - 3) 0)) f, sT (ws.getD (4 * i - 2) 0), sT (ws.getD (4 * i - 1) 0), sT (ws.getD (4 * i - 4) 0)] := by rw [kt, if_pos h]
theorem kt_no (ws : List UInt8) (i : Nat) (f : UInt8) (h : ¬ i % 4 = 0) : kt ws i f = [ws.getD (4 * i - 4) 0, ws.getD (4 * i - 3) 0, ws.getD (4 * i - 2) 0, ws.getD (4 * i - 1) 0] := by rw [kt, if_neg h]
theorem ks_length (key : List UInt8) (h : key.length = 16) (n : Nat) : (ks key n).1.length = 16 + 4 * n := by
  induction n with
  | zero => exact h
  | succ n ih => rw [ks_succ, kw_length, ih]; omega
attribute [irreducible] ks kw kb kt
theorem own_grown {w w' : World} {base n : Nat} {e : TypeId} {v : Value} {xs : List Value} {row : Option Nat} (h : w.ownsRow base e 1 v n xs) (hg : w.grownBy w' row) (hne : ∀ g, v.ownBlock = some g → row ≠ some g) : w'.ownsRow base e 1 v n xs := by
  refine ⟨h.1, ?_⟩
  rcases h.2 with h2 | ⟨g, cap, cur, rfl, hb, hh, r⟩
  · exact .inl h2
  · exact .inr ⟨g, cap, cur, rfl, hb, (hg.block g (lt_of_block hh) (fun e' => hne g rfl e'.symm)).trans hh, r⟩
theorem rb_at {w : World} {g : Nat} {bs : List UInt8} {t : TypeId} (h : At w g (ubs bs).toArray t) : Rb w w.heap.size (some ⟨g, 0, none⟩) bs :=
  Rd.of_at h 0 (fun j u hj => by rw [Nat.zero_add, List.getElem?_toArray]; exact hj) h.lt
theorem lit4 (w : World) (a b c d : UInt8) : At (w.alloc (.cells #[.int .u8 (a.toNat : Int), .int .u8 (b.toNat : Int), .int .u8 (c.toNat : Int), .int .u8 (d.toNat : Int)] 5)) w.heap.size (ubs [a, b, c, d]).toArray 5 := At.new w _ _
/-- While a word is made: the keys so far, the bytes that it is made with. -/
structure KyW (w : World) (m : Nat) (ws : List UInt8) (v : Value) (ts : List UInt8) (T : Nat) (W : World) : Prop where
  o : Own1 w m ws v W
  t : At W T (ubs ts).toArray 5
  ne : v.ownBlock ≠ some T
theorem KyW.start {w W W2 : World} {m : Nat} {ws ts : List UInt8} {v : Value} (h : Own1 w m ws v W) (hb : Below W.heap.size W W2) (T : Nat) (hT : W.heap.size ≤ T) (ht : At W2 T (ubs ts).toArray 5) : KyW w m ws v ts T W2 :=
  ⟨⟨h.len, own_fr h.own (Fr.of_new (S := fun _ => False) hb) (fun _ _ h => h), h.below.trans (hb.mono h.below.size)⟩, ht, fun e => by have := (World.ownsRow.lt h.own T e).2; omega⟩
theorem KyW.next {w W W2 : World} {m : Nat} {ws ts : List UInt8} {v v2 : Value} {T : Nat} {b : UInt8} {o : Obj} (h : KyW w m ws v ts T W) (h2 : W2.ownsRow w.heap.size 5 1 v2 (m + 1) (ubs ws ++ ubs [b])) (hg : (W.alloc o).grownBy W2 v.ownBlock)
    (hb : v2.ownBlock = v.ownBlock ∨ v2.ownBlock = some (W.alloc o).heap.size) : KyW w (m + 1) (ws ++ [b]) v2 ts T W2 :=
  ⟨h.o.next h2 hg, (hg.block T (by have := h.t.lt; simp; omega) (fun e => h.ne e.symm)).trans (h.t.alloc o), fun e => by
    rcases hb with hb | hb
    · exact h.ne (hb ▸ e)
    · rw [hb] at e
      have := h.t.lt
      simp at e
      omega⟩
theorem KyW.drew {w W : World} {m : Nat} {ws ts : List UInt8} {v : Value} {T : Nat} (h : KyW w m ws v ts T W) (n : Nat) : KyW w m ws v ts T (W.drewN n) := ⟨⟨h.o.len, h.o.own, below_drewN h.o.below n⟩, h.t, h.ne⟩
end Go.Proofs.Ytenlidbgllahhaa
