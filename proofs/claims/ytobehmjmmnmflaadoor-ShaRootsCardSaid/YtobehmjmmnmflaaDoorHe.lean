/-
  The short tag, and checking a tag.
-/
import Derived.Test.YtobehmjmmnmflaaDoorHd
namespace Go.Proofs.YtobehmjmmnmflaaDoor
open Go.RowKit

/-- What a call with a key and parts is handed. -/
structure Handed (k : List UInt8) (K : Option Addr) (ps : List Part) (S : Option Addr) (w : World) : Prop where
  rk : Rb w w.heap.size K k
  rs : Rd w w.heap.size S (ps.map Part.v)
  rp : ∀ p ∈ ps, Rb w w.heap.size p.A p.bs
  lk : k.length ≤ 1000000000
  lj : (joined ps).length ≤ 900000000
  lp : ps.length ≤ 900000000
  tb : Tabs w
theorem Handed.below {k : List UInt8} {K : Option Addr} {ps : List Part} {S : Option Addr} {w w' : World} (h : Handed k K ps S w) (hb : Below w.heap.size w w') : Handed k K ps S w' :=
  ⟨(h.rk.below hb).mono hb.size, (h.rs.below hb).mono hb.size, fun p hp => ((h.rp p hp).below hb).mono hb.size, h.lk, h.lj, h.lp, h.tb.below hb⟩
theorem Handed.mac {k : List UInt8} {K : Option Addr} {ps : List Part} {S : Option Addr} {w : World} (h : Handed k K ps S w) (ck cap : Nat) :
    Calls Tryd.prog 16 #[.slice K k.length ck, .slice S ps.length cap] w fun e w' => e = .returned (.agg (ubs (macL k (joined ps))).toArray) ∧ Below w.heap.size w w' :=
  mac_any k K ck ps S cap w h.rk h.rs h.rp h.lk h.lj h.lp h.tb
def n16 : List UInt8 := List.replicate 16 0
theorem n16_length : n16.length = 16 := by simp [n16]
theorem short_splice (m : List UInt8) (h : m.length = 32) : splice (ubs n16) 0 ((ubs m).take 16) = ubs (m.take 16) := by
  simp only [splice, List.take_zero, List.nil_append, Nat.zero_add, ubs_drop, ubs_take, ← ubs_append, ubs_length, List.length_take, n16, List.drop_replicate, h]
  simp
set_option maxRecDepth 100000 in
set_option maxHeartbeats 8000000 in
theorem short_any (k : List UInt8) (K : Option Addr) (ck : Nat) (ps : List Part) (S : Option Addr) (cap : Nat) (w : World) (hh : Handed k K ps S w) :
    Calls Tryd.prog 18 #[.slice K k.length ck, .slice S ps.length cap] w fun e w' => ∃ g, e = .returned (.slice (some ⟨g, 0, none⟩) 16 16) ∧ At w' g (ubs ((macL k (joined ps)).take 16)).toArray 5 ∧ w.heap.size ≤ g ∧ Below w.heap.size w w' := by
  have hm := hh.mac ck cap
  obtain ⟨m, hm0⟩ : ∃ m, m = macL k (joined ps) := ⟨_, rfl⟩
  have HML := hid (show m.length = 32 by rw [hm0, macL_length])
  rw [← hm0] at hm ⊢
  obtain ⟨n, hn⟩ : ∃ n, n = ps.length := ⟨_, rfl⟩
  obtain ⟨l, hl⟩ : ∃ l, l = k.length := ⟨_, rfl⟩
  rw [← hn, ← hl] at hm ⊢
  have HM := hid hm
  have HS := hid (show (Tryd.prog.info? 36).map (·.size) = some (ubs m).toArray.size by rw [sizeH]; simp [ubs_length, HML.out])
  have HP := hid (short_splice m HML.out)
  have hz32 := noughts32
  have hmk : ∀ w : World, (Instr.makeSlice 34 (.int .i64 16) (.int .i64 16)).run Tryd.prog w = .ok (.slice (some ⟨w.heap.size, 0, none⟩) 16 16) (w.alloc (.cells (ubs n16).toArray 5)) := fun w => run_makeB 16 (by omega) w
  have HF := hid (fun (w2 w1 : World) (h : Fr (fun k => k = w2.heap.size) (w2.alloc (.cells (ubs n16).toArray 5)) w1) => (((Fr.refl (fun _ => False) w2).alloc _).next h (fun k hk he => by omega)).below (B := w2.heap.size) (fun _ h => h.elim) (Nat.le_refl _))
  clear hm hm0 hn hl hh
  go_enter Tryd.func18, Tryd.ntmps18
  go_wp2_with (first
    | (go_at_call 16; refine HM.out.mono ?_; rintro e w1 ⟨rfl, hb1⟩)
    | (refine wpList_store_row rfl _ (.tmp 5) (.tmp 9) rfl w1.heap.size (ubs m).toArray rfl rfl 36 (ubs n32).toArray (heap_alloc_new _ _) HS.out ?e1 (ubs_all _) ?e2; rotate_right; (have b2 := hb1.trans ((stored_below w1 m).mono hb1.size)); have B2 := hid b2; have A2 := hid (stored_at w1 m); clear b2 hb1; generalize ((w1.alloc (.cells (ubs n32).toArray 36)).setRow w1.heap.size (ubs m).toArray) = W2 at B2 A2 ⊢)
    | (refine wpList_copy_rd rfl (.tmp 11) (.tmp 12) _ _ rfl 5 Tryd.underlying34 sizeU8 W2.heap.size 0 16 16 (W2.heap.size + 1) (some ⟨w1.heap.size, 0, none⟩) 32 32 rfl rfl (ubs n16) 5 (At.new _ _ _) (ubs m) (Rd.mono (B := W2.heap.size) (rb_at (A2.out)) (by omega) |>.alloc _) (by rw [ubs_length]; exact HML.out) (by rw [ubs_length, n16_length]; omega) (ubs_one _) ?_; intro w3 hA3 hF3; rw [HP.out] at hA3; have A3 := hid hA3; have B3 := hid (HF.out _ _ hF3); clear hA3 hF3))
  case e1 => simp [ubs_length, n32_length, HML.out]
  go_ret
  exact ⟨_, rfl, A3.out, B2.out.size, B2.out.trans (B3.out.mono B2.out.size)⟩
/-- Which tags are one: the whole one, the short one. -/
def isTag (m t : List UInt8) : Bool := t == m || t == m.take 16
theorem isTag_short (m t : List UInt8) (hm : m.length = 32) (h : t.length = 16) : (t == m.take 16) = isTag m t := by
  have : (t == m) = false := by
    rw [beq_eq_false_iff_ne]
    rintro rfl
    omega
  rw [isTag, this, Bool.false_or]
theorem isTag_whole (m t : List UInt8) (hm : m.length = 32) (h : t.length = 32) : (t == m.take 32) = isTag m t := by
  have : (t == m.take 16) = false := by
    rw [beq_eq_false_iff_ne]
    intro e
    have := congrArg List.length e
    rw [List.length_take] at this
    omega
  rw [isTag, this, Bool.or_false, List.take_of_length_le (by omega)]
theorem isTag_other (m t : List UInt8) (hm : m.length = 32) (h : t.length ≠ 16) (h2 : t.length ≠ 32) : isTag m t = false := by
  rw [isTag, Bool.or_eq_false_iff, beq_eq_false_iff_ne, beq_eq_false_iff_ne]
  constructor
  · rintro rfl
    omega
  · intro e
    have := congrArg List.length e
    rw [List.length_take] at this
    omega
attribute [irreducible] isTag
theorem check_any (t : List UInt8) (T : Option Addr) (ct : Nat) (k : List UInt8) (K : Option Addr) (ck : Nat) (ps : List Part) (S : Option Addr) (cap : Nat) (w : World) (ht : Rb w w.heap.size T t) (lt : t.length ≤ 140737488355328) (hh : Handed k K ps S w) :
    Calls Tryd.prog 20 #[.slice T t.length ct, .slice K k.length ck, .slice S ps.length cap] w fun e w' => e = .returned (.bool (isTag (macL k (joined ps)) t)) ∧ Below w.heap.size w w' := by
  have hm := hh.mac ck cap
  obtain ⟨m, hm0⟩ : ∃ m, m = macL k (joined ps) := ⟨_, rfl⟩
  have HML := hid (show m.length = 32 by rw [hm0, macL_length])
  rw [← hm0] at hm ⊢
  obtain ⟨n, hn⟩ : ∃ n, n = ps.length := ⟨_, rfl⟩
  obtain ⟨l, hl⟩ : ∃ l, l = k.length := ⟨_, rfl⟩
  obtain ⟨x, hx⟩ : ∃ x, x = t.length := ⟨_, rfl⟩
  have HX := hid hx
  rw [← hn, ← hl] at hm ⊢
  rw [← hx] at lt ⊢
  have HM := hid hm
  have HS := hid (show (Tryd.prog.info? 36).map (·.size) = some (ubs m).toArray.size by rw [sizeH]; simp [ubs_length, HML.out])
  have HT := hid ht
  have hz32 := noughts32
  clear hm hm0 hn hl hh hx ht
  by_cases h16 : x = 16
  · subst h16
    have HR := hid (isTag_short m t HML.out HX.out.symm)
    go_enter Tryd.func20, Tryd.ntmps20
    go_wp2_with (first
      | (go_at_call 16; refine HM.out.mono ?_; rintro e w1 ⟨rfl, hb1⟩)
      | (refine wpList_store_row rfl _ (.tmp 7) (.tmp 10) rfl w1.heap.size (ubs m).toArray rfl rfl 36 (ubs n32).toArray (heap_alloc_new _ _) HS.out ?e16 (ubs_all _) ?f16; rotate_right; (have b2 := hb1.trans ((stored_below w1 m).mono hb1.size)); have B2 := hid b2; have A2 := hid (stored_rb w1 m); clear b2 hb1; generalize ((w1.alloc (.cells (ubs n32).toArray 36)).setRow w1.heap.size (ubs m).toArray) = W2 at B2 A2 ⊢)
      | (go_at_call 21; (have cq := same_any t (m.take 16) T (some ⟨w1.heap.size, 0, none⟩) ct 32 W2 ((HT.out.below B2.out).mono B2.out.size) (rb_take A2.out 16) (by have := HX.out; omega) (by rw [List.length_take]; omega)); rw [← HX.out, List.length_take, HML.out, HR.out] at cq; refine cq.mono ?_; rintro e w3 ⟨rfl, rfl⟩))
    case e16 => simp [ubs_length, n32_length, HML.out]
    go_ret
    exact ⟨rfl, B2.out⟩
  by_cases h32 : x = 32
  · subst h32
    have HR := hid (isTag_whole m t HML.out HX.out.symm)
    go_enter Tryd.func20, Tryd.ntmps20
    go_wp2_with (first
      | (go_at_call 16; refine HM.out.mono ?_; rintro e w1 ⟨rfl, hb1⟩)
      | (refine wpList_store_row rfl _ (.tmp 7) (.tmp 10) rfl w1.heap.size (ubs m).toArray rfl rfl 36 (ubs n32).toArray (heap_alloc_new _ _) HS.out ?e32 (ubs_all _) ?f32; rotate_right; (have b2 := hb1.trans ((stored_below w1 m).mono hb1.size)); have B2 := hid b2; have A2 := hid (stored_rb w1 m); clear b2 hb1; generalize ((w1.alloc (.cells (ubs n32).toArray 36)).setRow w1.heap.size (ubs m).toArray) = W2 at B2 A2 ⊢)
      | (go_at_call 21; (have cq := same_any t (m.take 32) T (some ⟨w1.heap.size, 0, none⟩) ct 32 W2 ((HT.out.below B2.out).mono B2.out.size) (rb_take A2.out 32) (by have := HX.out; omega) (by rw [List.length_take]; omega)); rw [← HX.out, List.length_take, HML.out, HR.out] at cq; refine cq.mono ?_; rintro e w3 ⟨rfl, rfl⟩))
    case e32 => simp [ubs_length, n32_length, HML.out]
    go_ret
    exact ⟨rfl, B2.out⟩
  · have HR := hid (isTag_other m t HML.out (by rw [← HX.out]; exact h16) (by rw [← HX.out]; exact h32))
    have c1 : ((x : Int) == 16) = false := by simp; omega
    have c2 : ((x : Int) == 32) = false := by simp; omega
    go_enter Tryd.func20, Tryd.ntmps20
    go_wp2_with (first
      | (go_at_call 16; refine HM.out.mono ?_; rintro e w1 ⟨rfl, hb1⟩)
      | (refine wpList_store_row rfl _ (.tmp 7) (.tmp 10) rfl w1.heap.size (ubs m).toArray rfl rfl 36 (ubs n32).toArray (heap_alloc_new _ _) HS.out ?e99 (ubs_all _) ?f99; rotate_right; (have b2 := hb1.trans ((stored_below w1 m).mono hb1.size)); have B2 := hid b2; have A2 := hid (stored_rb w1 m); clear b2 hb1; generalize ((w1.alloc (.cells (ubs n32).toArray 36)).setRow w1.heap.size (ubs m).toArray) = W2 at B2 A2 ⊢)
      | (go_at_call 21; (have cq := same_any t (m.take 99) T (some ⟨w1.heap.size, 0, none⟩) ct 32 W2 ((HT.out.below B2.out).mono B2.out.size) (rb_take A2.out 99) (by have := HX.out; omega) (by rw [List.length_take]; omega)); rw [← HX.out, List.length_take, HML.out, HR.out] at cq; refine cq.mono ?_; rintro e w3 ⟨rfl, rfl⟩))
    case e99 => simp [ubs_length, n32_length, HML.out]
    go_ret
    exact ⟨by rw [HR.out]; rfl, B2.out⟩
end Go.Proofs.YtobehmjmmnmflaaDoor
