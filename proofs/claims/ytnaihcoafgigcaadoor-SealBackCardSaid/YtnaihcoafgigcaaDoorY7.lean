/-
  Comparing bytes without haste.
  The short tag, and checking a tag.
-/
import Derived.Test.YtnaihcoafgigcaaDoorY6
import Derived.Test.YtnaihcoafgigcaaDoorY1
import Derived.Test.YtnaihcoafgigcaaDoorHd
namespace Go.Proofs.YtnaihcoafgigcaaDoor
open Go.RowKit

theorem nxor_zero (a b : Nat) : a ^^^ b = 0 ↔ a = b :=
  ⟨fun h => by
    have := congrArg (· ^^^ b) h
    simpa [Nat.xor_assoc, Nat.xor_self] using this, fun h => by rw [h, Nat.xor_self]⟩
/-- What differs ahead of place k, the lengths first. -/
def difk (a b : List UInt8) : Nat → Nat
  | 0 => a.length ^^^ b.length
  | k + 1 => difk a b k ||| (a.getD k 0 ^^^ b.getD k 0).toNat
theorem difk_zero (a b : List UInt8) : difk a b 0 = a.length ^^^ b.length := rfl
theorem difk_succ (a b : List UInt8) (k : Nat) : difk a b (k + 1) = difk a b k ||| (a.getD k 0 ^^^ b.getD k 0).toNat := rfl
theorem difk_iff (a b : List UInt8) (k : Nat) : difk a b k = 0 ↔ a.length = b.length ∧ ∀ j, j < k → a.getD j 0 = b.getD j 0 := by
  induction k with
  | zero => rw [difk_zero, nxor_zero]; simp
  | succ k ih =>
    rw [difk_succ, Nat.or_eq_zero_iff, ih]
    have hx : (a.getD k 0 ^^^ b.getD k 0).toNat = 0 ↔ a.getD k 0 = b.getD k 0 := by
      rw [UInt8.toNat_xor, nxor_zero]
      exact UInt8.toNat_inj
    rw [hx]
    constructor
    · rintro ⟨⟨h1, h2⟩, h3⟩
      refine ⟨h1, fun j hj => ?_⟩
      rcases Nat.lt_or_ge j k with h | h
      · exact h2 j h
      · obtain rfl : j = k := by omega
        exact h3
    · rintro ⟨h1, h2⟩
      exact ⟨⟨h1, fun j hj => h2 j (by omega)⟩, h2 k (by omega)⟩
theorem difk_end (a b : List UInt8) (k : Nat) (h : k = max a.length b.length) : ((difk a b k : Int) == 0) = (a == b) := by
  rw [Bool.eq_iff_iff, beq_iff_eq, beq_iff_eq]
  have h1 : ((difk a b k : Int) = 0) ↔ difk a b k = 0 := by omega
  rw [h1, difk_iff]
  constructor
  · rintro ⟨h2, h3⟩
    refine List.ext_getElem h2 fun i hi hi2 => ?_
    have := h3 i (by omega)
    simpa [hi, hi2] using this
  · rintro rfl
    exact ⟨rfl, fun _ _ => rfl⟩
attribute [irreducible] difk
set_option maxRecDepth 100000 in
set_option maxHeartbeats 1000000 in
theorem same_any (a b : List UInt8) (A B : Option Addr) (ca cb : Nat) (w : World) (ha : Rb w w.heap.size A a) (hb : Rb w w.heap.size B b) (la : a.length ≤ 140737488355328) (lb : b.length ≤ 140737488355328) :
    Calls Tryd.prog 47 #[.slice A a.length ca, .slice B b.length cb] w fun e w' => e = .returned (.bool (a == b)) ∧ w = w' := by
  have KA := fun i => at_any a A ca i w ha
  have KB := fun i => at_any b B cb i w hb
  have D0 := difk_zero a b
  have DE := difk_end a b
  obtain ⟨n, hn⟩ : ∃ n, n = a.length := ⟨_, rfl⟩
  obtain ⟨m, hm⟩ : ∃ m, m = b.length := ⟨_, rfl⟩
  have h0 := n_xor 3 n m (by omega) (by omega)
  have hlt0 : n ^^^ m < 2 ^ 63 := Nat.xor_lt_two_pow (by omega) (by omega)
  rw [← hn, ← hm] at D0 DE ⊢
  rw [← hn] at KA la
  rw [← hm] at KB lb
  obtain ⟨d0, hd0⟩ : ∃ d, d = n ^^^ m := ⟨_, rfl⟩
  rw [← hd0] at h0 D0 hlt0
  have HKA := hid KA
  have HKB := hid KB
  have HD0 := hid D0
  obtain ⟨x, hx⟩ : ∃ x, x = max n m := ⟨_, rfl⟩
  rw [← hx] at DE
  have hxi : max (n : Int) (m : Int) = (x : Int) := by omega
  have hx2 : x ≤ 140737488355328 := by omega
  have HDE := hid DE
  have HS := hid (difk_succ a b)
  clear hd0 hn hm KA KB D0 DE ha hb hx
  have tok : Hid True := trivial
  by_cases hnm : n < m
  · obtain rfl : x = m := by omega
    clear hxi
    go_enter Tryd.func47, Tryd.ntmps47
    go_wp2
    go_loop [5, 17] (fun d i => ∃ k q : Nat, k ≤ x ∧ i = .int .i64 k ∧ d = .int .i64 q ∧ q < 2 ^ 63 ∧ Hid (difk a b k = q)) (fun _ i => x - (intOf i).toNat)
    case atStart => exact ⟨0, d0, by omega, rfl, rfl, hlt0, HD0⟩
    case round =>
      clear HD0 h0 hlt0
      obtain ⟨k, q, hk, rfl, rfl, hq, HQ⟩ := hrel
      by_cases hlt : k < x
      · have HX := hid (HS.out k)
        have hxy := b_xor 5 (a.getD k 0) (b.getD k 0)
        obtain ⟨y, hy⟩ : ∃ y, y = a.getD k 0 ^^^ b.getD k 0 := ⟨_, rfl⟩
        have hyl := y.toNat_lt
        have ho := n_or 3 q y.toNat hq (by omega)
        have hol : q ||| y.toNat < 2 ^ 63 := Nat.or_lt_two_pow hq (by omega)
        rw [← hy, HQ.out] at HX
        rw [← hy] at hxy
        obtain ⟨u, hu⟩ : ∃ u, u = a.getD k 0 := ⟨_, rfl⟩
        obtain ⟨v, hv⟩ : ∃ v, v = b.getD k 0 := ⟨_, rfl⟩
        have HU := HKA.out k
        have HV := HKB.out k
        rw [← hu] at hxy HU
        rw [← hv] at hxy HV
        obtain ⟨yn, hyn⟩ : ∃ yn, yn = y.toNat := ⟨_, rfl⟩
        rw [← hyn] at hxy ho hol hyl HX
        obtain ⟨r, hr⟩ : ∃ r, r = q ||| yn := ⟨_, rfl⟩
        rw [← hr] at ho hol HX
        replace HU := hid HU
        replace HV := hid HV
        clear hy hu hv hyn hr hq HQ
        go_wp2_with (first
          | (go_at_call 64; have _t := tok; clear tok _t; refine HU.out.mono ?_; rintro e w' ⟨rfl, hw⟩; rw [hw])
          | (go_at_call 64; refine HV.out.mono ?_; rintro e w' ⟨rfl, hw⟩; rw [hw]))
        go_round
        case rel => exact ⟨k + 1, r, by omega, by go_num, rfl, hol, HX⟩
        case measure => simp [intOf]; omega
      · have HE := hid (HDE.out k (by omega))
        rw [HQ.out] at HE
        go_wp2
        go_ret
        exact ⟨by rw [← HE.out]; rfl, rfl⟩
  · obtain rfl : x = n := by omega
    clear hxi
    go_enter Tryd.func47, Tryd.ntmps47
    go_wp2
    go_loop [5, 17] (fun d i => ∃ k q : Nat, k ≤ x ∧ i = .int .i64 k ∧ d = .int .i64 q ∧ q < 2 ^ 63 ∧ Hid (difk a b k = q)) (fun _ i => x - (intOf i).toNat)
    case atStart => exact ⟨0, d0, by omega, rfl, rfl, hlt0, HD0⟩
    case round =>
      clear HD0 h0 hlt0
      obtain ⟨k, q, hk, rfl, rfl, hq, HQ⟩ := hrel
      by_cases hlt : k < x
      · have HX := hid (HS.out k)
        have hxy := b_xor 5 (a.getD k 0) (b.getD k 0)
        obtain ⟨y, hy⟩ : ∃ y, y = a.getD k 0 ^^^ b.getD k 0 := ⟨_, rfl⟩
        have hyl := y.toNat_lt
        have ho := n_or 3 q y.toNat hq (by omega)
        have hol : q ||| y.toNat < 2 ^ 63 := Nat.or_lt_two_pow hq (by omega)
        rw [← hy, HQ.out] at HX
        rw [← hy] at hxy
        obtain ⟨u, hu⟩ : ∃ u, u = a.getD k 0 := ⟨_, rfl⟩
        obtain ⟨v, hv⟩ : ∃ v, v = b.getD k 0 := ⟨_, rfl⟩
        have HU := HKA.out k
        have HV := HKB.out k
        rw [← hu] at hxy HU
        rw [← hv] at hxy HV
        obtain ⟨yn, hyn⟩ : ∃ yn, yn = y.toNat := ⟨_, rfl⟩
        rw [← hyn] at hxy ho hol hyl HX
        obtain ⟨r, hr⟩ : ∃ r, r = q ||| yn := ⟨_, rfl⟩
        rw [← hr] at ho hol HX
        replace HU := hid HU
        replace HV := hid HV
        clear hy hu hv hyn hr hq HQ
        go_wp2_with (first
          | (go_at_call 64; have _t := tok; clear tok _t; refine HU.out.mono ?_; rintro e w' ⟨rfl, hw⟩; rw [hw])
          | (go_at_call 64; refine HV.out.mono ?_; rintro e w' ⟨rfl, hw⟩; rw [hw]))
        go_round
        case rel => exact ⟨k + 1, r, by omega, by go_num, rfl, hol, HX⟩
        case measure => simp [intOf]; omega
      · have HE := hid (HDE.out k (by omega))
        rw [HQ.out] at HE
        go_wp2
        go_ret
        exact ⟨by rw [← HE.out]; rfl, rfl⟩
end Go.Proofs.YtnaihcoafgigcaaDoor

namespace Go.Proofs.YtnaihcoafgigcaaDoor
open Go.RowKit

/-- What a call with a key and parts is handed. -/
structure Handed (k : List UInt8) (K : Option Addr) (ps : List Part) (S : Option Addr) (w : World) : Prop where
  rk : Rb w w.heap.size K k
  rs : Rd w w.heap.size S (ps.map Part.v)
  rp : ∀ p ∈ ps, Rb w w.heap.size p.A p.bs
  lk : k.length ≤ 1000000000
  lj : (joined ps).length ≤ 900000000
  lp : ps.length ≤ 900000000
  tb : Tabs w
theorem Handed.below {k : List UInt8} {K : Option Addr} {ps : List Part} {S : Option Addr} {w w' : World} (h : Handed k K ps S w) (hb : Below w.heap.size w w') : Handed k K ps S w' :=
  ⟨(h.rk.below hb).mono hb.size, (h.rs.below hb).mono hb.size, fun p hp => ((h.rp p hp).below hb).mono hb.size, h.lk, h.lj, h.lp, h.tb.below hb⟩
theorem Handed.mac {k : List UInt8} {K : Option Addr} {ps : List Part} {S : Option Addr} {w : World} (h : Handed k K ps S w) (ck cap : Nat) :
    Calls Tryd.prog 43 #[.slice K k.length ck, .slice S ps.length cap] w fun e w' => e = .returned (.agg (ubs (macL k (joined ps))).toArray) ∧ Below w.heap.size w w' :=
  mac_any k K ck ps S cap w h.rk h.rs h.rp h.lk h.lj h.lp h.tb
theorem short_splice (m : List UInt8) (h : m.length = 32) : splice (ubs n16) 0 ((ubs m).take 16) = ubs (m.take 16) := by
  simp only [splice, List.take_zero, List.nil_append, Nat.zero_add, ubs_drop, ubs_take, ← ubs_append, ubs_length, List.length_take, n16, List.drop_replicate, h]
  simp
set_option maxRecDepth 100000 in
set_option maxHeartbeats 8000000 in
theorem short_any (k : List UInt8) (K : Option Addr) (ck : Nat) (ps : List Part) (S : Option Addr) (cap : Nat) (w : World) (hh : Handed k K ps S w) :
    Calls Tryd.prog 26 #[.slice K k.length ck, .slice S ps.length cap] w fun e w' => ∃ g, e = .returned (.slice (some ⟨g, 0, none⟩) 16 16) ∧ At w' g (ubs ((macL k (joined ps)).take 16)).toArray 5 ∧ w.heap.size ≤ g ∧ Below w.heap.size w w' := by
  have hm := hh.mac ck cap
  obtain ⟨m, hm0⟩ : ∃ m, m = macL k (joined ps) := ⟨_, rfl⟩
  have HML := hid (show m.length = 32 by rw [hm0, macL_length])
  rw [← hm0] at hm ⊢
  obtain ⟨n, hn⟩ : ∃ n, n = ps.length := ⟨_, rfl⟩
  obtain ⟨l, hl⟩ : ∃ l, l = k.length := ⟨_, rfl⟩
  rw [← hn, ← hl] at hm ⊢
  have HM := hid hm
  have HS := hid (show (Tryd.prog.info? 61).map (·.size) = some (ubs m).toArray.size by rw [sizeH]; simp [ubs_length, HML.out])
  have HP := hid (short_splice m HML.out)
  have hz32 := noughts32
  have hmk : ∀ w : World, (Instr.makeSlice 55 (.int .i64 16) (.int .i64 16)).run Tryd.prog w = .ok (.slice (some ⟨w.heap.size, 0, none⟩) 16 16) (w.alloc (.cells (ubs n16).toArray 5)) := fun w => run_makeB 16 (by omega) w
  have HF := hid (fun (w2 w1 : World) (h : Fr (fun k => k = w2.heap.size) (w2.alloc (.cells (ubs n16).toArray 5)) w1) => (((Fr.refl (fun _ => False) w2).alloc _).next h (fun k hk he => by omega)).below (B := w2.heap.size) (fun _ h => h.elim) (Nat.le_refl _))
  clear hm hm0 hn hl hh
  go_enter Tryd.func26, Tryd.ntmps26
  go_wp2_with (first
    | (go_at_call 43; refine HM.out.mono ?_; rintro e w1 ⟨rfl, hb1⟩)
    | (refine wpList_store_row rfl _ (.tmp 5) (.tmp 9) rfl w1.heap.size (ubs m).toArray rfl rfl 61 (ubs n32).toArray (heap_alloc_new _ _) HS.out ?e1 (ubs_all _) ?e2; rotate_right; (have b2 := hb1.trans ((stored_below w1 m).mono hb1.size)); have B2 := hid b2; have A2 := hid (stored_at w1 m); clear b2 hb1; generalize ((w1.alloc (.cells (ubs n32).toArray 61)).setRow w1.heap.size (ubs m).toArray) = W2 at B2 A2 ⊢)
    | (refine wpList_copy_rd rfl (.tmp 11) (.tmp 12) _ _ rfl 5 Tryd.underlying55 sizeU8 W2.heap.size 0 16 16 (W2.heap.size + 1) (some ⟨w1.heap.size, 0, none⟩) 32 32 rfl rfl (ubs n16) 5 (At.new _ _ _) (ubs m) (Rd.mono (B := W2.heap.size) (rb_at (A2.out)) (by omega) |>.alloc _) (by rw [ubs_length]; exact HML.out) (by rw [ubs_length, n16_length]; omega) (ubs_one _) ?_; intro w3 hA3 hF3; rw [HP.out] at hA3; have A3 := hid hA3; have B3 := hid (HF.out _ _ hF3); clear hA3 hF3))
  case e1 => simp [ubs_length, n32_length, HML.out]
  go_ret
  exact ⟨_, rfl, A3.out, B2.out.size, B2.out.trans (B3.out.mono B2.out.size)⟩
/-- Which tags are one: the whole one, the short one. -/
def isTag (m t : List UInt8) : Bool := t == m || t == m.take 16
theorem isTag_short (m t : List UInt8) (hm : m.length = 32) (h : t.length = 16) : (t == m.take 16) = isTag m t := by
  have : (t == m) = false := by
    rw [beq_eq_false_iff_ne]
    rintro rfl
    omega
  rw [isTag, this, Bool.false_or]
theorem isTag_whole (m t : List UInt8) (hm : m.length = 32) (h : t.length = 32) : (t == m.take 32) = isTag m t := by
  have : (t == m.take 16) = false := by
    rw [beq_eq_false_iff_ne]
    intro e
    have := congrArg List.length e
    rw [List.length_take] at this
    omega
  rw [isTag, this, Bool.or_false, List.take_of_length_le (by omega)]
theorem isTag_other (m t : List UInt8) (hm : m.length = 32) (h : t.length ≠ 16) (h2 : t.length ≠ 32) : isTag m t = false := by
  rw [isTag, Bool.or_eq_false_iff, beq_eq_false_iff_ne, beq_eq_false_iff_ne]
  constructor
  · rintro rfl
    omega
  · intro e
    have := congrArg List.length e
    rw [List.length_take] at this
    omega
attribute [irreducible] isTag
set_option maxRecDepth 100000 in
theorem check_any (t : List UInt8) (T : Option Addr) (ct : Nat) (k : List UInt8) (K : Option Addr) (ck : Nat) (ps : List Part) (S : Option Addr) (cap : Nat) (w : World) (ht : Rb w w.heap.size T t) (lt : t.length ≤ 140737488355328) (hh : Handed k K ps S w) :
    Calls Tryd.prog 28 #[.slice T t.length ct, .slice K k.length ck, .slice S ps.length cap] w fun e w' => e = .returned (.bool (isTag (macL k (joined ps)) t)) ∧ Below w.heap.size w w' := by
  have hm := hh.mac ck cap
  obtain ⟨m, hm0⟩ : ∃ m, m = macL k (joined ps) := ⟨_, rfl⟩
  have HML := hid (show m.length = 32 by rw [hm0, macL_length])
  rw [← hm0] at hm ⊢
  obtain ⟨n, hn⟩ : ∃ n, n = ps.length := ⟨_, rfl⟩
  obtain ⟨l, hl⟩ : ∃ l, l = k.length := ⟨_, rfl⟩
  obtain ⟨x, hx⟩ : ∃ x, x = t.length := ⟨_, rfl⟩
  have HX := hid hx
  rw [← hn, ← hl] at hm ⊢
  rw [← hx] at lt ⊢
  have HM := hid hm
  have HS := hid (show (Tryd.prog.info? 61).map (·.size) = some (ubs m).toArray.size by rw [sizeH]; simp [ubs_length, HML.out])
  have HT := hid ht
  have hz32 := noughts32
  clear hm hm0 hn hl hh hx ht
  by_cases h16 : x = 16
  · subst h16
    have HR := hid (isTag_short m t HML.out HX.out.symm)
    go_enter Tryd.func28, Tryd.ntmps28
    go_wp2_with (first
      | (go_at_call 43; refine HM.out.mono ?_; rintro e w1 ⟨rfl, hb1⟩)
      | (refine wpList_store_row rfl _ (.tmp 7) (.tmp 10) rfl w1.heap.size (ubs m).toArray rfl rfl 61 (ubs n32).toArray (heap_alloc_new _ _) HS.out ?e16 (ubs_all _) ?f16; rotate_right; (have b2 := hb1.trans ((stored_below w1 m).mono hb1.size)); have B2 := hid b2; have A2 := hid (stored_rb w1 m); clear b2 hb1; generalize ((w1.alloc (.cells (ubs n32).toArray 61)).setRow w1.heap.size (ubs m).toArray) = W2 at B2 A2 ⊢)
      | (go_at_call 47; (have cq := same_any t (m.take 16) T (some ⟨w1.heap.size, 0, none⟩) ct 32 W2 ((HT.out.below B2.out).mono B2.out.size) (rb_take A2.out 16) (by have := HX.out; omega) (by rw [List.length_take]; omega)); rw [← HX.out, List.length_take, HML.out, HR.out] at cq; refine cq.mono ?_; rintro e w3 ⟨rfl, rfl⟩))
    case e16 => simp [ubs_length, n32_length, HML.out]
    go_ret
    exact ⟨rfl, B2.out⟩
  by_cases h32 : x = 32
  · subst h32
    have HR := hid (isTag_whole m t HML.out HX.out.symm)
    go_enter Tryd.func28, Tryd.ntmps28
    go_wp2_with (first
      | (go_at_call 43; refine HM.out.mono ?_; rintro e w1 ⟨rfl, hb1⟩)
      | (refine wpList_store_row rfl _ (.tmp 7) (.tmp 10) rfl w1.heap.size (ubs m).toArray rfl rfl 61 (ubs n32).toArray (heap_alloc_new _ _) HS.out ?e32 (ubs_all _) ?f32; rotate_right; (have b2 := hb1.trans ((stored_below w1 m).mono hb1.size)); have B2 := hid b2; have A2 := hid (stored_rb w1 m); clear b2 hb1; generalize ((w1.alloc (.cells (ubs n32).toArray 61)).setRow w1.heap.size (ubs m).toArray) = W2 at B2 A2 ⊢)
      | (go_at_call 47; (have cq := same_any t (m.take 32) T (some ⟨w1.heap.size, 0, none⟩) ct 32 W2 ((HT.out.below B2.out).mono B2.out.size) (rb_take A2.out 32) (by have := HX.out; omega) (by rw [List.length_take]; omega)); rw [← HX.out, List.length_take, HML.out, HR.out] at cq; refine cq.mono ?_; rintro e w3 ⟨rfl, rfl⟩))
    case e32 => simp [ubs_length, n32_length, HML.out]
    go_ret
    exact ⟨rfl, B2.out⟩
  · have HR := hid (isTag_other m t HML.out (by rw [← HX.out]; exact h16) (by rw [← HX.out]; exact h32))
    have c1 : ((x : Int) == 16) = false := by simp; omega
    have c2 : ((x : Int) == 32) = false := by simp; omega
    go_enter Tryd.func28, Tryd.ntmps28
    go_wp2_with (first
      | (go_at_call 43; refine HM.out.mono ?_; rintro e w1 ⟨rfl, hb1⟩)
      | (refine wpList_store_row rfl _ (.tmp 7) (.tmp 10) rfl w1.heap.size (ubs m).toArray rfl rfl 61 (ubs n32).toArray (heap_alloc_new _ _) HS.out ?e99 (ubs_all _) ?f99; rotate_right; (have b2 := hb1.trans ((stored_below w1 m).mono hb1.size)); have B2 := hid b2; have A2 := hid (stored_rb w1 m); clear b2 hb1; generalize ((w1.alloc (.cells (ubs n32).toArray 61)).setRow w1.heap.size (ubs m).toArray) = W2 at B2 A2 ⊢)
      | (go_at_call 47; (have cq := same_any t (m.take 99) T (some ⟨w1.heap.size, 0, none⟩) ct 32 W2 ((HT.out.below B2.out).mono B2.out.size) (rb_take A2.out 99) (by have := HX.out; omega) (by rw [List.length_take]; omega)); rw [← HX.out, List.length_take, HML.out, HR.out] at cq; refine cq.mono ?_; rintro e w3 ⟨rfl, rfl⟩))
    case e99 => simp [ubs_length, n32_length, HML.out]
    go_ret
    exact ⟨by rw [HR.out]; rfl, B2.out⟩
end Go.Proofs.YtnaihcoafgigcaaDoor
