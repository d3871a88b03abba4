/-
  A cipher in memory: all round keys, one behind the other; New.
-/
import Derived.Test.YtnaihcoafgigcaaDoorZ2
import Derived.Test.YtnaihcoafgigcaaDoorEp
import Derived.Test.YtnaihcoafgigcaaDoorX0
import Derived.Deep.Cut
namespace Go.Proofs.YtnaihcoafgigcaaDoor
open Go.RowKit

/-- The round keys, one by one; the first n of them, one behind the other; a cipher in the making. -/
def pwd : Nat → UInt8
  | 0 => 1
  | n + 1 => dbl (pwd n)
def rk (key : List UInt8) : Nat → List UInt8
  | 0 => key
  | n + 1 => nxL (rk key n) (pwd n)
def rks (key : List UInt8) : Nat → List UInt8
  | 0 => []
  | n + 1 => rks key n ++ rk key n
def ck (key : List UInt8) (n : Nat) : List UInt8 := rks key n ++ List.replicate (176 - 16 * n) 0
theorem pwd_zero : pwd 0 = 1 := rfl
theorem pwd_succ (n : Nat) : pwd (n + 1) = dbl (pwd n) := rfl
theorem rk_zero (key : List UInt8) : rk key 0 = key := rfl
theorem rk_succ (key : List UInt8) (n : Nat) : rk key (n + 1) = nxL (rk key n) (pwd n) := rfl
theorem rks_zero (key : List UInt8) : rks key 0 = [] := rfl
theorem rks_succ (key : List UInt8) (n : Nat) : rks key (n + 1) = rks key n ++ rk key n := rfl
theorem rk_length (key : List UInt8) (h : key.length = 16) (n : Nat) : (rk key n).length = 16 := by
  cases n with
  | zero => exact h
  | succ n => exact nxL_length _ _
theorem rks_length (key : List UInt8) (h : key.length = 16) (n : Nat) : (rks key n).length = 16 * n := by
  induction n with
  | zero => rfl
  | succ n ih => rw [rks_succ, List.length_append, ih, rk_length key h]; omega
theorem ck_length (key : List UInt8) (h : key.length = 16) (n : Nat) (hn : n ≤ 11) : (ck key n).length = 176 := by
  rw [ck, List.length_append, rks_length key h, List.length_replicate]; omega
theorem ck_next (key : List UInt8) (h : key.length = 16) (n : Nat) (hn : n ≤ 10) : spl (ck key n) (16 * n) (rk key n) = ck key (n + 1) := by
  have h1 : List.replicate (176 - 16 * n) (0 : UInt8) = List.replicate 16 0 ++ List.replicate (176 - 16 * (n + 1)) 0 := by
    rw [List.replicate_append_replicate]; congr 1; omega
  have := spl_at (rks key n) (List.replicate 16 0) (List.replicate (176 - 16 * (n + 1)) 0) (rk key n) (by rw [rk_length key h, List.length_replicate])
  rw [rks_length key h] at this
  rw [ck, h1, this, ck, rks_succ, List.append_assoc]
theorem rks_part (key : List UInt8) (m n : Nat) (hn : n < m) : ∃ z, rks key m = rks key n ++ (rk key n ++ z) := by
  induction m with
  | zero => omega
  | succ m ih =>
    by_cases e : n = m
    · subst e
      exact ⟨[], by rw [rks_succ]; simp⟩
    · obtain ⟨z, hz⟩ := ih (by omega)
      exact ⟨z ++ rk key m, by rw [rks_succ, hz]; simp⟩
theorem ck_part (key : List UInt8) (m n : Nat) (hn : n < m) : ∃ z, ck key m = rks key n ++ (rk key n ++ z) := by
  obtain ⟨z, hz⟩ := rks_part key m n hn
  exact ⟨z ++ List.replicate (176 - 16 * m) 0, by rw [ck, hz]; simp⟩
theorem ck_all (key : List UInt8) : ck key 11 = rks key 11 := by rw [ck]; simp
def n176 : List UInt8 := List.replicate 176 0
theorem ck_zero (key : List UInt8) : ck key 0 = n176 := rfl
theorem zero176 : (Tryd.prog.info? 94).bind (·.zero) = some (.agg (ubs n176).toArray) := by kernel_rfl
attribute [irreducible] ck rks rk pwd n176
/-- A cipher in the making. -/
structure Nw1 (w : World) (key : List UInt8) (m : Nat) (wr : World) : Prop where
  arg : At wr w.heap.size (ubs key).toArray 23
  c : At wr (w.heap.size + 1) (ubs (ck key m)).toArray 94
  size : w.heap.size + 2 ≤ wr.heap.size
  below : Below w.heap.size w wr
structure Nw2 (w : World) (key : List UInt8) (m D : Nat) (wr : World) : Prop where
  c : At wr (w.heap.size + 1) (ubs (ck key m)).toArray 94
  tab : At wr D (ubs STab).toArray 95
  far : w.heap.size + 2 ≤ D
  below : Below w.heap.size w wr
theorem Nw1.start (w : World) (key : List UInt8) : Nw1 w key 0 ((w.alloc (.cells (ubs key).toArray 23)).alloc (.cells (ubs n176).toArray 94)) :=
  ⟨(At.new _ _ _).alloc _, by rw [ck_zero]; exact At.new_at (by simp), by simp, ((Below.refl _ _).alloc (Nat.le_refl _) _).alloc (by simp) _⟩
theorem Nw1.drew {w wr : World} {key : List UInt8} {m : Nat} (h : Nw1 w key m wr) (n : Nat) : Nw1 w key m (wr.drewN n) := ⟨h.arg, h.c, h.size, below_drewN h.below n⟩
theorem size_setCells (g : Nat) (vs : List Value) : ∀ (o : Nat) (w : World), (w.setCells g o vs).heap.size = w.heap.size := by
  induction vs with
  | nil => exact fun _ _ => rfl
  | cons v r ih => exact fun o w => (ih (o + 1) _).trans (by simp)
theorem Nw1.first {w wr : World} {key : List UInt8} (hk : key.length = 16) (h : Nw1 w key 0 wr) : Nw1 w key 1 (wr.setCells (w.heap.size + 1) 0 (ubs key)) := by
  refine ⟨far_setCells h.arg (by omega) 0 key, ?_, by rw [size_setCells]; exact h.size, below_setCells h.below (by omega) 0 key⟩
  have := at_setCells h.c 0 key
  have e := ck_next key hk 0 (by omega)
  rw [rk_zero] at e
  rwa [e] at this
theorem Nw1.next {w wr w1 : World} {key : List UInt8} {m : Nat} (h : Nw1 w key m wr) (hb : Below wr.heap.size wr w1) : Nw2 w key m w1.heap.size ((w1.alloc (.cells (ubs n256).toArray 95)).setRow w1.heap.size (ubs STab).toArray) :=
  ⟨At.setRow_far ((h.c.new_ hb).alloc _) (by have := hb.size; have := h.size; omega), setRow_heap _ _ (ubs n256).toArray _ _ _ (At.new _ _ _), by have := hb.size; have := h.size; omega,
    below_setRow ((h.below.trans (hb.mono h.below.size)).alloc (by have := hb.size; have := h.size; omega) _) (by have := hb.size; have := h.size; omega) _⟩
theorem Nw2.drew {w wr : World} {key : List UInt8} {m D : Nat} (h : Nw2 w key m D wr) (n : Nat) : Nw2 w key m D (wr.drewN n) := ⟨h.c, h.tab, h.far, below_drewN h.below n⟩
theorem Nw2.new {w wr w1 : World} {key : List UInt8} {m D : Nat} (h : Nw2 w key m D wr) (hb : Below wr.heap.size wr w1) : Nw2 w key m D w1 := ⟨h.c.new_ hb, h.tab.new_ hb, h.far, h.below.trans (hb.mono h.below.size)⟩
theorem Nw2.store {w wr : World} {key : List UInt8} {m D : Nat} (hk : key.length = 16) (hm : m ≤ 10) (h : Nw2 w key m D wr) : Nw2 w key (m + 1) D (wr.setCells (w.heap.size + 1) (16 * m) (ubs (rk key m))) := by
  refine ⟨?_, far_setCells h.tab (by have := h.far; omega) _ _, h.far, below_setCells h.below (by omega) _ _⟩
  have := at_setCells h.c (16 * m) (rk key m)
  rwa [ck_next key hk m hm] at this
theorem Nw2.range {w wr : World} {key : List UInt8} {m D : Nat} (hk : key.length = 16) (h : Nw2 w key m D wr) (n : Nat) (hn : n < m) : wr.rangeAt (w.heap.size + 1) (16 * n) (ubs (rk key n)) := by
  obtain ⟨z, hz⟩ := ck_part key m n hn
  have := range_at h.c hz
  rwa [rks_length key hk] at this
theorem Nw2.there {w wr : World} {key : List UInt8} {m D : Nat} (hk : key.length = 16) (h : Nw2 w key m D wr) (hm : m ≤ 10) : wr.there (w.heap.size + 1) (16 * m) 16 :=
  there_at h.c _ _ (by rw [ck_length key hk m (by omega)]; omega)
set_option maxRecDepth 100000 in
set_option maxHeartbeats 1000000 in
theorem new_any (key : List UInt8) (w : World) (hk : key.length = 16) :
    Calls Tryd.prog 22 #[.agg (ubs key).toArray] w fun e w' => ∃ C, e = .returned (.pointer (some ⟨C, 0, none⟩)) ∧ w.heap.size ≤ C ∧ At w' C (ubs (rks key 11)).toArray 94 ∧ Below w.heap.size w w' := by
  have H0 := hid (Nw1.start w key)
  have HK := hid hk
  have HZK := hid (sizeKey_of hk)
  have HZ16 := hid (size16_of hk)
  have HAL := hid (fun (o : Oper) (a : Go.Act) (W : World) (h : o.op = .alloc 95) => run_alloc_of (o := o) (a := a) (W := W) _ h _ zero256)
  have HAC := hid (fun (o : Oper) (a : Go.Act) (W : World) (h : o.op = .alloc 94) => run_alloc_of (o := o) (a := a) (W := W) _ h _ zero176)
  have HS := hid (fun W => substitutes_any W)
  have HD := hid (fun x W => pdouble_any x W)
  have HF := hid (fun (wr : World) h => Nw1.first (w := w) (wr := wr) hk h)
  have HZS := hid (size256_of STab_length)
  clear hk
  go_enter Tryd.func22, Tryd.ntmps22
  go_upto_region 2 with (refine Great.wpList_allocTo rfl _ rfl _ _ (HAC.out _ _ _ rfl) ?_)
  generalize ((w.alloc (.cells (ubs key).toArray 23)).alloc (.cells (ubs n176).toArray 94)) = W0 at H0 ⊢
  refine wp_region_still_tail 5 (by kernel_rfl) (by kernel_rfl) ?_
  simp only [List.take_succ_cons, List.take_zero, List.drop_succ_cons, List.drop_zero]
  obtain ⟨W2, hW2⟩ : ∃ W2 : World, { W0 with drawn := W0.drawn + 1 } = W2 := ⟨_, rfl⟩
  rw [hW2]
  have H1 := hid (show Nw1 w key 0 W2 by rw [← hW2]; exact H0.out.drew 1)
  clear hW2 H0
  repeat still_step
  refine wpStill_run _ rfl (run_load_part 23 (.tmp 1) rfl w.heap.size 0 rfl (ubs key) _ (range_at (a := []) (m := key) (z := []) H1.out.arg (by simp)) Tryd.underlying23 rfl (by rw [sizeKey, ubs_length, HK.out])) ?_
  repeat still_step
  refine wpStill_nil ?_
  refine wpList_store_mid rfl 22 (.tmp 12) (.tmp 9) rfl (w.heap.size + 1) 0 (ubs key).toArray rfl rfl ?t1 HZ16.out (ubs_all _) ?_
  case t1 => have := there_at H1.out.c 0 16 (by rw [ck_length key HK.out 0 (by omega)]; omega); simpa [ubs_length, HK.out] using this
  have H2 := hid (HF.out _ H1.out)
  rw [List.toList_toArray]
  generalize (W2.setCells (w.heap.size + 1) 0 (ubs key)) = W3 at H2 ⊢
  clear H1
  go_wp2_with (first
    | (go_at_call 39; refine (HS.out _).mono ?_; rintro e w1 ⟨rfl, hb1⟩; have H3 := hid (H2.out.next hb1); clear hb1)
    | (refine Great.wpList_allocTo rfl _ rfl _ _ (HAL.out _ _ _ rfl) ?_)
    | (refine wpList_store_row rfl _ (.tmp 4) (.tmp 13) rfl w1.heap.size (ubs STab).toArray rfl rfl 95 (ubs n256).toArray (heap_alloc_new _ _) HZS.out ?e3 (ubs_all _) ?e4; rotate_right; generalize ((w1.alloc (.cells (ubs n256).toArray 95)).setRow w1.heap.size (ubs STab).toArray) = W4 at H3 ⊢))
  case e3 => simp [ubs_length, n256_length, STab_length]
  clear H2
  generalize w1.heap.size = D at H3 ⊢
  go_loopw [5, 14] (fun vp vi wr => ∃ (k : Nat) (p : UInt8), k ≤ 10 ∧ vi = .int .i64 k ∧ vp = .int .u8 (p.toNat : Int) ∧ Hid (pwd k = p) ∧ Nw2 w key (k + 1) D wr) (fun _ vi _ => 10 - (intOf vi).toNat)
  case atStart => exact ⟨0, 1, by omega, rfl, rfl, pwd_zero, H3.out⟩
  case round =>
    clear H3
    obtain ⟨k, p, hk, rfl, rfl, HP, hA⟩ := hrel
    have HA0 := hid hA
    clear hA
    by_cases hlt : k < 10
    · obtain ⟨k1, hk1⟩ : ∃ m, m = k + 1 := ⟨_, rfl⟩
      obtain ⟨o, ho⟩ : ∃ m, m = 16 * k := ⟨_, rfl⟩
      obtain ⟨o1, ho1⟩ : ∃ m, m = 16 * k1 := ⟨_, rfl⟩
      have HK1 := hid hk1
      have HO1 := hid ho1
      have HRG := hid (fun (W : World) (h : Nw2 w key (k + 1) D W) => show W.rangeAt (w.heap.size + 1) o (ubs (rk key k)) by rw [ho]; exact h.range HK.out k (by omega))
      have HRL := hid (rk_length key HK.out k)
      have HN := hid (fun (W : World) (h : Nw2 w key (k + 1) D W) => next_any (rk key k) p D W HRL.out h.tab)
      have HRS := hid (show rk key k1 = nxL (rk key k) p by rw [hk1, rk_succ, HP.out])
      have HSZ := hid (size16_of (nxL_length (rk key k) p))
      rw [← HRS.out] at HN HSZ
      have HPS := hid (pwd_succ k)
      have HC := HD.out p
      obtain ⟨q, hq⟩ : ∃ q, q = dbl p := ⟨_, rfl⟩
      rw [← hq] at HC
      have HQ := hid (show pwd (k + 1) = q by rw [HPS.out, HP.out, hq])
      replace HC := hid HC
      have e1 : IntKind.i64.wrap ((k : Int) + 1) = (k1 : Int) := by rw [IntKind.wrap_i64] <;> omega
      have e2 : (k : Int) + 1 = (k1 : Int) := by omega
      have i0 : (k : Int) < 11 := by omega
      have i1 : (k1 : Int) < 11 := by omega
      have HO := hid ho
      have HRL1 := hid (rk_length key HK.out k1)
      have e3 : k * 16 = o := by omega
      have e4 : k1 * 16 = o1 := by omega
      clear hq HPS hk1 ho ho1
      go_upto_region 8 with (fail)
      have HA := hid (show Nw2 w key (k + 1) D wr.drew from HA0.out.drew 1)
      clear HA0
      refine wp_region_till (Nw2 w key (k + 1) D) 14 15 (by kernel_rfl) (by kernel_rfl) ?_
      generalize wr.drew = V0 at HA ⊢
      refine wpTill_takeL (i := 0) (v := (.pointer (some ⟨w.heap.size + 1, 0, none⟩))) rfl rfl (by kernel_rfl) (by kernel_rfl) (by kernel_rfl) (by kernel_rfl) (by decide) (by rfl) (fun _ _ _ h => h) (Or.inl ⟨by rfl, ?_⟩) HA.out ?_
      · (intro W hSW; go_simp)
      simp only [List.set_cons_succ, List.set_cons_zero]
      refine wpTill_takeL (i := 1) (v := .int .i64 (k : Int)) rfl rfl (by kernel_rfl) (by kernel_rfl) (by kernel_rfl) (by kernel_rfl) (by decide) (by rfl) (fun _ _ _ h => h) (Or.inl ⟨by rfl, ?_⟩) HA.out ?_
      · (intro W hSW; go_simp)
      simp only [List.set_cons_succ, List.set_cons_zero]
      refine wpTill_takeL (i := 2) (v := .int .i64 (k1 : Int)) rfl rfl (by kernel_rfl) (by kernel_rfl) (by kernel_rfl) (by kernel_rfl) (by decide) (by rfl) (fun _ _ _ h => h) (Or.inl ⟨by rfl, ?_⟩) HA.out ?_
      · (intro W hSW; go_simp; rw [IntKind.wrap_i64] <;> omega)
      simp only [List.set_cons_succ, List.set_cons_zero]
      refine wpTill_takeL (i := 3) (v := (.pointer (some ⟨w.heap.size + 1, 0, none⟩))) rfl rfl (by kernel_rfl) (by kernel_rfl) (by kernel_rfl) (by kernel_rfl) (by decide) (by rfl) (fun _ _ _ h => h) (Or.inl ⟨by rfl, ?_⟩) HA.out ?_
      · (intro W hSW; go_simp)
      simp only [List.set_cons_succ, List.set_cons_zero]
      refine wpTill_takeL (i := 4) (v := .int .i64 (k : Int)) rfl rfl (by kernel_rfl) (by kernel_rfl) (by kernel_rfl) (by kernel_rfl) (by decide) (by rfl) (fun _ _ _ h => h) (Or.inl ⟨by rfl, ?_⟩) HA.out ?_
      · (intro W hSW; go_simp)
      simp only [List.set_cons_succ, List.set_cons_zero]
      refine wpTill_takeL (i := 5) (v := (.pointer (some ⟨w.heap.size + 1, 0, none⟩))) rfl rfl (by kernel_rfl) (by kernel_rfl) (by kernel_rfl) (by kernel_rfl) (by decide) (by rfl) (fun _ _ _ h => h) (Or.inl ⟨by rfl, ?_⟩) HA.out ?_
      · (intro W hSW; go_simp)
      simp only [List.set_cons_succ, List.set_cons_zero]
      refine wpTill_takeL (i := 6) (v := (.pointer (some ⟨w.heap.size + 1, 0, none⟩))) rfl rfl (by kernel_rfl) (by kernel_rfl) (by kernel_rfl) (by kernel_rfl) (by decide) (by rfl) (fun _ _ _ h => h) (Or.inl ⟨by rfl, ?_⟩) HA.out ?_
      · (intro W hSW; go_simp)
      simp only [List.set_cons_succ, List.set_cons_zero]
      refine wpTill_takeL (i := 7) (v := .pointer (some ⟨w.heap.size + 1, o, none⟩)) rfl rfl (by kernel_rfl) (by kernel_rfl) (by kernel_rfl) (by kernel_rfl) (by decide) (by rfl) (fun _ _ _ h => h) (Or.inl ⟨by rfl, ?_⟩) HA.out ?_
      · (intro W hSW; go_simp)
      simp only [List.set_cons_succ, List.set_cons_zero]
      refine wpTill_takeL (i := 8) (v := .agg (ubs (rk key k)).toArray) rfl rfl (by kernel_rfl) (by kernel_rfl) (by kernel_rfl) (by kernel_rfl) (by decide) (by rfl) (fun _ _ _ h => h) (Or.inl ⟨by rfl, ?_⟩) HA.out ?_
      · (intro W hSW; exact run_load_part 22 (.tmp 24) rfl (w.heap.size + 1) o rfl (ubs (rk key k)) _ (HRG.out W hSW) Tryd.underlying22 rfl (by rw [size16, ubs_length, HRL.out]))
      simp only [List.set_cons_succ, List.set_cons_zero]
      refine wpTill_takeL (i := 9) (v := .int .u8 (p.toNat : Int)) rfl rfl (by kernel_rfl) (by kernel_rfl) (by kernel_rfl) (by kernel_rfl) (by decide) (by rfl) (fun _ _ _ h => h) (Or.inl ⟨by rfl, ?_⟩) HA.out ?_
      · (intro W hSW; go_simp)
      simp only [List.set_cons_succ, List.set_cons_zero]
      refine wpTill_freeL (i := 11) (v := (.pointer (some ⟨w.heap.size + 1, 0, none⟩))) rfl rfl (by kernel_rfl) (by kernel_rfl) (by kernel_rfl) (by decide) (fun _ _ _ h => h) (Or.inl ⟨by rfl, ?_⟩) (fun _ => HA.out) ?_
      · (intro W hSW; go_simp)
      simp only [List.set_cons_succ, List.set_cons_zero]
      refine wpTill_freeL (i := 12) (v := (.pointer (some ⟨w.heap.size + 1, 0, none⟩))) rfl rfl (by kernel_rfl) (by kernel_rfl) (by kernel_rfl) (by decide) (fun _ _ _ h => h) (Or.inl ⟨by rfl, ?_⟩) (fun _ => HA.out) ?_
      · (intro W hSW; go_simp)
      simp only [List.set_cons_succ, List.set_cons_zero]
      refine wpTill_one (i := 10) rfl (by kernel_rfl) rfl ?_
      intro Q0 hQ0
      go_simp
      go_at_call 40
      refine (HN.out V0 HA.out).mono ?_
      rintro e w2 ⟨rfl, hb2⟩
      have HB := hid (HA.out.new hb2)
      clear hb2
      refine hQ0.out _ _ (fun _ _ => HB.out) ?_
      clear hQ0 Q0
      refine wpTill_takeL (i := 13) (v := .pointer (some ⟨w.heap.size + 1, o1, none⟩)) rfl rfl (by kernel_rfl) (by kernel_rfl) (by kernel_rfl) (by kernel_rfl) (by decide) (by rfl) (fun _ _ _ h => h) (Or.inl ⟨by rfl, ?_⟩) HB.out ?_
      · (intro W hSW; go_simp)
      simp only [List.set_cons_succ, List.set_cons_zero]
      refine wpTill_one (i := 14) rfl (by kernel_rfl) rfl ?_
      intro Q0 hQ0
      refine wp_store_mid 22 (.tmp 30) (.tmp 27) rfl (w.heap.size + 1) o1 (ubs (rk key k1)).toArray rfl rfl ?t2 HSZ.out (ubs_all _) ?_
      case t2 => have := HB.out.there HK.out (by omega); rw [← HK1.out, ← HO1.out] at this; simpa [ubs_length, HRL1.out] using this
      have HE := hid (HB.out.store HK.out (by omega))
      rw [← HK1.out, ← HO1.out] at HE
      rw [List.toList_toArray]
      generalize (w2.setCells (w.heap.size + 1) o1 (ubs (rk key k1))) = W5 at HE ⊢
      refine hQ0.out _ _ (fun _ h => absurd rfl h) ?_
      clear hQ0 Q0 HB HA
      refine wpTill_done (by kernel_rfl) ?_ _
      go_simp
      go_wp2_with (go_at_call 41; refine (HC.out _).mono ?_; rintro e w' ⟨rfl, hw⟩; rw [hw]; clear hw)
      go_roundw
      case rel => exact ⟨k1, q, by omega, rfl, rfl, by rw [HK1.out]; exact HQ, HE.out⟩
      case measure => have := HK1.out; simp [intOf]; omega
    · obtain rfl : k = 10 := by omega
      have hc := HA0.out.c
      rw [ck_all] at hc
      have HE := hid hc
      have HB := hid HA0.out.below
      clear hc HA0
      go_wp2
      go_ret
      exact ⟨_, rfl, by omega, HE.out, HB.out⟩
end Go.Proofs.YtnaihcoafgigcaaDoor
