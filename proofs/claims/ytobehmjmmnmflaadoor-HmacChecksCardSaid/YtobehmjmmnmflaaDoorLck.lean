/-
  HmacChecks, walked.
-/
import Derived.Test.YtobehmjmmnmflaaDoorLmc
namespace Go.Proofs.YtobehmjmmnmflaaDoor
open Go.RowKit

theorem isTag_eq (m t : List UInt8) : isTag m t = (t == m || t == m.take 16) := by unfold isTag; rfl
def p1 (a : List UInt8) (A : Option Addr) (ca : Nat) : List Part := [⟨A, a, ca⟩]
theorem joined_p1 (a : List UInt8) (A : Option Addr) (ca : Nat) : joined (p1 a A ca) = a := joined_one _
theorem handed1 {W : World} {k a : List UInt8} {K A : Option Addr} (hk : Rb W W.heap.size K k) (ha : Rb W W.heap.size A a) (ca : Nat) (hT : Tabs W) (lk : k.length ≤ 3000) (la : a.length ≤ 3000) :
    Handed k K (p1 a A ca) (some ⟨W.heap.size, 0, none⟩) (W.alloc (.cells #[.slice A a.length ca] 34)) := by
  have hb : Below W.heap.size W (W.alloc (.cells #[.slice A a.length ca] 34)) := (Below.refl _ _).alloc (Nat.le_refl _) _
  exact ⟨(hk.below hb).mono hb.size, rd_parts W (p1 a A ca), by intro p hp; simp only [p1, List.mem_cons, List.not_mem_nil, or_false] at hp; subst hp; exact (ha.below hb).mono hb.size, by omega, by rw [joined_p1]; omega, by simp [p1], hT.below hb⟩
set_option maxRecDepth 100000 in
set_option maxHeartbeats 16000000 in
theorem checks_law (t k a : List UInt8) (T K A : Option Addr) (ct ck ca : Nat) (w : World) (ht : Rb w w.heap.size T t) (hk : Rb w w.heap.size K k) (ha : Rb w w.heap.size A a)
    (lt : t.length ≤ 140737488351232) (lk : k.length ≤ 140737488351232) (la : a.length ≤ 140737488351232) (hT : Tabs w) (hR : Tabr w) (hI : Tab w 1 IV.l) :
    Calls Tryd.prog 5 #[.slice T t.length ct, .slice K k.length ck, .slice A a.length ca] w fun e w' => e = .returned (.bool true) ∧ Below w.heap.size w w' := by
  have L0 := hid (show LmA w t k a T K A w from ⟨ht, hk, ha, Below.refl _ _⟩)
  have HT := hid hT
  have HR := hid hR
  have HI := hid hI
  clear hk ha ht hT hR hI
  by_cases hbig : 3000 < t.length + k.length + a.length
  · obtain ⟨x, hx⟩ : ∃ x, x = t.length := ⟨_, rfl⟩
    obtain ⟨y, hy⟩ : ∃ x, x = k.length := ⟨_, rfl⟩
    obtain ⟨z, hz⟩ : ∃ x, x = a.length := ⟨_, rfl⟩
    rw [← hx] at lt hbig ⊢
    rw [← hy] at lk hbig ⊢
    rw [← hz] at la hbig ⊢
    clear hx hy hz L0
    go_enter Tryd.func5, Tryd.ntmps5
    go_wp2_with (go_at_call 13; refine (alive3_any _ HT.out).mono ?_; rintro e w1 ⟨rfl, hb1⟩; have HB1 := hid hb1; clear hb1)
    go_ret
    exact ⟨rfl, HB1.out⟩
  · obtain ⟨m, hm⟩ : ∃ m, m = macL k a := ⟨_, rfl⟩
    have HML := hid (show m.length = 32 by rw [hm, macL_length])
    have KC := hid (fun (W : World) (h : LmA w t k a T K A W) => show Calls Tryd.prog 20 #[.slice T t.length ct, .slice K k.length ck, .slice (some ⟨W.heap.size, 0, none⟩) 1 1] (W.alloc (.cells #[.slice A a.length ca] 34)) (fun e w' => e = .returned (.bool (isTag m t)) ∧ Below (W.alloc (.cells #[.slice A a.length ca] 34)).heap.size (W.alloc (.cells #[.slice A a.length ca] 34)) w') by
      have hb : Below W.heap.size W (W.alloc (.cells #[.slice A a.length ca] 34)) := (Below.refl _ _).alloc (Nat.le_refl _) _
      have := check_any t T ct k K ck (p1 a A ca) (some ⟨W.heap.size, 0, none⟩) 1 _ ((h.rk.below hb).mono hb.size) (by omega) (handed1 h.ra h.rb ca (HT.out.below h.below) (by omega) (by omega))
      rw [joined_p1, ← hm] at this
      exact this)
    have KMR := hid (fun (W : World) (h : LmA w t k a T K A W) => macR_any k a K A ck ca W h.ra h.rb (by omega) (by omega) (HR.out.below h.below) (Tab.below (x := IV.a) (xs := [IV.b, IV.c, IV.d, IV.e, IV.f, IV.g, IV.h]) HI.out h.below))
    rw [← hm] at KMR
    have HS := hid (show (Tryd.prog.info? 36).map (·.size) = some (ubs m).toArray.size by rw [sizeH]; simp [ubs_length, HML.out])
    have KB1 := hid (fun (W : World) (C : Nat) (h : LmB w t k a T K A m C W) => bytes_any t m T (some ⟨C, 0, none⟩) ct 32 W h.la.rk (rb_at h.hsh))
    have KB2 := hid (fun (W : World) (C : Nat) (h : LmB w t k a T K A m C W) => bytes_any t (m.take 16) T (some ⟨C, 0, none⟩) ct 32 W h.la.rk (rb_take (rb_at h.hsh) 16))
    have HE := hid (isTag_eq m t)
    rw [HML.out] at KB1
    rw [List.length_take, HML.out] at KB2
    obtain ⟨s, hs⟩ : ∃ s, s = isTag m t := ⟨_, rfl⟩
    obtain ⟨r1, hr1⟩ : ∃ r, r = (t == m) := ⟨_, rfl⟩
    obtain ⟨r2, hr2⟩ : ∃ r, r = (t == m.take 16) := ⟨_, rfl⟩
    rw [← hs] at KC HE
    rw [← hr1] at KB1 HE
    rw [← hr2] at KB2 HE
    obtain ⟨x, hx⟩ : ∃ x, x = t.length := ⟨_, rfl⟩
    obtain ⟨y, hy⟩ : ∃ x, x = k.length := ⟨_, rfl⟩
    obtain ⟨z, hz⟩ : ∃ x, x = a.length := ⟨_, rfl⟩
    rw [← hx] at KC KB1 KB2 lt hbig ⊢
    rw [← hy] at KC KMR lk hbig ⊢
    rw [← hz] at KC KMR la hbig ⊢
    have hz32 := noughts32
    have hE := HE.out
    clear hm hx hy hz hs hr1 hr2 HE
    rcases Bool.eq_false_or_eq_true r1 with rfl | rfl
    · obtain rfl : s = true := hE
      go_enter Tryd.func5, Tryd.ntmps5
      go_wp2_with (first
        | (go_at_call 13; refine (alive3_any _ HT.out).mono ?_; rintro e w1 ⟨rfl, hb1⟩; have L1 := hid (L0.out.next hb1); clear hb1)
        | (go_at_call 14; refine (KMR.out w1 L1.out).mono ?_; rintro e w4 ⟨rfl, hb4⟩; have L4 := hid (L1.out.next hb4); clear hb4)
        | (refine wpList_store_row rfl _ (.tmp 7) (.tmp 22) rfl w4.heap.size (ubs m).toArray rfl rfl 36 (ubs n32).toArray (heap_alloc_new _ _) HS.out ?e3 (ubs_all _) ?e4; rotate_right; have L5 := hid (LmA.start L4.out m); generalize ((w4.alloc (.cells (ubs n32).toArray 36)).setRow w4.heap.size (ubs m).toArray) = w5 at L5 ⊢)
        | (go_at_call 17; refine (KB1.out w5 w4.heap.size L5.out).mono ?_; rintro e w6 ⟨rfl, rfl⟩)
        | (go_at_call 20; refine (KC.out w5 L5.out.la).mono ?_; rintro e w7 ⟨rfl, hb7⟩; have B7 := hid ((L5.out.la.below.alloc L5.out.la.below.size _).trans (hb7.mono (by have := L5.out.la.below.size; simp; omega))); clear hb7))
      case e3 => simp [ubs_length, n32_length, HML.out]
      go_ret
      exact ⟨rfl, B7.out⟩
    · obtain rfl : s = r2 := hE
      have tok : Hid True := trivial
      go_enter Tryd.func5, Tryd.ntmps5
      go_wp2_with (first
        | (go_at_call 13; refine (alive3_any _ HT.out).mono ?_; rintro e w1 ⟨rfl, hb1⟩; have L1 := hid (L0.out.next hb1); clear hb1)
        | (go_at_call 14; refine (KMR.out w1 L1.out).mono ?_; rintro e w4 ⟨rfl, hb4⟩; have L4 := hid (L1.out.next hb4); clear hb4)
        | (refine wpList_store_row rfl _ (.tmp 7) (.tmp 22) rfl w4.heap.size (ubs m).toArray rfl rfl 36 (ubs n32).toArray (heap_alloc_new _ _) HS.out ?e5 (ubs_all _) ?e6; rotate_right; have L5 := hid (LmA.start L4.out m); generalize ((w4.alloc (.cells (ubs n32).toArray 36)).setRow w4.heap.size (ubs m).toArray) = w5 at L5 ⊢)
        | (go_at_call 17; have _t := tok; clear tok _t; refine (KB1.out w5 w4.heap.size L5.out).mono ?_; rintro e w6 ⟨rfl, rfl⟩)
        | (go_at_call 17; refine (KB2.out w5 w4.heap.size L5.out).mono ?_; rintro e w6 ⟨rfl, rfl⟩)
        | (go_at_call 20; refine (KC.out w5 L5.out.la).mono ?_; rintro e w7 ⟨rfl, hb7⟩; have B7 := hid ((L5.out.la.below.alloc L5.out.la.below.size _).trans (hb7.mono (by have := L5.out.la.below.size; simp; omega))); clear hb7))
      case e5 => simp [ubs_length, n32_length, HML.out]
      go_ret
      exact ⟨rfl, B7.out⟩
end Go.Proofs.YtobehmjmmnmflaaDoor
