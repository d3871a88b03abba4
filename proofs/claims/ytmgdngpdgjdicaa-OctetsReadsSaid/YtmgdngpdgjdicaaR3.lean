/-
  More contracts of the reader's methods: Bytes, Hash.
-/
import Derived.Test.YtmgdngpdgjdicaaR2
import Derived.Deep.RegionLaw
import Derived.RegionTactic
namespace Go.Proofs.Ytmgdngpdgjdicaa
open Go.RowKit

theorem werr_idem (k : Nat) : werr (werr k 2) 2 = werr k 2 := by unfold werr; split <;> simp_all
theorem RawOut.after {base : Nat → Prop} {p k2 : Nat} {xs bs1 : List UInt8} {w w1 w2 : World} {x : Value} (hf : Fr (Only p) w w1) (h : RawOut base p k2 xs bs1 w1 x w2) : RawOut base p k2 xs bs1 w x w2 := by
  obtain ⟨h1, h2, h3⟩ := h
  refine ⟨own_mono h1 (fun g hg => ?_), h2, hf.trans h3⟩
  have := (World.ownsRow.lt h1) g hg
  have := hf.size
  omega
/-- Bytes: fewer than two are left. -/
theorem rbytes_short (base : Nat → Prop) (p k : Nat) (bs : List UInt8) (most : Int) (w : World) (h : RS w base p k bs) (hb : bs.length < 2) :
    Calls Try.prog 27 #[.pointer (some ⟨p, 0, none⟩), .int .i64 most] w fun e w' => ∃ x, e = .returned x ∧ RawOut base p (werr k 2) [] [] w x w' := by
  have HC := hid (rnum_bad base p k bs 2 w h (.inl (by omega)))
  have HF := hid (fun w1 h1 => fail_any base p (werr k 2) [] w1 2 (by decide) h1)
  rw [werr_idem] at HF
  have HR := hid (fun w1 h1 => rraw_good base p (werr k 2) [] 0 w1 h1 (by simp) (by simp))
  clear h
  by_cases h0 : 0 > most
  · go_enter Try.func27, Try.ntmps27
    go_wp2_with (first
      | (go_at_call 25; refine HC.out.mono ?_; rintro e w1 ⟨x, rfl, rfl, hx⟩; replace hx := hid hx)
      | (go_at_call 34; refine (HF.out _ hx.out.1).mono ?_; rintro e w2 ⟨rfl, hy⟩; replace hy := hid hy))
    go_ret
    exact ⟨_, rfl, World.ownsRow_nil _ _ _ _, hy.out.1, hx.out.2.trans hy.out.2⟩
  · go_enter Try.func27, Try.ntmps27
    go_wp2_with (first
      | (go_at_call 25; refine HC.out.mono ?_; rintro e w1 ⟨x, rfl, rfl, hx⟩; replace hx := hid hx)
      | (go_at_call 29; refine (HR.out _ hx.out.1).mono ?_; rintro e w2 ⟨x, rfl, hy⟩; replace hy := hid hy))
    go_ret
    exact ⟨_, rfl, RawOut.after hx.out.2 hy.out⟩
/-- More than are asked for. -/
theorem rbytes_most (base : Nat → Prop) (p k : Nat) (bs : List UInt8) (most : Int) (w : World) (h : RS w base p k bs) (hb : 2 ≤ bs.length) (hm : most < val (bs.take 2)) :
    Calls Try.prog 27 #[.pointer (some ⟨p, 0, none⟩), .int .i64 most] w fun e w' => ∃ x, e = .returned x ∧ RawOut base p (werr k 2) [] [] w x w' := by
  have HC := hid (rnum_good base p k bs 2 (.inr (.inl rfl)) w h hb)
  have HF := hid (fun w1 bs1 h1 => fail_any base p k bs1 w1 2 (by decide) h1)
  have hv := val_lt (bs.take 2)
  rw [List.length_take, Nat.min_eq_left hb] at hv
  obtain ⟨n, hn⟩ : ∃ n, n = val (bs.take 2) := ⟨_, rfl⟩
  rw [← hn] at hm hv HC
  clear h hn
  have h63 : (n : Int) < 65536 := by omega
  go_enter Try.func27, Try.ntmps27
  go_wp2_with (first
    | (go_at_call 25; refine HC.out.mono ?_; rintro e w1 ⟨x, rfl, rfl, hx⟩; replace hx := hid hx)
    | (go_at_call 34; refine (HF.out _ _ hx.out.1).mono ?_; rintro e w2 ⟨rfl, hy⟩; replace hy := hid hy))
  go_ret
  exact ⟨_, rfl, World.ownsRow_nil _ _ _ _, hy.out.1, hx.out.2.trans hy.out.2⟩
/-- More than are left. -/
theorem rbytes_left (base : Nat → Prop) (p k : Nat) (bs : List UInt8) (most : Int) (w : World) (h : RS w base p k bs) (hb : 2 ≤ bs.length) (hm : ¬ most < val (bs.take 2)) (hl : bs.length < 2 + val (bs.take 2)) :
    Calls Try.prog 27 #[.pointer (some ⟨p, 0, none⟩), .int .i64 most] w fun e w' => ∃ x, e = .returned x ∧ RawOut base p (werr k 2) [] [] w x w' := by
  have HC := hid (rnum_good base p k bs 2 (.inr (.inl rfl)) w h hb)
  have HR := hid (fun w1 h1 => rraw_bad base p k (bs.drop 2) (val (bs.take 2)) w1 h1 (.inr (by rw [List.length_drop]; omega)))
  have hv := val_lt (bs.take 2)
  rw [List.length_take, Nat.min_eq_left hb] at hv
  obtain ⟨n, hn⟩ : ∃ n, n = val (bs.take 2) := ⟨_, rfl⟩
  rw [← hn] at hm hv HC HR
  clear h hn hl
  have h63 : (n : Int) < 65536 := by omega
  have hd : decide (most < (n : Int)) = false := by simpa using hm
  clear hm
  go_enter Try.func27, Try.ntmps27
  go_wp2_with (first
    | (go_at_call 25; refine HC.out.mono ?_; rintro e w1 ⟨x, rfl, rfl, hx⟩; replace hx := hid hx)
    | (go_at_call 29; refine (HR.out _ hx.out.1).mono ?_; rintro e w2 ⟨x, rfl, hy⟩; replace hy := hid hy))
  go_ret
  exact ⟨_, rfl, RawOut.after hx.out.2 hy.out⟩
theorem rbytes_good (base : Nat → Prop) (p k : Nat) (bs : List UInt8) (most : Int) (w : World) (h : RS w base p k bs) (hb : 2 ≤ bs.length) (hm : ¬ most < val (bs.take 2)) (hl : 2 + val (bs.take 2) ≤ bs.length) (hbl : bs.length ≤ 1000000000) :
    Calls Try.prog 27 #[.pointer (some ⟨p, 0, none⟩), .int .i64 most] w fun e w' => ∃ x, e = .returned x ∧ RawOut base p k ((bs.drop 2).take (val (bs.take 2))) ((bs.drop 2).drop (val (bs.take 2))) w x w' := by
  have HC := hid (rnum_good base p k bs 2 (.inr (.inl rfl)) w h hb)
  have HR := hid (fun w1 h1 => rraw_good base p k (bs.drop 2) (val (bs.take 2)) w1 h1 (by rw [List.length_drop]; omega) (by rw [List.length_drop]; omega))
  have hv := val_lt (bs.take 2)
  rw [List.length_take, Nat.min_eq_left hb] at hv
  obtain ⟨n, hn⟩ : ∃ n, n = val (bs.take 2) := ⟨_, rfl⟩
  rw [← hn] at hm hv HC HR ⊢
  clear h hn hl
  have h63 : (n : Int) < 65536 := by omega
  have hd : decide (most < (n : Int)) = false := by simpa using hm
  clear hm
  go_enter Try.func27, Try.ntmps27
  go_wp2_with (first
    | (go_at_call 25; refine HC.out.mono ?_; rintro e w1 ⟨x, rfl, rfl, hx⟩; replace hx := hid hx)
    | (go_at_call 29; refine (HR.out _ hx.out.1).mono ?_; rintro e w2 ⟨x, rfl, hy⟩; replace hy := hid hy))
  go_ret
  exact ⟨_, rfl, RawOut.after hx.out.2 hy.out⟩
end Go.Proofs.Ytmgdngpdgjdicaa
