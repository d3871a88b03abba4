/-
  The law of SpanIndices, over the example.
-/
import Derived.Test.YtlmecjnlinalkaaDoorM2
import Derived.Test.YtlmecjnlinalkaaDoorM1
namespace Go.Proofs.YtlmecjnlinalkaaDoor
open Go.RowKit

set_option maxRecDepth 100000 in
set_option maxHeartbeats 1000000 in
theorem spanIndices_law {w : World} (hA : Alive11C w) (f : Nat) (m : Int) (hf : f < 18446744073709551616) (hm : -9223372036854775808 ≤ m ∧ m < 9223372036854775808) :
    Calls Tryd.prog 10 #[.int .u64 (f : Int), .int .i64 m] w fun e w' => e = .returned (.bool true) ∧ Below w.heap.size w w' := by
  have HA := hid (hA w (Below.refl _ _))
  have HR := hid (fun V => right11R_any 32 m f V hf)
  cases hg : spanB 32 f m with
  | false =>
    rw [hg] at HR
    have HI := hid (fun V => pindices_no m f V hf hg)
    clear hA hf hm hg
    go_enter Tryd.func10, Tryd.ntmps10
    go_wp2_with (first
      | (go_at_call 39; refine HA.out.mono ?_; rintro r1 w1 ⟨rfl, hb1⟩; have B1 := hid hb1; clear hb1)
      | (go_at_call 50; refine (HI.out w1).mono ?_; rintro r2 w2 ⟨rfl, hw⟩; rw [hw]; clear hw w2)
      | (go_at_call 42; refine (HR.out w1).mono ?_; rintro r2 w2 ⟨rfl, hw⟩; rw [hw]; clear hw w2))
    go_ret
    exact ⟨rfl, B1.out⟩
  | true =>
    rw [hg] at HR
    obtain ⟨k', n, e1, rfl, hh, h0, h2, h3⟩ := spanB_parts hg
    obtain rfl : k' = 32 := by omega
    have HI := hid (fun V => pindices_ok f n V hg)
    have HB := hid (show f + n ≤ 4294967296 ∧ n ≤ 256 by omega)
    have nn : decide ((n : Int) = (n : Int)) = true := by simp
    clear hA hf hm hg e1 hh h0 h2 h3
    go_enter Tryd.func10, Tryd.ntmps10
    go_wp2_with (first
      | (go_at_call 39; refine HA.out.mono ?_; rintro r1 w1 ⟨rfl, hb1⟩; have B1 := hid hb1; clear hb1)
      | (go_at_call 50; refine (HI.out w1).mono ?_; rintro r2 w2 ⟨A, c, rfl, hc, hn, hb2⟩; have B2 := hid (B1.out.trans (hb2.mono B1.out.size)); have N2 := hid hn; clear hc hn hb2)
      | (go_at_call 42; refine (HR.out w2).mono ?_; rintro r3 w3 ⟨rfl, hw⟩; rw [hw]; clear hw w3))
    clear nn
    go_loopw [6, 7, 22] (fun _ _ v wr => ∃ j : Nat, j ≤ n ∧ v = .int .i64 (j : Int) ∧ wr = w2) (fun _ _ v _ => n - (intOf v).toNat)
    case atStart => exact ⟨0, by omega, rfl, rfl⟩
    case round =>
      obtain ⟨j, hj, rfl, ew0⟩ := hrel
      obtain rfl := ew0.symm
      by_cases hlt : j < n
      · have hd : decide ((j : Int) < (n : Int)) = true := by simp; omega
        have hdn : decide (j < n) = true := by simp; omega
        have ik : (j : Int) < (n : Int) := by omega
        obtain ⟨g, o, rfl, -, hc⟩ := N2.out.at (j := j) (by simpa using hlt)
        obtain ⟨x, hx⟩ : ∃ x, x = f + j := ⟨_, rfl⟩
        have hgx : (List.range' f n)[j]'(by simpa using hlt) = x := by simp [hx]
        rw [hgx] at hc
        obtain ⟨q, hq⟩ : ∃ q, q = o + j := ⟨_, rfl⟩
        rw [← hq] at hc
        have eq := hq.symm
        obtain ⟨j1, hj1⟩ : ∃ m, m = j + 1 := ⟨_, rfl⟩
        have e2 : (j : Int) + 1 = (j1 : Int) := by omega
        have ew2 : IntKind.i64.wrap (j1 : Int) = (j1 : Int) := by rw [IntKind.wrap_i64] <;> have := HB.out <;> omega
        have wj : IntKind.u64.wrap (j : Int) = (j : Int) := by have := HB.out; simp [IntKind.wrap, IntKind.signed, IntKind.bits]; omega
        have e3 : (f : Int) + (j : Int) = (x : Int) := by omega
        have wx : IntKind.u64.wrap (x : Int) = (x : Int) := by have := HB.out; simp [IntKind.wrap, IntKind.signed, IntKind.bits]; omega
        have k0 : decide ((x : Int) = (x : Int)) = true := by simp
        have HM := hid (show j1 ≤ n ∧ n - j1 < n - j by omega)
        clear hx hgx hq hj1 hj hlt
        go_wp2
        exact ⟨⟨j1, HM.out.1, rfl, trivial⟩, by
          show n - ((j1 : Int)).toNat < n - ((j : Int)).toNat
          rw [Int.toNat_natCast, Int.toNat_natCast]
          exact HM.out.2⟩
      · obtain rfl : j = n := by omega
        have hd : decide ((j : Int) < (j : Int)) = false := by simp
        clear hlt hj
        go_wp2
        go_ret
        exact ⟨by simp, B2.out⟩
end Go.Proofs.YtlmecjnlinalkaaDoor
