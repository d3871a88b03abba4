/-
  The document's layer 7: what is in range; a place's bytes.
-/
import Derived.Test.YtnaihcoafgigcaaDoorKb
import Derived.Test.YtnaihcoafgigcaaDoorZ6
namespace Go.Proofs.YtnaihcoafgigcaaDoor
open Go.RowKit

def rightB (i e : Nat) : Bool := decide (i ≤ 4294967295) && (e != 0) && (e != 18446744073709551615)
set_option maxRecDepth 100000 in
set_option maxHeartbeats 1000000 in
theorem rightR_any (i e : Nat) (w : World) : Calls Tryd.prog 17 #[.int .u64 (i : Int), .int .u64 (e : Int)] w fun r w' => r = .returned (.bool (rightB i e)) ∧ w' = w := by
  by_cases h1 : i ≤ 4294967295
  · have c1 : decide ((i : Int) ≤ 4294967295) = true := by simp; omega
    by_cases h2 : e = 0
    · have c2 : ((e : Int) != 0) = false := by rw [h2]; rfl
      have hr : rightB i e = false := by rw [rightB, h2]; simp
      rw [hr]
      clear h1 h2 hr
      go_enter Tryd.func17, Tryd.ntmps17
      go_wp2
      go_ret
      exact ⟨rfl, rfl⟩
    · have c2 : ((e : Int) != 0) = true := by rw [bne_iff_ne]; omega
      by_cases h3 : e = 18446744073709551615
      · have c3 : ((e : Int) != 18446744073709551615) = false := by rw [h3]; rfl
        have hr : rightB i e = false := by rw [rightB, h3]; simp
        rw [hr]
        clear h1 h2 h3 hr
        go_enter Tryd.func17, Tryd.ntmps17
        go_wp2
        go_ret
        exact ⟨rfl, rfl⟩
      · have c3 : ((e : Int) != 18446744073709551615) = true := by rw [bne_iff_ne]; omega
        have hr : rightB i e = true := by rw [rightB]; simp [h1, h2, h3]
        rw [hr]
        clear h1 h2 h3 hr
        go_enter Tryd.func17, Tryd.ntmps17
        go_wp2
        go_ret
        exact ⟨rfl, rfl⟩
  · have c1 : decide ((i : Int) ≤ 4294967295) = false := by simp; omega
    have hr : rightB i e = false := by rw [rightB, decide_eq_false h1]; simp
    rw [hr]
    clear h1 hr
    go_enter Tryd.func17, Tryd.ntmps17
    go_wp2
    go_ret
    exact ⟨rfl, rfl⟩
/-- A place's bytes. -/
def placeL (i e : Nat) : List UInt8 := toBE 4 i ++ toBE 8 e
theorem placeL_length (i e : Nat) : (placeL i e).length = 12 := by rw [placeL, List.length_append, toBE_length, toBE_length]
/-- A block of the call's own as a row. -/
theorem own_of_at {w W : World} {g n : Nat} {bs : List UInt8} (h : At W g (ubs bs).toArray 5) (hg : w.heap.size ≤ g) (hb : Below w.heap.size w W) (hn : n = bs.length) (hm : n ≤ 1000000) : Own1 w n bs (.slice (some ⟨g, 0, none⟩) n n) W :=
  ⟨hn, ⟨by rw [ubs_length, hn, Nat.mul_one], .inr ⟨g, n, (ubs bs).toArray, rfl, hg, h, Nat.le_refl _, by unfold maxLen; omega, by simp [ubs_length, hn], by rw [List.take_of_length_le (by simp [ubs_length, hn])]⟩⟩, hb⟩
set_option maxRecDepth 100000 in
set_option maxHeartbeats 1000000 in
theorem placeR_any (i e : Nat) (w : World) (hi : i < 18446744073709551616) (he : e < 18446744073709551616) :
    Calls Tryd.prog 31 #[.int .u64 (i : Int), .int .u64 (e : Int)] w fun r w' => ∃ A c, r = .returned (.slice A 12 c) ∧ Own1 w 12 (placeL i e) (.slice A 12 c) w' := by
  obtain ⟨i0, hi0, hz0, hz1, hz2⟩ := info_parts infoB
  have HN4 := hid (fun W => show Calls Tryd.prog 51 #[.int .u64 (i : Int), .int .i64 4] W (fun e w' => ∃ g, e = .returned (.slice (some ⟨g, 0, none⟩) 4 4) ∧ At w' g (ubs (toBE 4 i)).toArray 5 ∧ W.heap.size ≤ g ∧ Below W.heap.size W w') from numberR_any i 4 W hi (by omega))
  have HN8 := hid (fun W => show Calls Tryd.prog 51 #[.int .u64 (e : Int), .int .i64 8] W (fun e' w' => ∃ g, e' = .returned (.slice (some ⟨g, 0, none⟩) 8 8) ∧ At w' g (ubs (toBE 8 e)).toArray 5 ∧ W.heap.size ≤ g ∧ Below W.heap.size W w') from numberR_any e 8 W he (by omega))
  have L4 := hid (toBE_length 4 i)
  have L8 := hid (toBE_length 8 e)
  clear hi he
  go_enter Tryd.func31, Tryd.ntmps31
  go_wp2_with (first
    | (go_at_call 51; (have cq := HN4.out w); ((with_reducible refine cq.mono ?_); clear cq); rintro e1 w1 ⟨g, rfl, hA1, hg1, hb1⟩; have O1 := hid (own_of_at hA1 hg1 hb1 L4.out.symm (by omega)); clear hA1 hg1)
    | (go_at_call 51; (have cq := HN8.out w1); ((with_reducible refine cq.mono ?_); clear cq); rintro e2 w2 ⟨g2, rfl, hA2, -, hb2⟩; have R2 := hid (rb_at hA2); have O2 := hid (show Own1 w 4 (toBE 4 i) (.slice (some ⟨g, 0, none⟩) 4 4) w2 from ⟨O1.out.len, own_fr O1.out.own (Fr.of_new (S := fun _ => False) hb2) (fun _ _ => id), O1.out.below.trans (hb2.mono O1.out.below.size)⟩); clear hA2)
    | (at_builtin; refine wpList_append_rd rfl (.tmp 6) (.tmp 8) _ rfl w.heap.size 5 i0 (.int .u8 0) 1 Tryd.underlying55 hi0 hz0 hz1 hz2 rfl (.slice (some ⟨g, 0, none⟩) 4 4) 4 (ubs (toBE 4 i)) rfl O2.out.own w2.heap.size (some ⟨g2, 0, none⟩) 8 8 (ubs (toBE 8 e)) rfl (by rw [ubs_length, L8.out]) R2.out (ubs_one _) (by unfold maxLen; omega) (by omega) O2.out.below.size ?_; intro v3 w3 ho3 hg3 _; have O3 := hid (O2.out.more ho3 L8.out.symm hg3); (have hf3 := own_form ho3); clear ho3 hg3; obtain ⟨A4, c4, rfl, -⟩ := hf3))
  go_ret
  exact ⟨_, _, rfl, O3.out⟩
end Go.Proofs.YtnaihcoafgigcaaDoor
