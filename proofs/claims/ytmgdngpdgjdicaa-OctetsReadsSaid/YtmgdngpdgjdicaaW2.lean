/-
  More contracts of the writer's methods: Bytes, Flag, Hash, Done; a byte slice's clone.
-/
import Derived.Test.YtmgdngpdgjdicaaWr
namespace Go.Proofs.Ytmgdngpdgjdicaa
open Go.RowKit

/-- slices.Clone: new memory, the same bytes. -/
def CloneOut (bs : List UInt8) (w : World) (x : Value) (w' : World) : Prop := Ow w' w.heap.size x bs ∧ Below w.heap.size w w'

set_option maxHeartbeats 400000 in
theorem clone_any (bs : List UInt8) (A : Option Addr) (c : Nat) (w : World) (hx : Rb w w.heap.size A bs) (hl : bs.length ≤ 1000000000) :
    Calls Try.prog 43 #[.slice A bs.length c] w fun e w' => ∃ x, e = .returned x ∧ CloneOut bs w x w' := by
  have HX := hid hx
  clear hx
  obtain ⟨i0, hi, hz0, hz1, hz2⟩ := info_parts infoB
  rcases A with _ | a
  · have hb : bs = [] := by
      rcases bs with _ | ⟨y, ys⟩
      · rfl
      · obtain ⟨_, _, h, _⟩ := HX.out (by simp [ubs])
        cases h
    subst hb
    clear HX
    have hq := fun w' : World => Lib.run_eql_slice_nil (P := Try.prog) w' 30 5 none 0 c 0 0 Try.underlying30
    go_enter Try.func43, Try.ntmps43
    go_wp2
    go_ret
    exact ⟨_, rfl, World.ownsRow_nil _ _ _ _, Below.refl _ _⟩
  · have hq := fun w' : World => Lib.run_eql_slice_nil (P := Try.prog) w' 30 5 (some a) bs.length c 0 0 Try.underlying30
    have HO : Hid ((w.alloc (.cells #[] 5)).ownsRow w.heap.size 5 1 (.slice (some ⟨w.heap.size, 0, none⟩) 0 0) 0 []) := hid (World.ownsRow_made w #[] 0 (Nat.le_refl _) (by simp [maxLen]) rfl)
    go_enter Try.func43, Try.ntmps43
    go_wp2_with (at_builtin; refine wpList_append_rd rfl (.tmp 5) (.tmp 6) _ rfl w.heap.size 5 i0 (.int .u8 0) 1 Try.underlying30 hi hz0 hz1 hz2 rfl _ 0 [] rfl HO.out w.heap.size (some a) bs.length c (ubs bs) rfl (ubs_length _) (HX.out.alloc _) (ubs_one _) (by unfold maxLen; omega) (by omega) (by simp) ?_; intro v' w1 hown hgr hat; replace hown := hid hown; replace hgr := hid hgr; replace hat := hid hat)
    go_ret
    refine ⟨_, rfl, ?_, ((Below.refl _ _).alloc (Nat.le_refl _) _).grown hgr.out (by simp) (fun k hk => by cases hk; exact Nat.le_refl _)⟩
    have := hown.out
    rw [Nat.zero_add, List.nil_append] at this
    exact this

/-- Flag. -/
theorem be_one (n : Nat) : be n 1 = [UInt8.ofNat n] := by simp [be, List.range_succ]
def flagB (b : Bool) : List UInt8 := [if b then 1 else 0]
theorem flag_any (base p k : Nat) (v : Value) (bs : List UInt8) (is : Bool) (w : World) (h : WI w base p k v bs) (hb : base ≤ w.heap.size) (hl : bs.length ≤ 900000000) :
    Calls Try.prog 17 #[.pointer (some ⟨p, 0, none⟩), .bool is] w fun e w' => ∃ x, e = .returned x ∧ WOut base p k (wput k bs (flagB is)) v w x w' := by
  cases is
  · have HC := hid (num_fit base p k v bs 0 1 (.inl rfl) (by omega) w h hb hl)
    clear h
    go_enter Try.func17, Try.ntmps17
    go_wp2_with (go_at_call 9; refine HC.out.mono ?_; rintro e w' ⟨x, rfl, hx⟩; replace hx := hid hx)
    go_ret
    exact ⟨_, rfl, hx.out⟩
  · have HC := hid (num_fit base p k v bs 1 1 (.inl rfl) (by omega) w h hb hl)
    clear h
    go_enter Try.func17, Try.ntmps17
    go_wp2_with (go_at_call 9; refine HC.out.mono ?_; rintro e w' ⟨x, rfl, hx⟩; replace hx := hid hx)
    go_ret
    exact ⟨_, rfl, hx.out⟩

/-- Bytes: too many. -/
theorem bytes_large (base p k : Nat) (v : Value) (bs : List UInt8) (A : Option Addr) (n c : Nat) (w : World) (h : WI w base p k v bs) (hn : 65535 < n) :
    Calls Try.prog 11 #[.pointer (some ⟨p, 0, none⟩), .slice A n c] w fun e w' => ∃ x, e = .returned x ∧ WOut base p (werr k 3) [] v w x w' := by
  have HC := hid (refuse_out base p k v bs w 3 (by decide) h)
  clear h
  go_enter Try.func11, Try.ntmps11
  go_wp2_with (go_at_call 40; refine HC.out.mono ?_; rintro e w' ⟨x, rfl, hx⟩; replace hx := hid hx)
  go_ret
  exact ⟨_, rfl, hx.out⟩
/-- Bytes: their number, and they. -/
theorem bytes_fit (base p k B : Nat) (v : Value) (bs xs : List UInt8) (A : Option Addr) (c : Nat) (w : World) (h : WI w base p k v bs) (hx : Rb w B A xs) (hA : ∀ g, g < B → ¬ Wt p v g)
    (hb : base ≤ w.heap.size) (hl : bs.length ≤ 900000000) (hn : xs.length ≤ 65535) :
    Calls Try.prog 11 #[.pointer (some ⟨p, 0, none⟩), .slice A xs.length c] w fun e w' => ∃ x, e = .returned x ∧ WOut base p k (wput k bs (be xs.length 2 ++ xs)) v w x w' := by
  have HC := hid (num_fit base p k v bs xs.length 2 (.inr (.inl rfl)) (by omega) w h hb hl)
  have HB := hid hb
  have HX := hid hx
  have HA := hid hA
  clear h hx hA hb
  go_enter Try.func11, Try.ntmps11
  go_wp2_with (first
    | (go_at_call 9; refine HC.out.mono ?_; rintro e w1 ⟨x, rfl, rfl, v1, hw1, hf1, ho1⟩; replace hw1 := hid hw1; replace hf1 := hid hf1; replace ho1 := hid ho1)
    | (go_at_call 13; refine (raw_any base p k v1 _ xs A c w1 hw1.out ((HX.out.frB hf1.out HA.out).lt) (Nat.le_trans HB.out hf1.out.size) ?c1).mono ?_; rotate_right; rintro e w2 ⟨x, rfl, hx⟩; replace hx := hid hx))
  case c1 =>
    have := be_length xs.length 2
    unfold wput
    split <;> simp [be_length] <;> omega
  go_ret
  obtain ⟨rfl, v2, h2, hf2, ho2⟩ := hx.out
  refine ⟨_, rfl, rfl, v2, ?_, hf1.out.next hf2 (fun g hg hw => ?_), ?_⟩
  · have : wput k (wput k bs (be xs.length 2)) xs = wput k bs (be xs.length 2 ++ xs) := by unfold wput; split <;> simp
    rw [← this]
    exact h2
  · rcases hw with rfl | hw
    · exact .inl rfl
    · rcases ho1.out with h | h
      · exact .inr (h ▸ hw)
      · have := h g hw
        omega
  · rcases ho2 with h | h
    · rw [h]
      exact ho1.out
    · refine .inr (fun g hg => ?_)
      have := h g hg
      have := hf1.out.size
      omega
end Go.Proofs.Ytmgdngpdgjdicaa
