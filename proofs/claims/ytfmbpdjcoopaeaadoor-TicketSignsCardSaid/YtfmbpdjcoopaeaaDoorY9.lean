/-
  The contracts of the writer's methods (package octets): each call behaves as its chapter says.
  More contracts of the writer's methods: Bytes, Flag, Hash, Done; a byte slice's clone.
  Contracts of the writer's methods Hash and Done; the statement's own function 'hash'.
  The statement's own function 'hash': bytes as a hash, as far as there are.
  The contracts of the reader's methods (package octets): each call behaves as its chapter says.
  More contracts of the reader's methods: From, Num, Raw, Bytes, Flag, Left, End.
  More contracts of the reader's methods: Bytes, Hash.
  The contract of the reader's method Hash.
-/
import Derived.Test.YtfmbpdjcoopaeaaDoorRows
import Derived.Test.YtfmbpdjcoopaeaaDoorY1
import Derived.Deep.QuietTactic
import Derived.BigQuiet
import Derived.Laws.CopyOwn
import Derived.Test.YtfmbpdjcoopaeaaDoorY3
import Derived.Deep.RegionLaw
import Derived.RegionTactic
namespace Go.Proofs.YtfmbpdjcoopaeaaDoor
open Go.RowKit

/-- An error of package api by its number; 0: none. -/
def errV (k : Nat) : Value := if k = 0 then .nilIface else .iface 49 (.int .i64 (k : Int))
theorem errV_zero : errV 0 = .nilIface := rfl
theorem errV_pos {k : Nat} (h : k ≠ 0) : errV k = .iface 49 (.int .i64 (k : Int)) := by simp [errV, h]

set_option maxRecDepth 100000 in
theorem isSize_any (n : Int) (w : World) : Calls Tryd.prog 149 #[.int .i64 n] w fun e w' => e = .returned (.bool (decide (n = 1 ∨ n = 2 ∨ n = 4 ∨ n = 8))) ∧ w = w' := by
  go_enter Tryd.func149, Tryd.ntmps149
  go_wp2
  all_goals go_ret
  all_goals refine ⟨?_, rfl⟩
  all_goals first | (simp_all; done) | (simp_all; exact Bool.eq_iff_iff.2 (by simp_all))

/-- The first error stays. -/
def werr (k c : Nat) : Nat := if k = 0 then c else k

/-- A writer behind p: its error's number, its slice, which the call owns and which reads as bs. -/
structure WI (w : World) (base p k : Nat) (v : Value) (bs : List UInt8) : Prop where
  at_ : At w p #[errV k, v] 154
  own : Ow w base v bs
  low : base ≤ p

/-- What a writer's call may touch: its box, its row. -/
def Wt (p : Nat) (v : Value) (k : Nat) : Prop := k = p ∨ v.ownBlock = some k

set_option maxRecDepth 100000 in
set_option maxHeartbeats 400000 in
theorem refuse_any (base p k : Nat) (v : Value) (bs : List UInt8) (w : World) (c : Nat) (hc : c ≠ 0) (h : WI w base p k v bs) :
    Calls Tryd.prog 150 #[.pointer (some ⟨p, 0, none⟩), errV c] w fun e w' => e = .returned (.pointer (some ⟨p, 0, none⟩)) ∧
      WI w' base p (werr k c) (.slice none 0 0) [] ∧ Fr (Wt p v) w w' := by
  have c0 := h.at_.cell 0
  have c1 := h.at_.cell 1
  have f0 := h.at_.frozen 0
  have f1 := h.at_.frozen 1
  simp at c0 c1
  have H := hid h
  clear h
  by_cases hk : k = 0
  · subst hk
    rw [errV_zero] at c0
    have e : errV c = .iface 49 (.int .i64 (c : Int)) := errV_pos hc
    rw [e]
    have E := hid e
    clear e
    go_enter Tryd.func150, Tryd.ntmps150
    go_wp2
    go_ret
    refine ⟨rfl, ⟨?_, World.ownsRow_nil _ _ _ _, H.out.low⟩, ((Fr.refl _ _).setCell (.inr (.inl rfl)) _).setCell (.inr (.inl rfl)) _⟩
    have := (H.out.at_.put 0 (errV c)).put 1 (.slice none 0 0)
    have hw : werr 0 c = c := if_pos rfl
    rw [hw]
    rw [E.out] at this ⊢
    exact this
  · have hk' := hid hk
    rw [errV_pos hk] at c0
    have e : errV c = .iface 49 (.int .i64 (c : Int)) := errV_pos hc
    rw [e]
    have hw : werr k c = k := if_neg hk
    rw [hw]
    clear hk e hw
    go_enter Tryd.func150, Tryd.ntmps150
    go_wp2
    go_ret
    exact ⟨rfl, ⟨H.out.at_.put 1 (.slice none 0 0), World.ownsRow_nil _ _ _ _, H.out.low⟩, (Fr.refl _ _).setCell (.inr (.inl rfl)) _⟩

set_option maxRecDepth 100000 in
/-- There is an error: nothing turns. -/
theorem raw_bad (base p k : Nat) (v : Value) (bs : List UInt8) (w : World) (hk : k ≠ 0) (h : WI w base p k v bs) (x : Value) :
    Calls Tryd.prog 88 #[.pointer (some ⟨p, 0, none⟩), x] w fun e w' => e = .returned (.pointer (some ⟨p, 0, none⟩)) ∧ w = w' := by
  have c0 := h.at_.cell 0
  simp at c0
  rw [errV_pos hk] at c0
  clear h hk
  go_enter Tryd.func88, Tryd.ntmps88
  go_wp2
  go_ret
  exact ⟨rfl, rfl⟩
set_option maxRecDepth 100000 in
set_option maxHeartbeats 400000 in
theorem raw_good (base p : Nat) (v : Value) (bs xs : List UInt8) (A : Option Addr) (c : Nat) (w : World) (h : WI w base p 0 v bs) (hx : Rb w w.heap.size A xs) (hb : base ≤ w.heap.size) (hl : bs.length + xs.length ≤ 1000000000) :
    Calls Tryd.prog 88 #[.pointer (some ⟨p, 0, none⟩), .slice A xs.length c] w fun e w' => e = .returned (.pointer (some ⟨p, 0, none⟩)) ∧
      ∃ v', WI w' base p 0 v' (bs ++ xs) ∧ Fr (Wt p v) w w' ∧ (v'.ownBlock = v.ownBlock ∨ v'.ownBlock = some w.heap.size) := by
  have c0 := h.at_.cell 0
  have c1 := h.at_.cell 1
  have f0 := h.at_.frozen 0
  have f1 := h.at_.frozen 1
  simp at c0 c1
  rw [errV_zero] at c0
  have H := hid h
  have HX := hid hx
  clear h hx
  obtain ⟨i0, hi, hz0, hz1, hz2⟩ := info_parts infoB
  go_enter Tryd.func88, Tryd.ntmps88
  have hne : some p ≠ v.ownBlock := fun e => own_ne_at H.out.own H.out.at_ (by decide) e.symm
  have HN := hid hne
  clear hne
  go_wp2_with (at_builtin; refine wpList_append_rd rfl (.tmp 19) (.tmp 20) _ rfl base 5 i0 (.int .u8 0) 1 Tryd.underlying22 hi hz0 hz1 hz2 rfl v bs.length (ubs bs) rfl H.out.own w.heap.size A xs.length c (ubs xs) rfl (ubs_length _) HX.out (ubs_one _) (by unfold maxLen; omega) (by omega) hb ?_; intro v' w1 hown hgr hat; obtain ⟨A', c', rfl, -⟩ := own_form hown; have HF : Hid (Fr (Wt p v) w w1) := hid ((Fr.refl _ _).grown hgr (fun k hk => .inr (.inr hk))); have HA : Hid (At w1 p #[errV 0, v] 154) := hid ((hgr.block p H.out.at_.lt HN.out).trans H.out.at_); have HO := hid hown; have HT := hid hat; clear hown hgr hat; have c0' := HA.out.cell 0; have c1' := HA.out.cell 1; have f1' := HA.out.frozen 1; simp at c0' c1')
  go_ret
  refine ⟨rfl, _, ⟨HA.out.put 1 _, ?_, H.out.low⟩, HF.out.setCell (.inr (.inl rfl)) _, HT.out⟩
  have := own_far HO.out (p := ⟨p, 1, none⟩) (own_ne_at HO.out HA.out (by decide)) (.slice A' (bs.length + xs.length) c')
  unfold Ow
  rw [ubs_append, List.length_append]
  exact this

/-- A number's bytes, the highest first. -/
def be (n size : Nat) : List UInt8 := (List.range size).map fun i => UInt8.ofNat (n / 256 ^ (size - 1 - i))
theorem be_length (n size : Nat) : (be n size).length = size := by simp [be]
def Sz (s : Nat) : Prop := s = 1 ∨ s = 2 ∨ s = 4 ∨ s = 8

set_option maxRecDepth 100000 in
set_option maxHeartbeats 1600000 in
theorem num_walk (r : Value) (n s : Nat) (hs : Sz s) (hn : n < 256 ^ s) (w : World) (Q : Value → World → Prop)
    (hraw : ∀ w1 A c, Fr (fun _ => False) w w1 → Rb w1 w1.heap.size A (be n s) → Calls Tryd.prog 88 #[r, .slice A (be n s).length c] w1 fun e w' => ∃ x, e = .returned x ∧ Q x w') :
    Calls Tryd.prog 87 #[r, .int .u64 n, .int .i64 s] w fun e w' => ∃ x, e = .returned x ∧ Q x w' := by
  simp only [be_length] at hraw
  have HR := hid hraw
  clear hraw
  rcases hs with rfl | rfl | rfl | rfl
  · have h1 : ((n : Int) / 256 == 0) = true := by simp; omega
    go_enter Tryd.func87, Tryd.ntmps87
    go_wp2_with (first | (go_at_call 149; refine (isSize_any _ _).mono ?_; rintro e w' ⟨rfl, rfl⟩))
    refine wp_loop_rounds 9 ?_
    repeat (rw [rounds_succ]; go_wp2_with (go_at_call 88; refine (HR.out _ _ _ ?c1 ?c2).mono ?_; rotate_right; rintro e w' ⟨x, rfl, hx⟩; replace hx := hid hx))
    case c1 => exact (Fr.refl _ _).alloc _
    case c2 =>
      refine Rd.of_drop (At.new _ _ _) 7 ?_ (by simp)
      simp [be, ubs, ub, List.range_succ]
      omega
    go_ret
    exact ⟨_, rfl, hx.out⟩
  · have h1 : ((n : Int) / 256 / 256 == 0) = true := by simp; omega
    go_enter Tryd.func87, Tryd.ntmps87
    go_wp2_with (first | (go_at_call 149; refine (isSize_any _ _).mono ?_; rintro e w' ⟨rfl, rfl⟩))
    refine wp_loop_rounds 9 ?_
    repeat (rw [rounds_succ]; go_wp2_with (go_at_call 88; refine (HR.out _ _ _ ?c1 ?c2).mono ?_; rotate_right; rintro e w' ⟨x, rfl, hx⟩; replace hx := hid hx))
    case c1 => exact (Fr.refl _ _).alloc _
    case c2 =>
      refine Rd.of_drop (At.new _ _ _) 6 ?_ (by simp)
      simp [be, ubs, ub, List.range_succ]
      omega
    go_ret
    exact ⟨_, rfl, hx.out⟩
  · have h1 : ((n : Int) / 16777216 / 256 == 0) = true := by simp; omega
    go_enter Tryd.func87, Tryd.ntmps87
    go_wp2_with (first | (go_at_call 149; refine (isSize_any _ _).mono ?_; rintro e w' ⟨rfl, rfl⟩))
    refine wp_loop_rounds 9 ?_
    repeat (rw [rounds_succ]; go_wp2_with (go_at_call 88; refine (HR.out _ _ _ ?c1 ?c2).mono ?_; rotate_right; rintro e w' ⟨x, rfl, hx⟩; replace hx := hid hx))
    case c1 => exact (Fr.refl _ _).alloc _
    case c2 =>
      refine Rd.of_drop (At.new _ _ _) 4 ?_ (by simp)
      simp [be, ubs, ub, List.range_succ]
      omega
    go_ret
    exact ⟨_, rfl, hx.out⟩
  · have h1 : ((n : Int) / 72057594037927936 / 256 == 0) = true := by simp; omega
    go_enter Tryd.func87, Tryd.ntmps87
    go_wp2_with (first | (go_at_call 149; refine (isSize_any _ _).mono ?_; rintro e w' ⟨rfl, rfl⟩))
    refine wp_loop_rounds 9 ?_
    repeat (rw [rounds_succ]; go_wp2_with (go_at_call 88; refine (HR.out _ _ _ ?c1 ?c2).mono ?_; rotate_right; rintro e w' ⟨x, rfl, hx⟩; replace hx := hid hx))
    case c1 => exact (Fr.refl _ _).alloc _
    case c2 =>
      refine Rd.of_drop (At.new _ _ _) 0 ?_ (by simp)
      simp [be, ubs, ub, List.range_succ]
      omega
    go_ret
    exact ⟨_, rfl, hx.out⟩

set_option maxRecDepth 100000 in
/-- A number that has no size, or does not fit: the error alone. -/
theorem num_off (r : Value) (n : Nat) (hn : n < 18446744073709551616) (s : Int) (hs : ∀ k : Nat, Sz k → s = k → 256 ^ k ≤ n) (w : World) (Q : Value → World → Prop)
    (href : Calls Tryd.prog 150 #[r, errV 1] w fun e w' => ∃ x, e = .returned x ∧ Q x w') :
    Calls Tryd.prog 87 #[r, .int .u64 n, .int .i64 s] w fun e w' => ∃ x, e = .returned x ∧ Q x w' := by
  have HR := hid href
  clear href
  have h1 := hs 1 (.inl rfl)
  have h2 := hs 2 (.inr (.inl rfl))
  have h4 := hs 4 (.inr (.inr (.inl rfl)))
  have h8 := hs 8 (.inr (.inr (.inr rfl)))
  clear hs
  by_cases e1 : s = 1
  · subst e1
    have h := h1 rfl
    have hd : ((n : Int) / 256 != 0) = true := by simp; omega
    clear h1 h2 h4 h8 h
    go_enter Tryd.func87, Tryd.ntmps87
    go_wp2_with (first | (go_at_call 149; refine (isSize_any _ _).mono ?_; rintro e w' ⟨rfl, rfl⟩) | (go_at_call 150; refine HR.out.mono ?_; rintro e w' ⟨x, rfl, hx⟩; replace hx := hid hx))
    go_ret
    exact ⟨_, rfl, hx.out⟩
  by_cases e2 : s = 2
  · subst e2
    have h := h2 rfl
    have hd : ((n : Int) / 256 / 256 != 0) = true := by simp; omega
    clear h1 h2 h4 h8 h
    go_enter Tryd.func87, Tryd.ntmps87
    go_wp2_with (first | (go_at_call 149; refine (isSize_any _ _).mono ?_; rintro e w' ⟨rfl, rfl⟩) | (go_at_call 150; refine HR.out.mono ?_; rintro e w' ⟨x, rfl, hx⟩; replace hx := hid hx))
    go_ret
    exact ⟨_, rfl, hx.out⟩
  by_cases e4 : s = 4
  · subst e4
    have h := h4 rfl
    have hd : ((n : Int) / 16777216 / 256 != 0) = true := by simp; omega
    clear h1 h2 h4 h8 h
    go_enter Tryd.func87, Tryd.ntmps87
    go_wp2_with (first | (go_at_call 149; refine (isSize_any _ _).mono ?_; rintro e w' ⟨rfl, rfl⟩) | (go_at_call 150; refine HR.out.mono ?_; rintro e w' ⟨x, rfl, hx⟩; replace hx := hid hx))
    go_ret
    exact ⟨_, rfl, hx.out⟩
  by_cases e8 : s = 8
  · have := h8 e8
    omega
  have hz : decide (s = 1 ∨ s = 2 ∨ s = 4 ∨ s = 8) = false := by simp [e1, e2, e4, e8]
  have hc : Hid _ := hid (isSize_any s)
  rw [hz] at hc
  clear hz h1 h2 h4 h8 e1 e2 e4 e8
  go_enter Tryd.func87, Tryd.ntmps87
  go_wp2_with (first | (go_at_call 149; refine (hc.out _).mono ?_; rintro e w' ⟨rfl, rfl⟩) | (go_at_call 150; refine HR.out.mono ?_; rintro e w' ⟨x, rfl, hx⟩; replace hx := hid hx))
  go_ret
  exact ⟨_, rfl, hx.out⟩

/-- What a writer's method leaves: itself; its bytes and its error are known; nothing but its box and its row has turned. -/
def WOut (base p k' : Nat) (bs' : List UInt8) (v : Value) (w : World) (x : Value) (w' : World) : Prop :=
  x = .pointer (some ⟨p, 0, none⟩) ∧ ∃ v', WI w' base p k' v' bs' ∧ Fr (Wt p v) w w' ∧ (v'.ownBlock = v.ownBlock ∨ ∀ g, v'.ownBlock = some g → w.heap.size ≤ g)
/-- Bytes are appended where there is no error yet. -/
def wput (k : Nat) (bs xs : List UInt8) : List UInt8 := if k = 0 then bs ++ xs else bs

theorem WOut.from {base p k' : Nat} {bs' : List UInt8} {v x : Value} {w w1 w' : World} (hf : Fr (fun _ => False) w w1) (h : WOut base p k' bs' v w1 x w') : WOut base p k' bs' v w x w' := by
  obtain ⟨rfl, v', h1, h2, h3⟩ := h
  refine ⟨rfl, v', h1, (hf.mono (fun _ _ h => h.elim)).trans h2, h3.imp id (fun h g hg => ?_)⟩
  have := h g hg
  have := hf.size
  omega
theorem WI.keep {w w' : World} {S : Nat → Prop} {base p k : Nat} {v : Value} {bs : List UInt8} (h : WI w base p k v bs) (hf : Fr S w w') (hn : ∀ g, Wt p v g → ¬ S g) : WI w' base p k v bs :=
  ⟨h.at_.fr hf (hn p (.inl rfl)), own_fr h.own hf (fun g hg => hn g (.inr hg)), h.low⟩

theorem raw_any (base p k : Nat) (v : Value) (bs xs : List UInt8) (A : Option Addr) (c : Nat) (w : World) (h : WI w base p k v bs) (hx : Rb w w.heap.size A xs) (hb : base ≤ w.heap.size) (hl : bs.length + xs.length ≤ 1000000000) :
    Calls Tryd.prog 88 #[.pointer (some ⟨p, 0, none⟩), .slice A xs.length c] w fun e w' => ∃ x, e = .returned x ∧ WOut base p k (wput k bs xs) v w x w' := by
  by_cases hk : k = 0
  · subst hk
    refine (raw_good base p v bs xs A c w h hx hb hl).mono fun e w' ⟨he, v', h1, h2, h3⟩ => ⟨_, he, rfl, v', h1, h2, h3.imp id (fun h g hg => ?_)⟩
    rw [h] at hg
    injection hg with hg
    omega
  · refine (raw_bad base p k v bs w hk h _).mono fun e w' ⟨he, hw⟩ => ⟨_, he, ?_⟩
    subst hw
    rw [wput, if_neg hk]
    exact ⟨rfl, v, h, Fr.refl _ _, .inl rfl⟩
theorem refuse_out (base p k : Nat) (v : Value) (bs : List UInt8) (w : World) (c : Nat) (hc : c ≠ 0) (h : WI w base p k v bs) :
    Calls Tryd.prog 150 #[.pointer (some ⟨p, 0, none⟩), errV c] w fun e w' => ∃ x, e = .returned x ∧ WOut base p (werr k c) [] v w x w' :=
  (refuse_any base p k v bs w c hc h).mono fun e w' ⟨he, h1, h2⟩ => ⟨_, he, rfl, _, h1, h2, .inr (fun g hg => by simp [Value.ownBlock] at hg)⟩

/-- The number fits. -/
theorem num_fit (base p k : Nat) (v : Value) (bs : List UInt8) (n s : Nat) (hs : Sz s) (hn : n < 256 ^ s) (w : World) (h : WI w base p k v bs) (hb : base ≤ w.heap.size) (hl : bs.length ≤ 900000000) :
    Calls Tryd.prog 87 #[.pointer (some ⟨p, 0, none⟩), .int .u64 n, .int .i64 s] w fun e w' => ∃ x, e = .returned x ∧ WOut base p k (wput k bs (be n s)) v w x w' := by
  refine num_walk _ n s hs hn w _ fun w1 A c hf hA => ?_
  refine (raw_any base p k v bs (be n s) A c w1 (h.keep hf (fun _ _ => id)) hA (Nat.le_trans hb hf.size) ?_).mono fun e w' ⟨x, he, ho⟩ => ⟨x, he, ho.from hf⟩
  rw [be_length]
  rcases hs with rfl | rfl | rfl | rfl <;> omega
/-- It does not. -/
theorem num_unfit (base p k : Nat) (v : Value) (bs : List UInt8) (n : Nat) (hn : n < 18446744073709551616) (s : Int) (hs : ∀ k : Nat, Sz k → s = k → 256 ^ k ≤ n) (w : World) (h : WI w base p k v bs) :
    Calls Tryd.prog 87 #[.pointer (some ⟨p, 0, none⟩), .int .u64 n, .int .i64 s] w fun e w' => ∃ x, e = .returned x ∧ WOut base p (werr k 1) [] v w x w' :=
  num_off _ n hn s hs w _ (refuse_out base p k v bs w 1 (by decide) h)
end Go.Proofs.YtfmbpdjcoopaeaaDoor

namespace Go.Proofs.YtfmbpdjcoopaeaaDoor
open Go.RowKit

/-- slices.Clone: new memory, the same bytes. -/
def CloneOut (bs : List UInt8) (w : World) (x : Value) (w' : World) : Prop := Ow w' w.heap.size x bs ∧ Below w.heap.size w w'

set_option maxRecDepth 100000 in
set_option maxHeartbeats 400000 in
theorem clone_any (bs : List UInt8) (A : Option Addr) (c : Nat) (w : World) (hx : Rb w w.heap.size A bs) (hl : bs.length ≤ 1000000000) :
    Calls Tryd.prog 128 #[.slice A bs.length c] w fun e w' => ∃ x, e = .returned x ∧ CloneOut bs w x w' := by
  have HX := hid hx
  clear hx
  obtain ⟨i0, hi, hz0, hz1, hz2⟩ := info_parts infoB
  rcases A with _ | a
  · have hb : bs = [] := by
      rcases bs with _ | ⟨y, ys⟩
      · rfl
      · obtain ⟨_, _, h, _⟩ := HX.out (by simp [ubs])
        cases h
    subst hb
    clear HX
    have hq := fun w' : World => Lib.run_eql_slice_nil (P := Tryd.prog) w' 22 5 none 0 c 0 0 Tryd.underlying22
    go_enter Tryd.func128, Tryd.ntmps128
    go_wp2
    go_ret
    exact ⟨_, rfl, World.ownsRow_nil _ _ _ _, Below.refl _ _⟩
  · have hq := fun w' : World => Lib.run_eql_slice_nil (P := Tryd.prog) w' 22 5 (some a) bs.length c 0 0 Tryd.underlying22
    have HO : Hid ((w.alloc (.cells #[] 5)).ownsRow w.heap.size 5 1 (.slice (some ⟨w.heap.size, 0, none⟩) 0 0) 0 []) := hid (World.ownsRow_made w #[] 0 (Nat.le_refl _) (by simp [maxLen]) rfl)
    go_enter Tryd.func128, Tryd.ntmps128
    go_wp2_with (at_builtin; refine wpList_append_rd rfl (.tmp 5) (.tmp 6) _ rfl w.heap.size 5 i0 (.int .u8 0) 1 Tryd.underlying22 hi hz0 hz1 hz2 rfl _ 0 [] rfl HO.out w.heap.size (some a) bs.length c (ubs bs) rfl (ubs_length _) (HX.out.alloc _) (ubs_one _) (by unfold maxLen; omega) (by omega) (by simp) ?_; intro v' w1 hown hgr hat; replace hown := hid hown; replace hgr := hid hgr; replace hat := hid hat)
    go_ret
    refine ⟨_, rfl, ?_, ((Below.refl _ _).alloc (Nat.le_refl _) _).grown hgr.out (by simp) (fun k hk => by cases hk; exact Nat.le_refl _)⟩
    have := hown.out
    rw [Nat.zero_add, List.nil_append] at this
    exact this

/-- Flag. -/
theorem be_one (n : Nat) : be n 1 = [UInt8.ofNat n] := by simp [be, List.range_succ]
end Go.Proofs.YtfmbpdjcoopaeaaDoor

namespace Go.Proofs.YtfmbpdjcoopaeaaDoor
open Go.RowKit

/-- A hash as a value. -/
def hv (h : List UInt8) : Value := .agg (ubs h).toArray
set_option maxRecDepth 100000 in
set_option maxHeartbeats 400000 in
theorem hash_any (base p k : Nat) (v : Value) (bs h : List UInt8) (hh : h.length = 32) (w : World) (hw : WI w base p k v bs) (hb : base ≤ w.heap.size) (hl : bs.length ≤ 900000000) :
    Calls Tryd.prog 215 #[.pointer (some ⟨p, 0, none⟩), hv h] w fun e w' => ∃ x, e = .returned x ∧ WOut base p k (wput k bs h) v w x w' := by
  have hf : Fr (fun _ => False) w (w.alloc (.cells (ubs h).toArray 25)) := (Fr.refl _ _).alloc _
  have HC := raw_any base p k v bs h (some ⟨w.heap.size, 0, none⟩) 32 (w.alloc (.cells (ubs h).toArray 25)) (hw.keep hf (fun _ _ => id)) (Rd.of_drop (At.new _ _ _) 0 (by simp) (by simp)) (by simp; omega) (by omega)
  rw [hh] at HC
  replace HC := hid HC
  have HF := hid hf
  clear hw hb hf
  unfold hv
  go_enter Tryd.func215, Tryd.ntmps215
  go_wp2_with (go_at_call 88; refine HC.out.mono ?_; rintro e w' ⟨x, rfl, hx⟩; replace hx := hid hx)
  go_ret
  exact ⟨_, rfl, hx.out.from HF.out⟩

set_option maxRecDepth 100000 in
/-- Done: the bytes anew, or the error. -/
theorem done_bad (base p k : Nat) (v : Value) (bs : List UInt8) (hk : k ≠ 0) (w : World) (hw : WI w base p k v bs) :
    Calls Tryd.prog 89 #[.pointer (some ⟨p, 0, none⟩)] w fun e w' => e = .returned (.tuple #[.slice none 0 0, errV k]) ∧ ∃ n, w' = w.drewN n := by
  have c0 := hw.at_.cell 0
  simp at c0
  have e := errV_pos hk
  rw [e] at c0 ⊢
  clear hw hk e
  go_enter Tryd.func89, Tryd.ntmps89
  go_wp2
  go_quiet (fail)
  go_wp2
  go_ret2
  exact ⟨rfl, _, rfl⟩
set_option maxRecDepth 100000 in
theorem done_good (base p : Nat) (v : Value) (bs : List UInt8) (w : World) (hw : WI w base p 0 v bs) (hl : bs.length ≤ 1000000000) :
    Calls Tryd.prog 89 #[.pointer (some ⟨p, 0, none⟩)] w fun e w' => ∃ x, e = .returned (.tuple #[x, errV 0]) ∧ CloneOut bs w x w' := by
  have c0 := hw.at_.cell 0
  have c1 := hw.at_.cell 1
  simp at c0 c1
  obtain ⟨A, c, rfl, hc, hm, hn, hA⟩ := own_form hw.own
  rw [errV_zero] at c0 ⊢
  have HC := hid (clone_any bs A c w (Rd.of_own hw.own) hl)
  clear hw hn hA
  go_enter Tryd.func89, Tryd.ntmps89
  go_wp2_with (go_at_call 128; refine HC.out.mono ?_; rintro e w' ⟨x, rfl, hx⟩; replace hx := hid hx)
  go_ret2
  exact ⟨_, rfl, hx.out⟩
end Go.Proofs.YtfmbpdjcoopaeaaDoor

namespace Go.Proofs.YtfmbpdjcoopaeaaDoor
open Go.RowKit

end Go.Proofs.YtfmbpdjcoopaeaaDoor

namespace Go.Proofs.YtfmbpdjcoopaeaaDoor
open Go.RowKit

/-- A reader behind p: its error's number, what is left. -/
structure RI (w : World) (base : Nat → Prop) (p k : Nat) (A : Option Addr) (c : Nat) (bs : List UInt8) : Prop where
  at_ : At w p #[errV k, .slice A bs.length c] 202
  cap : bs.length ≤ c
  rd : Rb w w.heap.size A bs
  far : ∀ b o, A = some ⟨b, o, none⟩ → base b ∧ b ≠ p ∧ b < w.heap.size
  plain : ∀ a, A = some a → a.spot = none
  low : base p
  done : k ≠ 0 → bs = []
/-- A reader without its slice's place. -/
def RS (w : World) (base : Nat → Prop) (p k : Nat) (bs : List UInt8) : Prop := ∃ A c, RI w base p k A c bs
/-- What a reader's call may touch: its box. -/
def Only (p : Nat) (k : Nat) : Prop := k = p

end Go.Proofs.YtfmbpdjcoopaeaaDoor

namespace Go.Proofs.YtfmbpdjcoopaeaaDoor
open Go.RowKit

/-- Raw. -/
def RawOut (base : Nat → Prop) (p k' : Nat) (xs bs' : List UInt8) (w : World) (x : Value) (w' : World) : Prop :=
  Ow w' w.heap.size x xs ∧ RS w' base p k' bs' ∧ Fr (Only p) w w'
theorem RS.fr {w w' : World} {base : Nat → Prop} {p k : Nat} {bs : List UInt8} {S : Nat → Prop} (h : RS w base p k bs) (hf : Fr S w w') (hn : ∀ g, base g → ¬ S g) : RS w' base p k bs := by
  obtain ⟨A, c, h⟩ := h
  exact ⟨A, c, ⟨h.at_.fr hf (hn _ h.low), h.cap, (h.rd.fr hf (fun b o e => hn _ (h.far b o e).1)).lt, (fun b o e => ⟨(h.far b o e).1, (h.far b o e).2.1, Nat.lt_of_lt_of_le (h.far b o e).2.2 hf.size⟩), h.plain, h.low, h.done⟩⟩
theorem RS.mono {w : World} {base base' : Nat → Prop} {p k : Nat} {bs : List UInt8} (h : RS w base p k bs) (hb : ∀ g, base g → base' g) : RS w base' p k bs := by
  obtain ⟨A, c, h⟩ := h
  exact ⟨A, c, ⟨h.at_, h.cap, h.rd, (fun b o e => ⟨hb _ (h.far b o e).1, (h.far b o e).2⟩), h.plain, hb _ h.low, h.done⟩⟩
theorem RS.lt {w : World} {base : Nat → Prop} {p k : Nat} {bs : List UInt8} (h : RS w base p k bs) : p < w.heap.size := by
  obtain ⟨_, _, h⟩ := h
  exact h.at_.lt
theorem RS.new {w w' : World} {base : Nat → Prop} {p k : Nat} {bs : List UInt8} (h : RS w base p k bs) (hf : Below w.heap.size w w') : RS w' base p k bs :=
  h.fr (Fr.of_new (S := fun _ => False) hf) (fun _ _ => id)
/-- The value of bytes, the highest first. -/
def val (bs : List UInt8) : Nat := bs.foldl (fun n b => n * 256 + b.toNat) 0
end Go.Proofs.YtfmbpdjcoopaeaaDoor

namespace Go.Proofs.YtfmbpdjcoopaeaaDoor
open Go.RowKit

theorem RawOut.after {base : Nat → Prop} {p k2 : Nat} {xs bs1 : List UInt8} {w w1 w2 : World} {x : Value} (hf : Fr (Only p) w w1) (h : RawOut base p k2 xs bs1 w1 x w2) : RawOut base p k2 xs bs1 w x w2 := by
  obtain ⟨h1, h2, h3⟩ := h
  refine ⟨own_mono h1 (fun g hg => ?_), h2, hf.trans h3⟩
  have := (World.ownsRow.lt h1) g hg
  have := hf.size
  omega
end Go.Proofs.YtfmbpdjcoopaeaaDoor

namespace Go.Proofs.YtfmbpdjcoopaeaaDoor
open Go.RowKit

end Go.Proofs.YtfmbpdjcoopaeaaDoor
