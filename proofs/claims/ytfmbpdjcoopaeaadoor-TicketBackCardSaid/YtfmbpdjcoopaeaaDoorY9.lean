/-
  The contracts of the writer's methods (package octets): each call behaves as its chapter says.
  More contracts of the writer's methods: Bytes, Flag, Hash, Done; a byte slice's clone.
  Contracts of the writer's methods Hash and Done; the statement's own function 'hash'.
  The statement's own function 'hash': bytes as a hash, as far as there are.
  The contracts of the reader's methods (package octets): each call behaves as its chapter says.
  More contracts of the reader's methods: From, Num, Raw, Bytes, Flag, Left, End.
  More contracts of the reader's methods: Bytes, Hash.
  The contract of the reader's method Hash.
-/
import Derived.Test.YtfmbpdjcoopaeaaDoorRows
import Derived.Test.YtfmbpdjcoopaeaaDoorY1
import Derived.Deep.QuietTactic
import Derived.BigQuiet
import Derived.Laws.CopyOwn
import Derived.Test.YtfmbpdjcoopaeaaDoorY3
import Derived.Deep.RegionLaw
import Derived.RegionTactic
namespace Go.Proofs.YtfmbpdjcoopaeaaDoor
open Go.RowKit

/-- An error of package api by its number; 0: none. -/
def errV (k : Nat) : Value := if k = 0 then .nilIface else .iface 49 (.int .i64 (k : Int))
theorem errV_zero : errV 0 = .nilIface := rfl
theorem errV_pos {k : Nat} (h : k ≠ 0) : errV k = .iface 49 (.int .i64 (k : Int)) := by simp [errV, h]

set_option maxRecDepth 100000 in
theorem isSize_any (n : Int) (w : World) : Calls Tryd.prog 149 #[.int .i64 n] w fun e w' => e = .returned (.bool (decide (n = 1 ∨ n = 2 ∨ n = 4 ∨ n = 8))) ∧ w = w' := by
  go_enter Tryd.func149, Tryd.ntmps149
  go_wp2
  all_goals go_ret
  all_goals refine ⟨?_, rfl⟩
  all_goals first | (simp_all; done) | (simp_all; exact Bool.eq_iff_iff.2 (by simp_all))

/-- The first error stays. -/
def werr (k c : Nat) : Nat := if k = 0 then c else k

/-- A writer behind p: its error's number, its slice, which the call owns and which reads as bs. -/
structure WI (w : World) (base p k : Nat) (v : Value) (bs : List UInt8) : Prop where
  at_ : At w p #[errV k, v] 154
  own : Ow w base v bs
  low : base ≤ p

/-- What a writer's call may touch: its box, its row. -/
def Wt (p : Nat) (v : Value) (k : Nat) : Prop := k = p ∨ v.ownBlock = some k

set_option maxRecDepth 100000 in
/-- There is an error: nothing turns. -/
theorem raw_bad (base p k : Nat) (v : Value) (bs : List UInt8) (w : World) (hk : k ≠ 0) (h : WI w base p k v bs) (x : Value) :
    Calls Tryd.prog 88 #[.pointer (some ⟨p, 0, none⟩), x] w fun e w' => e = .returned (.pointer (some ⟨p, 0, none⟩)) ∧ w = w' := by
  have c0 := h.at_.cell 0
  simp at c0
  rw [errV_pos hk] at c0
  clear h hk
  go_enter Tryd.func88, Tryd.ntmps88
  go_wp2
  go_ret
  exact ⟨rfl, rfl⟩
set_option maxRecDepth 100000 in
set_option maxHeartbeats 400000 in
theorem raw_good (base p : Nat) (v : Value) (bs xs : List UInt8) (A : Option Addr) (c : Nat) (w : World) (h : WI w base p 0 v bs) (hx : Rb w w.heap.size A xs) (hb : base ≤ w.heap.size) (hl : bs.length + xs.length ≤ 1000000000) :
    Calls Tryd.prog 88 #[.pointer (some ⟨p, 0, none⟩), .slice A xs.length c] w fun e w' => e = .returned (.pointer (some ⟨p, 0, none⟩)) ∧
      ∃ v', WI w' base p 0 v' (bs ++ xs) ∧ Fr (Wt p v) w w' ∧ (v'.ownBlock = v.ownBlock ∨ v'.ownBlock = some w.heap.size) := by
  have c0 := h.at_.cell 0
  have c1 := h.at_.cell 1
  have f0 := h.at_.frozen 0
  have f1 := h.at_.frozen 1
  simp at c0 c1
  rw [errV_zero] at c0
  have H := hid h
  have HX := hid hx
  clear h hx
  obtain ⟨i0, hi, hz0, hz1, hz2⟩ := info_parts infoB
  go_enter Tryd.func88, Tryd.ntmps88
  have hne : some p ≠ v.ownBlock := fun e => own_ne_at H.out.own H.out.at_ (by decide) e.symm
  have HN := hid hne
  clear hne
  go_wp2_with (at_builtin; refine wpList_append_rd rfl (.tmp 19) (.tmp 20) _ rfl base 5 i0 (.int .u8 0) 1 Tryd.underlying22 hi hz0 hz1 hz2 rfl v bs.length (ubs bs) rfl H.out.own w.heap.size A xs.length c (ubs xs) rfl (ubs_length _) HX.out (ubs_one _) (by unfold maxLen; omega) (by omega) hb ?_; intro v' w1 hown hgr hat; obtain ⟨A', c', rfl, -⟩ := own_form hown; have HF : Hid (Fr (Wt p v) w w1) := hid ((Fr.refl _ _).grown hgr (fun k hk => .inr (.inr hk))); have HA : Hid (At w1 p #[errV 0, v] 154) := hid ((hgr.block p H.out.at_.lt HN.out).trans H.out.at_); have HO := hid hown; have HT := hid hat; clear hown hgr hat; have c0' := HA.out.cell 0; have c1' := HA.out.cell 1; have f1' := HA.out.frozen 1; simp at c0' c1')
  go_ret
  refine ⟨rfl, _, ⟨HA.out.put 1 _, ?_, H.out.low⟩, HF.out.setCell (.inr (.inl rfl)) _, HT.out⟩
  have := own_far HO.out (p := ⟨p, 1, none⟩) (own_ne_at HO.out HA.out (by decide)) (.slice A' (bs.length + xs.length) c')
  unfold Ow
  rw [ubs_append, List.length_append]
  exact this

/-- A number's bytes, the highest first. -/
def be (n size : Nat) : List UInt8 := (List.range size).map fun i => UInt8.ofNat (n / 256 ^ (size - 1 - i))
theorem be_length (n size : Nat) : (be n size).length = size := by simp [be]
def Sz (s : Nat) : Prop := s = 1 ∨ s = 2 ∨ s = 4 ∨ s = 8

set_option maxRecDepth 100000 in
set_option maxHeartbeats 1600000 in
theorem num_walk (r : Value) (n s : Nat) (hs : Sz s) (hn : n < 256 ^ s) (w : World) (Q : Value → World → Prop)
    (hraw : ∀ w1 A c, Fr (fun _ => False) w w1 → Rb w1 w1.heap.size A (be n s) → Calls Tryd.prog 88 #[r, .slice A (be n s).length c] w1 fun e w' => ∃ x, e = .returned x ∧ Q x w') :
    Calls Tryd.prog 87 #[r, .int .u64 n, .int .i64 s] w fun e w' => ∃ x, e = .returned x ∧ Q x w' := by
  simp only [be_length] at hraw
  have HR := hid hraw
  clear hraw
  rcases hs with rfl | rfl | rfl | rfl
  · have h1 : ((n : Int) / 256 == 0) = true := by simp; omega
    go_enter Tryd.func87, Tryd.ntmps87
    go_wp2_with (first | (go_at_call 149; refine (isSize_any _ _).mono ?_; rintro e w' ⟨rfl, rfl⟩))
    refine wp_loop_rounds 9 ?_
    repeat (rw [rounds_succ]; go_wp2_with (go_at_call 88; refine (HR.out _ _ _ ?c1 ?c2).mono ?_; rotate_right; rintro e w' ⟨x, rfl, hx⟩; replace hx := hid hx))
    case c1 => exact (Fr.refl _ _).alloc _
    case c2 =>
      refine Rd.of_drop (At.new _ _ _) 7 ?_ (by simp)
      simp [be, ubs, ub, List.range_succ]
      omega
    go_ret
    exact ⟨_, rfl, hx.out⟩
  · have h1 : ((n : Int) / 256 / 256 == 0) = true := by simp; omega
    go_enter Tryd.func87, Tryd.ntmps87
    go_wp2_with (first | (go_at_call 149; refine (isSize_any _ _).mono ?_; rintro e w' ⟨rfl, rfl⟩))
    refine wp_loop_rounds 9 ?_
    repeat (rw [rounds_succ]; go_wp2_with (go_at_call 88; refine (HR.out _ _ _ ?c1 ?c2).mono ?_; rotate_right; rintro e w' ⟨x, rfl, hx⟩; replace hx := hid hx))
    case c1 => exact (Fr.refl _ _).alloc _
    case c2 =>
      refine Rd.of_drop (At.new _ _ _) 6 ?_ (by simp)
      simp [be, ubs, ub, List.range_succ]
      omega
    go_ret
    exact ⟨_, rfl, hx.out⟩
  · have h1 : ((n : Int) / 16777216 / 256 == 0) = true := by simp; omega
    go_enter Tryd.func87, Tryd.ntmps87
    go_wp2_with (first | (go_at_call 149; refine (isSize_any _ _).mono ?_; rintro e w' ⟨rfl, rfl⟩))
    refine wp_loop_rounds 9 ?_
    repeat (rw [rounds_succ]; go_wp2_with (go_at_call 88; refine (HR.out _ _ _ ?c1 ?c2).mono ?_; rotate_right; rintro e w' ⟨x, rfl, hx⟩; replace hx := hid hx))
    case c1 => exact (Fr.refl _ _).alloc _
    case c2 =>
      refine Rd.of_drop (At.new _ _ _) 4 ?_ (by simp)
      simp [be, ubs, ub, List.range_succ]
      omega
    go_ret
    exact ⟨_, rfl, hx.out⟩
  · have h1 : ((n : Int) / 72057594037927936 / 256 == 0) = true := by simp; omega
    go_enter Tryd.func87, Tryd.ntmps87
    go_wp2_with (first | (go_at_call 149; refine (isSize_any _ _).mono ?_; rintro e w' ⟨rfl, rfl⟩))
    refine wp_loop_rounds 9 ?_
    repeat (rw [rounds_succ]; go_wp2_with (go_at_call 88; refine (HR.out _ _ _ ?c1 ?c2).mono ?_; rotate_right; rintro e w' ⟨x, rfl, hx⟩; replace hx := hid hx))
    case c1 => exact (Fr.refl _ _).alloc _
    case c2 =>
      refine Rd.of_drop (At.new _ _ _) 0 ?_ (by simp)
      simp [be, ubs, ub, List.range_succ]
      omega
    go_ret
    exact ⟨_, rfl, hx.out⟩

/-- What a writer's method leaves: itself; its bytes and its error are known; nothing but its box and its row has turned. -/
def WOut (base p k' : Nat) (bs' : List UInt8) (v : Value) (w : World) (x : Value) (w' : World) : Prop :=
  x = .pointer (some ⟨p, 0, none⟩) ∧ ∃ v', WI w' base p k' v' bs' ∧ Fr (Wt p v) w w' ∧ (v'.ownBlock = v.ownBlock ∨ ∀ g, v'.ownBlock = some g → w.heap.size ≤ g)
/-- Bytes are appended where there is no error yet. -/
def wput (k : Nat) (bs xs : List UInt8) : List UInt8 := if k = 0 then bs ++ xs else bs

theorem WOut.from {base p k' : Nat} {bs' : List UInt8} {v x : Value} {w w1 w' : World} (hf : Fr (fun _ => False) w w1) (h : WOut base p k' bs' v w1 x w') : WOut base p k' bs' v w x w' := by
  obtain ⟨rfl, v', h1, h2, h3⟩ := h
  refine ⟨rfl, v', h1, (hf.mono (fun _ _ h => h.elim)).trans h2, h3.imp id (fun h g hg => ?_)⟩
  have := h g hg
  have := hf.size
  omega
theorem WI.keep {w w' : World} {S : Nat → Prop} {base p k : Nat} {v : Value} {bs : List UInt8} (h : WI w base p k v bs) (hf : Fr S w w') (hn : ∀ g, Wt p v g → ¬ S g) : WI w' base p k v bs :=
  ⟨h.at_.fr hf (hn p (.inl rfl)), own_fr h.own hf (fun g hg => hn g (.inr hg)), h.low⟩

theorem raw_any (base p k : Nat) (v : Value) (bs xs : List UInt8) (A : Option Addr) (c : Nat) (w : World) (h : WI w base p k v bs) (hx : Rb w w.heap.size A xs) (hb : base ≤ w.heap.size) (hl : bs.length + xs.length ≤ 1000000000) :
    Calls Tryd.prog 88 #[.pointer (some ⟨p, 0, none⟩), .slice A xs.length c] w fun e w' => ∃ x, e = .returned x ∧ WOut base p k (wput k bs xs) v w x w' := by
  by_cases hk : k = 0
  · subst hk
    refine (raw_good base p v bs xs A c w h hx hb hl).mono fun e w' ⟨he, v', h1, h2, h3⟩ => ⟨_, he, rfl, v', h1, h2, h3.imp id (fun h g hg => ?_)⟩
    rw [h] at hg
    injection hg with hg
    omega
  · refine (raw_bad base p k v bs w hk h _).mono fun e w' ⟨he, hw⟩ => ⟨_, he, ?_⟩
    subst hw
    rw [wput, if_neg hk]
    exact ⟨rfl, v, h, Fr.refl _ _, .inl rfl⟩
/-- The number fits. -/
theorem num_fit (base p k : Nat) (v : Value) (bs : List UInt8) (n s : Nat) (hs : Sz s) (hn : n < 256 ^ s) (w : World) (h : WI w base p k v bs) (hb : base ≤ w.heap.size) (hl : bs.length ≤ 900000000) :
    Calls Tryd.prog 87 #[.pointer (some ⟨p, 0, none⟩), .int .u64 n, .int .i64 s] w fun e w' => ∃ x, e = .returned x ∧ WOut base p k (wput k bs (be n s)) v w x w' := by
  refine num_walk _ n s hs hn w _ fun w1 A c hf hA => ?_
  refine (raw_any base p k v bs (be n s) A c w1 (h.keep hf (fun _ _ => id)) hA (Nat.le_trans hb hf.size) ?_).mono fun e w' ⟨x, he, ho⟩ => ⟨x, he, ho.from hf⟩
  rw [be_length]
  rcases hs with rfl | rfl | rfl | rfl <;> omega
end Go.Proofs.YtfmbpdjcoopaeaaDoor

namespace Go.Proofs.YtfmbpdjcoopaeaaDoor
open Go.RowKit

/-- slices.Clone: new memory, the same bytes. -/
def CloneOut (bs : List UInt8) (w : World) (x : Value) (w' : World) : Prop := Ow w' w.heap.size x bs ∧ Below w.heap.size w w'

set_option maxRecDepth 100000 in
set_option maxHeartbeats 400000 in
theorem clone_any (bs : List UInt8) (A : Option Addr) (c : Nat) (w : World) (hx : Rb w w.heap.size A bs) (hl : bs.length ≤ 1000000000) :
    Calls Tryd.prog 128 #[.slice A bs.length c] w fun e w' => ∃ x, e = .returned x ∧ CloneOut bs w x w' := by
  have HX := hid hx
  clear hx
  obtain ⟨i0, hi, hz0, hz1, hz2⟩ := info_parts infoB
  rcases A with _ | a
  · have hb : bs = [] := by
      rcases bs with _ | ⟨y, ys⟩
      · rfl
      · obtain ⟨_, _, h, _⟩ := HX.out (by simp [ubs])
        cases h
    subst hb
    clear HX
    have hq := fun w' : World => Lib.run_eql_slice_nil (P := Tryd.prog) w' 22 5 none 0 c 0 0 Tryd.underlying22
    go_enter Tryd.func128, Tryd.ntmps128
    go_wp2
    go_ret
    exact ⟨_, rfl, World.ownsRow_nil _ _ _ _, Below.refl _ _⟩
  · have hq := fun w' : World => Lib.run_eql_slice_nil (P := Tryd.prog) w' 22 5 (some a) bs.length c 0 0 Tryd.underlying22
    have HO : Hid ((w.alloc (.cells #[] 5)).ownsRow w.heap.size 5 1 (.slice (some ⟨w.heap.size, 0, none⟩) 0 0) 0 []) := hid (World.ownsRow_made w #[] 0 (Nat.le_refl _) (by simp [maxLen]) rfl)
    go_enter Tryd.func128, Tryd.ntmps128
    go_wp2_with (at_builtin; refine wpList_append_rd rfl (.tmp 5) (.tmp 6) _ rfl w.heap.size 5 i0 (.int .u8 0) 1 Tryd.underlying22 hi hz0 hz1 hz2 rfl _ 0 [] rfl HO.out w.heap.size (some a) bs.length c (ubs bs) rfl (ubs_length _) (HX.out.alloc _) (ubs_one _) (by unfold maxLen; omega) (by omega) (by simp) ?_; intro v' w1 hown hgr hat; replace hown := hid hown; replace hgr := hid hgr; replace hat := hid hat)
    go_ret
    refine ⟨_, rfl, ?_, ((Below.refl _ _).alloc (Nat.le_refl _) _).grown hgr.out (by simp) (fun k hk => by cases hk; exact Nat.le_refl _)⟩
    have := hown.out
    rw [Nat.zero_add, List.nil_append] at this
    exact this

end Go.Proofs.YtfmbpdjcoopaeaaDoor

namespace Go.Proofs.YtfmbpdjcoopaeaaDoor
open Go.RowKit

/-- A hash as a value. -/
def hv (h : List UInt8) : Value := .agg (ubs h).toArray
set_option maxRecDepth 100000 in
theorem done_good (base p : Nat) (v : Value) (bs : List UInt8) (w : World) (hw : WI w base p 0 v bs) (hl : bs.length ≤ 1000000000) :
    Calls Tryd.prog 89 #[.pointer (some ⟨p, 0, none⟩)] w fun e w' => ∃ x, e = .returned (.tuple #[x, errV 0]) ∧ CloneOut bs w x w' := by
  have c0 := hw.at_.cell 0
  have c1 := hw.at_.cell 1
  simp at c0 c1
  obtain ⟨A, c, rfl, hc, hm, hn, hA⟩ := own_form hw.own
  rw [errV_zero] at c0 ⊢
  have HC := hid (clone_any bs A c w (Rd.of_own hw.own) hl)
  clear hw hn hA
  go_enter Tryd.func89, Tryd.ntmps89
  go_wp2_with (go_at_call 128; refine HC.out.mono ?_; rintro e w' ⟨x, rfl, hx⟩; replace hx := hid hx)
  go_ret2
  exact ⟨_, rfl, hx.out⟩
end Go.Proofs.YtfmbpdjcoopaeaaDoor

namespace Go.Proofs.YtfmbpdjcoopaeaaDoor
open Go.RowKit

end Go.Proofs.YtfmbpdjcoopaeaaDoor

namespace Go.Proofs.YtfmbpdjcoopaeaaDoor
open Go.RowKit

/-- A reader behind p: its error's number, what is left. -/
structure RI (w : World) (base : Nat → Prop) (p k : Nat) (A : Option Addr) (c : Nat) (bs : List UInt8) : Prop where
  at_ : At w p #[errV k, .slice A bs.length c] 202
  cap : bs.length ≤ c
  rd : Rb w w.heap.size A bs
  far : ∀ b o, A = some ⟨b, o, none⟩ → base b ∧ b ≠ p ∧ b < w.heap.size
  plain : ∀ a, A = some a → a.spot = none
  low : base p
  done : k ≠ 0 → bs = []
/-- A reader without its slice's place. -/
def RS (w : World) (base : Nat → Prop) (p k : Nat) (bs : List UInt8) : Prop := ∃ A c, RI w base p k A c bs
/-- What a reader's call may touch: its box. -/
def Only (p : Nat) (k : Nat) : Prop := k = p

theorem RI.bad {w : World} {base : Nat → Prop} {p k : Nat} (h : At w p #[errV k, .slice none 0 0] 202) (hl : base p) : RS w base p k [] :=
  ⟨none, 0, ⟨h, Nat.le_refl _, Rd.nil _ _ _, fun _ _ h => (by cases h), fun _ h => (by cases h), hl, fun _ => rfl⟩⟩

set_option maxRecDepth 100000 in
/-- Fail with an error. -/
theorem fail_any (base : Nat → Prop) (p k : Nat) (bs : List UInt8) (w : World) (c : Nat) (hc : c ≠ 0) (h : RS w base p k bs) :
    Calls Tryd.prog 132 #[.pointer (some ⟨p, 0, none⟩), errV c] w fun e w' => e = .returned (.tuple #[]) ∧ RS w' base p (werr k c) [] ∧ Fr (Only p) w w' := by
  obtain ⟨A, cc, h⟩ := h
  have c0 := h.at_.cell 0
  have c1 := h.at_.cell 1
  have f0 := h.at_.frozen 0
  have f1 := h.at_.frozen 1
  simp at c0 c1
  have H := hid h
  clear h
  have e : errV c = .iface 49 (.int .i64 (c : Int)) := errV_pos hc
  by_cases hk : k = 0
  · subst hk
    rw [errV_zero] at c0
    rw [e]
    have E := hid e
    clear e
    go_enter Tryd.func132, Tryd.ntmps132
    go_wp2
    go_end0
    refine ⟨rfl, RI.bad ?_ H.out.low, ((Fr.refl (Only p) _).setCell (p := ⟨p, 0, none⟩) (.inr rfl) _).setCell (p := ⟨p, 1, none⟩) (.inr rfl) _⟩
    have := (H.out.at_.put 0 (errV c)).put 1 (.slice none 0 0)
    have hw : werr 0 c = c := if_pos rfl
    rw [hw]
    rw [E.out] at this ⊢
    exact this
  · have hk' := hid hk
    rw [errV_pos hk] at c0
    rw [e]
    have hw : werr k c = k := if_neg hk
    rw [hw]
    clear hk e hw
    go_enter Tryd.func132, Tryd.ntmps132
    go_wp2
    go_end0
    exact ⟨rfl, RI.bad (H.out.at_.put 1 (.slice none 0 0)) H.out.low, (Fr.refl (Only p) _).setCell (p := ⟨p, 1, none⟩) (.inr rfl) _⟩
/-- take: it can't be done. -/
def TakeBad (base : Nat → Prop) (p k : Nat) (w : World) (x : Value) (w' : World) : Prop := x = .slice none 0 0 ∧ RS w' base p (werr k 2) [] ∧ Fr (Only p) w w'
set_option maxRecDepth 100000 in
theorem take_bad (base : Nat → Prop) (p k : Nat) (bs : List UInt8) (n : Int) (w : World) (h : RS w base p k bs) (hn : n < 0 ∨ (bs.length : Int) < n) :
    Calls Tryd.prog 172 #[.pointer (some ⟨p, 0, none⟩), .int .i64 n] w fun e w' => ∃ x, e = .returned x ∧ TakeBad base p k w x w' := by
  have HC := hid (fail_any base p k bs w 2 (by decide) h)
  obtain ⟨A, cc, h⟩ := h
  have c1 := h.at_.cell 1
  simp at c1
  clear h
  rcases hn with hn | hn
  · go_enter Tryd.func172, Tryd.ntmps172
    go_wp2_with (go_at_call 132; refine HC.out.mono ?_; rintro e w' ⟨rfl, hx⟩; replace hx := hid hx)
    go_ret
    exact ⟨_, rfl, rfl, hx.out⟩
  · have h0 : ¬ n < 0 := by omega
    go_enter Tryd.func172, Tryd.ntmps172
    go_wp2_with (go_at_call 132; refine HC.out.mono ?_; rintro e w' ⟨rfl, hx⟩; replace hx := hid hx)
    go_ret
    exact ⟨_, rfl, rfl, hx.out⟩
/-- It can. -/
def TakeOut (base : Nat → Prop) (p k n : Nat) (bs : List UInt8) (w : World) (x : Value) (w' : World) : Prop :=
  ∃ A c, x = .slice A n c ∧ Rb w' w'.heap.size A (bs.take n) ∧ RS w' base p k (bs.drop n) ∧ Fr (Only p) w w'
set_option maxRecDepth 100000 in
theorem take_good (base : Nat → Prop) (p k : Nat) (bs : List UInt8) (n : Nat) (w : World) (h : RS w base p k bs) (hn : n ≤ bs.length) :
    Calls Tryd.prog 172 #[.pointer (some ⟨p, 0, none⟩), .int .i64 n] w fun e w' => ∃ x, e = .returned x ∧ TakeOut base p k n bs w x w' := by
  obtain ⟨A, c, h⟩ := h
  have c1 := h.at_.cell 1
  have f1 := h.at_.frozen 1
  simp at c1
  have hc := h.cap
  have H := hid h
  clear h
  go_enter Tryd.func172, Tryd.ntmps172
  go_wp2
  · go_ret
    refine ⟨_, rfl, A, n, rfl, ?_, ⟨A, 0, ⟨?_, by simp; omega, ?_, (fun b o e => by simpa using H.out.far b o e), H.out.plain, H.out.low, fun hk => by rw [H.out.done hk, List.drop_nil]⟩⟩, (Fr.refl (Only p) _).setCell (p := ⟨p, 1, none⟩) (.inr rfl) _⟩
    · exact (Rd.setCell (rb_take H.out.rd n) (p := ⟨p, 1, none⟩) (fun b o e => (H.out.far b o e).2.1) _).lt
    · rw [List.length_drop]
      exact H.out.at_.put 1 _
    · have : bs.drop n = [] := List.drop_eq_nil_of_le (by omega)
      rw [this]
      exact Rd.nil _ _ _
  · have hcn : ¬ c = n := by assumption
    go_ret
    refine ⟨_, rfl, A, c, rfl, ?_, ⟨A.map (·.add n), c - n, ⟨?_, by simp; omega, ?_, ?_, ?_, H.out.low, fun hk => by rw [H.out.done hk, List.drop_nil]⟩⟩, (Fr.refl (Only p) _).setCell (p := ⟨p, 1, none⟩) (.inr rfl) _⟩
    · exact (Rd.setCell (rb_take H.out.rd n) (p := ⟨p, 1, none⟩) (fun b o e => (H.out.far b o e).2.1) _).lt
    · rw [List.length_drop]
      exact H.out.at_.put 1 _
    · have h1 := rb_drop H.out.rd (n := n) (cap := c) hn hc
      rw [if_neg hcn] at h1
      refine (Rd.setCell h1 (p := ⟨p, 1, none⟩) (fun b o e => ?_) _).lt
      rcases A with _ | ⟨b', o', sp⟩
      · cases e
      · have := H.out.plain _ rfl
        simp only at this
        subst this
        simp only [Option.map_some, add_plain] at e
        cases e
        exact (H.out.far _ _ rfl).2.1
    · intro b o e
      rcases A with _ | ⟨b', o', sp⟩
      · cases e
      · have := H.out.plain _ rfl
        simp only at this
        subst this
        simp only [Option.map_some, add_plain] at e
        cases e
        simpa using H.out.far _ _ rfl
    · intro a e
      rcases A with _ | ⟨b', o', sp⟩
      · cases e
      · have := H.out.plain _ rfl
        simp only at this
        subst this
        simp only [Option.map_some, add_plain] at e
        cases e
        rfl
end Go.Proofs.YtfmbpdjcoopaeaaDoor

namespace Go.Proofs.YtfmbpdjcoopaeaaDoor
open Go.RowKit

def FromOut (bs : List UInt8) (w : World) (p : Nat) (w' : World) : Prop := w.heap.size ≤ p ∧ RS w' (fun g => w.heap.size ≤ g ∧ g < w'.heap.size) p 0 bs ∧ Below w.heap.size w w'
set_option maxRecDepth 100000 in
theorem from_any (bs : List UInt8) (A : Option Addr) (c : Nat) (w : World) (hx : Rb w w.heap.size A bs) (hl : bs.length ≤ 1000000000) :
    Calls Tryd.prog 67 #[.slice A bs.length c] w fun e w' => ∃ p, e = .returned (.pointer (some ⟨p, 0, none⟩)) ∧ FromOut bs w p w' := by
  have HC := hid (clone_any bs A c w hx hl)
  clear hx
  go_enter Tryd.func67, Tryd.ntmps67
  go_wp2_with (go_at_call 128; refine HC.out.mono ?_; rintro e w1 ⟨x, rfl, hx⟩; obtain ⟨A1, c1, rfl, h⟩ := own_form hx.1; replace hx := hid hx; replace h := hid h)
  go_ret
  obtain ⟨hc, hm, hn, -, hA⟩ := h.out
  obtain ⟨ho, hb⟩ := hx.out
  refine ⟨_, rfl, hb.size, ⟨A1, c1, ⟨At.new _ _ _, hc, ((Rd.of_own ho).alloc _).mono (by simp), fun b o e => ?_, fun a e => (hA a e).2.1, ⟨hb.size, by simp⟩, fun h => absurd rfl h⟩⟩, hb.alloc hb.size _⟩
  have := hA _ e
  have h4 := this.2.2.2
  simp only at h4
  exact ⟨⟨this.2.2.1, by simp; omega⟩, by omega, by simp; omega⟩

set_option maxRecDepth 100000 in
/-- Left. -/
theorem left_any (base : Nat → Prop) (p k : Nat) (bs : List UInt8) (w : World) (h : RS w base p k bs) :
    Calls Tryd.prog 69 #[.pointer (some ⟨p, 0, none⟩)] w fun e w' => e = .returned (.int .i64 bs.length) ∧ w = w' := by
  obtain ⟨A, c, h⟩ := h
  have c1 := h.at_.cell 1
  simp at c1
  clear h
  go_enter Tryd.func69, Tryd.ntmps69
  go_wp2
  go_ret
  exact ⟨rfl, rfl⟩
set_option maxRecDepth 100000 in
/-- End. -/
theorem end_more (base : Nat → Prop) (p k : Nat) (bs : List UInt8) (w : World) (h : RS w base p k bs) (hb : 0 < bs.length) :
    Calls Tryd.prog 71 #[.pointer (some ⟨p, 0, none⟩)] w fun e w' => e = .returned (errV 2) ∧ w = w' := by
  obtain ⟨A, c, h⟩ := h
  have c1 := h.at_.cell 1
  simp at c1
  clear h
  go_enter Tryd.func71, Tryd.ntmps71
  go_wp2
  go_ret
  exact ⟨rfl, rfl⟩
set_option maxRecDepth 100000 in
theorem end_done (base : Nat → Prop) (p k : Nat) (w : World) (h : RS w base p k []) :
    Calls Tryd.prog 71 #[.pointer (some ⟨p, 0, none⟩)] w fun e w' => e = .returned (errV k) ∧ w = w' := by
  obtain ⟨A, c, h⟩ := h
  have c1 := h.at_.cell 1
  have c0 := h.at_.cell 0
  simp at c1 c0
  clear h
  by_cases hk : k = 0
  · subst hk
    rw [errV_zero] at c0 ⊢
    go_enter Tryd.func71, Tryd.ntmps71
    go_wp2
    go_ret
    exact ⟨rfl, rfl⟩
  · have e := errV_pos hk
    rw [e] at c0 ⊢
    clear hk e
    go_enter Tryd.func71, Tryd.ntmps71
    go_wp2
    go_ret
    exact ⟨rfl, rfl⟩
/-- Raw. -/
def RawOut (base : Nat → Prop) (p k' : Nat) (xs bs' : List UInt8) (w : World) (x : Value) (w' : World) : Prop :=
  Ow w' w.heap.size x xs ∧ RS w' base p k' bs' ∧ Fr (Only p) w w'
theorem RS.fr {w w' : World} {base : Nat → Prop} {p k : Nat} {bs : List UInt8} {S : Nat → Prop} (h : RS w base p k bs) (hf : Fr S w w') (hn : ∀ g, base g → ¬ S g) : RS w' base p k bs := by
  obtain ⟨A, c, h⟩ := h
  exact ⟨A, c, ⟨h.at_.fr hf (hn _ h.low), h.cap, (h.rd.fr hf (fun b o e => hn _ (h.far b o e).1)).lt, (fun b o e => ⟨(h.far b o e).1, (h.far b o e).2.1, Nat.lt_of_lt_of_le (h.far b o e).2.2 hf.size⟩), h.plain, h.low, h.done⟩⟩
theorem RS.old {w : World} {base : Nat → Prop} {p k : Nat} {bs : List UInt8} (h : RS w base p k bs) : RS w (fun g => base g ∧ g < w.heap.size) p k bs := by
  obtain ⟨A, c, h⟩ := h
  exact ⟨A, c, ⟨h.at_, h.cap, h.rd, (fun b o e => ⟨⟨(h.far b o e).1, (h.far b o e).2.2⟩, (h.far b o e).2⟩), h.plain, ⟨h.low, h.at_.lt⟩, h.done⟩⟩
theorem RS.mono {w : World} {base base' : Nat → Prop} {p k : Nat} {bs : List UInt8} (h : RS w base p k bs) (hb : ∀ g, base g → base' g) : RS w base' p k bs := by
  obtain ⟨A, c, h⟩ := h
  exact ⟨A, c, ⟨h.at_, h.cap, h.rd, (fun b o e => ⟨hb _ (h.far b o e).1, (h.far b o e).2⟩), h.plain, hb _ h.low, h.done⟩⟩
theorem RS.lt {w : World} {base : Nat → Prop} {p k : Nat} {bs : List UInt8} (h : RS w base p k bs) : p < w.heap.size := by
  obtain ⟨_, _, h⟩ := h
  exact h.at_.lt
theorem RS.new {w w' : World} {base : Nat → Prop} {p k : Nat} {bs : List UInt8} (h : RS w base p k bs) (hf : Below w.heap.size w w') : RS w' base p k bs :=
  h.fr (Fr.of_new (S := fun _ => False) hf) (fun _ _ => id)
set_option maxRecDepth 100000 in
theorem rraw_bad (base : Nat → Prop) (p k : Nat) (bs : List UInt8) (n : Int) (w : World) (h : RS w base p k bs) (hn : n < 0 ∨ (bs.length : Int) < n) :
    Calls Tryd.prog 131 #[.pointer (some ⟨p, 0, none⟩), .int .i64 n] w fun e w' => ∃ x, e = .returned x ∧ RawOut base p (werr k 2) [] [] w x w' := by
  have HC := hid (take_bad base p k bs n w h hn)
  have HK := hid (fun w1 => clone_any [] none 0 w1 (Rd.nil _ _ _) (by simp))
  clear h hn
  go_enter Tryd.func131, Tryd.ntmps131
  go_wp2_with (first
    | (go_at_call 172; refine HC.out.mono ?_; rintro e w1 ⟨x, rfl, rfl, hx⟩; replace hx := hid hx)
    | (go_at_call 128; refine (HK.out _).mono ?_; rintro e w2 ⟨x, rfl, hy⟩; replace hy := hid hy))
  go_ret
  obtain ⟨hr, hf⟩ := hx.out
  obtain ⟨ho, hb⟩ := hy.out
  refine ⟨_, rfl, own_mono ho (fun g hg => ?_), hr.new hb, hf.trans (Fr.of_new hb)⟩
  have := (World.ownsRow.lt ho) g hg
  have := hf.size
  omega
set_option maxRecDepth 100000 in
theorem rraw_good (base : Nat → Prop) (p k : Nat) (bs : List UInt8) (n : Nat) (w : World) (h : RS w base p k bs) (hn : n ≤ bs.length) (hl : bs.length ≤ 1000000000) :
    Calls Tryd.prog 131 #[.pointer (some ⟨p, 0, none⟩), .int .i64 n] w fun e w' => ∃ x, e = .returned x ∧ RawOut base p k (bs.take n) (bs.drop n) w x w' := by
  have HC := hid (take_good base p k bs n w h hn)
  have HK := hid (fun w1 A c h => clone_any (bs.take n) A c w1 h (by simp; omega))
  have hlen : (bs.take n).length = n := by simp; omega
  rw [hlen] at HK
  clear h hn hlen
  go_enter Tryd.func131, Tryd.ntmps131
  go_wp2_with (first
    | (go_at_call 172; refine HC.out.mono ?_; rintro e w1 ⟨x, rfl, A1, c1, rfl, hx⟩; replace hx := hid hx)
    | (go_at_call 128; refine (HK.out _ _ _ hx.out.1).mono ?_; rintro e w2 ⟨x, rfl, hy⟩; replace hy := hid hy))
  go_ret
  obtain ⟨_, hr, hf⟩ := hx.out
  obtain ⟨ho, hb⟩ := hy.out
  refine ⟨_, rfl, own_mono ho (fun g hg => ?_), hr.new hb, hf.trans (Fr.of_new hb)⟩
  have := (World.ownsRow.lt ho) g hg
  have := hf.size
  omega
/-- The value of bytes, the highest first. -/
def val (bs : List UInt8) : Nat := bs.foldl (fun n b => n * 256 + b.toNat) 0
theorem val_snoc (bs : List UInt8) (b : UInt8) : val (bs ++ [b]) = val bs * 256 + b.toNat := by simp [val]
theorem val_lt_from (bs : List UInt8) : ∀ n, bs.foldl (fun n b => n * 256 + b.toNat) n < (n + 1) * 256 ^ bs.length := by
  induction bs with
  | nil => intro n; simp
  | cons b bs ih =>
    intro n
    rw [List.foldl_cons, List.length_cons, Nat.pow_succ, Nat.mul_comm (256 ^ _) 256, ← Nat.mul_assoc]
    have := ih (n * 256 + b.toNat)
    have hb := b.toNat_lt
    have h2 : (n * 256 + b.toNat + 1) * 256 ^ bs.length ≤ (n + 1) * 256 * 256 ^ bs.length := Nat.mul_le_mul_right _ (by omega)
    omega
theorem val_lt (bs : List UInt8) : val bs < 256 ^ bs.length := by simpa [val] using val_lt_from bs 0
theorem or_low (m : Nat) (b : UInt8) (hm : m < 72057594037927936) : bits .or .u64 ((m : Int) * 256) (b.toNat : Int) = (m : Int) * 256 + b.toNat := by
  have hb := b.toNat_lt
  have h1 : ((m : Int) * 256) = ((m * 256 : Nat) : Int) := by simp
  rw [h1, bits_or_u64_nat _ _ (by omega) (by omega)]
  have h2 := Nat.two_pow_add_eq_or_of_lt (i := 8) (b := b.toNat) (by omega) m
  rw [Nat.mul_comm m 256, show (256 : Nat) = 2 ^ 8 from rfl, ← h2]
  simp
def NumOut (base : Nat → Prop) (p k' : Nat) (n : Nat) (bs' : List UInt8) (w : World) (x : Value) (w' : World) : Prop :=
  x = .int .u64 n ∧ RS w' base p k' bs' ∧ Fr (Only p) w w'
theorem take_snocR {α : Type} (l : List α) (i : Nat) (h : i < l.length) : l.take (i + 1) = l.take i ++ [l[i]] := by
  rw [List.take_succ_eq_append_getElem h]
set_option maxRecDepth 100000 in
set_option maxHeartbeats 400000 in
theorem rnum_good (base : Nat → Prop) (p k : Nat) (bs : List UInt8) (n : Nat) (hs : Sz n) (w : World) (h : RS w base p k bs) (hn : n ≤ bs.length) :
    Calls Tryd.prog 129 #[.pointer (some ⟨p, 0, none⟩), .int .i64 n] w fun e w' => ∃ x, e = .returned x ∧ NumOut base p k (val (bs.take n)) (bs.drop n) w x w' := by
  have HC := hid (take_good base p k bs n w h hn)
  clear h
  have h8 : n ≤ 8 := by rcases hs with rfl | rfl | rfl | rfl <;> omega
  have hz : Hid (∀ w, Calls Tryd.prog 149 #[.int .i64 n] w fun e w' => e = .returned (.bool true) ∧ w = w') := by
    intro w
    have := isSize_any n w
    have e : decide ((n : Int) = 1 ∨ (n : Int) = 2 ∨ (n : Int) = 4 ∨ (n : Int) = 8) = true := by
      rcases hs with rfl | rfl | rfl | rfl <;> rfl
    rwa [e] at this
  have HS := hid hs
  clear hs
  obtain ⟨xs, hxs⟩ : ∃ xs, xs = bs.take n := ⟨_, rfl⟩
  have hlen : xs.length = n := by rw [hxs]; simp; omega
  have HL := hid hlen
  have HX := hid hxs
  clear hxs hlen hn
  go_enter Tryd.func129, Tryd.ntmps129
  go_wp2_with (first
    | (go_at_call 149; refine (hz.out _).mono ?_; rintro e w1 ⟨rfl, rfl⟩)
    | (go_at_call 172; refine HC.out.mono ?_; rintro e w1 ⟨x, rfl, A1, c1, rfl, hx⟩; replace hx := hid hx))
  go_loop [5, 18] (fun m i => ∃ j : Nat, j ≤ n ∧ i = .int .i64 j ∧ m = .int .u64 (val (xs.take j))) (fun _ i => n - (intOf i).toNat)
  case atStart => exact ⟨0, Nat.zero_le _, rfl, rfl⟩
  case round =>
    obtain ⟨j, hj, rfl, rfl⟩ := hrel
    by_cases hlt : j < n
    · have hjl : j < xs.length := by rw [HL.out]; exact hlt
      have hcell : ∃ b o, A1 = some ⟨b, o, none⟩ ∧ w1.cell? ⟨b, o + j, none⟩ = some (.int .u8 (xs[j].toNat : Int)) := by
        obtain ⟨b, o, h1, _, h2⟩ := Rd.at_ (HX.out ▸ hx.out.1 : Rb w1 w1.heap.size A1 xs) (ubs_at hjl)
        exact ⟨b, o, h1, h2⟩
      obtain ⟨b, o, rfl, hc⟩ := hcell
      have hm := val_lt (xs.take j)
      rw [List.length_take, Nat.min_eq_left (by omega)] at hm
      have hm2 : val (xs.take j) < 72057594037927936 := Nat.lt_of_lt_of_le hm (by
        have : (256 : Nat) ^ j ≤ 256 ^ 7 := Nat.pow_le_pow_right (by omega) (by omega)
        simpa using this)
      have HV := hid (val_snoc (xs.take j) xs[j])
      rw [← take_snocR xs j hjl] at HV
      have hor := or_low (val (xs.take j)) xs[j] hm2
      have hb0 : 0 ≤ (xs[j].toNat : Int) := by omega
      have hb1 : (xs[j].toNat : Int) < 256 := by have := xs[j].toNat_lt; omega
      clear hm
      go_wp2
      go_round
      case rel => exact ⟨j + 1, by omega, by go_num, by rw [HV.out]; simp⟩
      case measure => simp [intOf]; omega
    · obtain rfl : j = n := by omega
      go_wp2
      go_ret
      refine ⟨_, rfl, ?_, hx.out.2⟩
      show Value.int .u64 (val (xs.take j)) = _
      rw [← HX.out, List.take_of_length_le (Nat.le_of_eq HL.out)]
set_option maxRecDepth 100000 in
/-- It can't be read, or has no size. -/
theorem rnum_bad (base : Nat → Prop) (p k : Nat) (bs : List UInt8) (n : Int) (w : World) (h : RS w base p k bs) (hn : (bs.length : Int) < n ∨ ∀ j : Nat, Sz j → n ≠ j) :
    Calls Tryd.prog 129 #[.pointer (some ⟨p, 0, none⟩), .int .i64 n] w fun e w' => ∃ x, e = .returned x ∧ NumOut base p (werr k 2) 0 [] w x w' := by
  by_cases hz : decide (n = 1 ∨ n = 2 ∨ n = 4 ∨ n = 8) = true
  · have hn' : (bs.length : Int) < n := by
      rcases hn with hn | hn
      · exact hn
      · have := hn n.toNat
        simp only [decide_eq_true_eq] at hz
        exfalso
        rcases hz with rfl | rfl | rfl | rfl
        · exact hn 1 (.inl rfl) rfl
        · exact hn 2 (.inr (.inl rfl)) rfl
        · exact hn 4 (.inr (.inr (.inl rfl))) rfl
        · exact hn 8 (.inr (.inr (.inr rfl))) rfl
    have HC := hid (take_bad base p k bs n w h (.inr hn'))
    have hc : Hid _ := hid (isSize_any n)
    rw [hz] at hc
    clear hz h hn hn'
    go_enter Tryd.func129, Tryd.ntmps129
    go_wp2_with (first
      | (go_at_call 149; refine (hc.out _).mono ?_; rintro e w1 ⟨rfl, rfl⟩)
      | (go_at_call 172; refine HC.out.mono ?_; rintro e w1 ⟨x, rfl, rfl, hx⟩; replace hx := hid hx))
    go_rounds 1
    go_ret
    exact ⟨_, rfl, rfl, hx.out⟩
  · have HC := hid (fail_any base p k bs w 2 (by decide) h)
    have hc : Hid _ := hid (isSize_any n)
    rw [Bool.not_eq_true] at hz
    rw [hz] at hc
    clear hz h hn
    go_enter Tryd.func129, Tryd.ntmps129
    go_wp2_with (first
      | (go_at_call 149; refine (hc.out _).mono ?_; rintro e w1 ⟨rfl, rfl⟩)
      | (go_at_call 132; refine HC.out.mono ?_; rintro e w1 ⟨rfl, hx⟩; replace hx := hid hx))
    go_ret
    exact ⟨_, rfl, rfl, hx.out⟩
end Go.Proofs.YtfmbpdjcoopaeaaDoor

namespace Go.Proofs.YtfmbpdjcoopaeaaDoor
open Go.RowKit

theorem RawOut.after {base : Nat → Prop} {p k2 : Nat} {xs bs1 : List UInt8} {w w1 w2 : World} {x : Value} (hf : Fr (Only p) w w1) (h : RawOut base p k2 xs bs1 w1 x w2) : RawOut base p k2 xs bs1 w x w2 := by
  obtain ⟨h1, h2, h3⟩ := h
  refine ⟨own_mono h1 (fun g hg => ?_), h2, hf.trans h3⟩
  have := (World.ownsRow.lt h1) g hg
  have := hf.size
  omega
end Go.Proofs.YtfmbpdjcoopaeaaDoor

namespace Go.Proofs.YtfmbpdjcoopaeaaDoor
open Go.RowKit

end Go.Proofs.YtfmbpdjcoopaeaaDoor
