/-
  More contracts of the reader's methods: From, Num, Raw, Bytes, Flag, Left, End.
-/
import Derived.Test.YtmgdngpdgjdicaaRd
namespace Go.Proofs.Ytmgdngpdgjdicaa
open Go.RowKit

def FromOut (bs : List UInt8) (w : World) (p : Nat) (w' : World) : Prop := w.heap.size ≤ p ∧ RS w' (fun g => w.heap.size ≤ g ∧ g < w'.heap.size) p 0 bs ∧ Below w.heap.size w w'
theorem from_any (bs : List UInt8) (A : Option Addr) (c : Nat) (w : World) (hx : Rb w w.heap.size A bs) (hl : bs.length ≤ 1000000000) :
    Calls Try.prog 23 #[.slice A bs.length c] w fun e w' => ∃ p, e = .returned (.pointer (some ⟨p, 0, none⟩)) ∧ FromOut bs w p w' := by
  have HC := hid (clone_any bs A c w hx hl)
  clear hx
  go_enter Try.func23, Try.ntmps23
  go_wp2_with (go_at_call 43; refine HC.out.mono ?_; rintro e w1 ⟨x, rfl, hx⟩; obtain ⟨A1, c1, rfl, h⟩ := own_form hx.1; replace hx := hid hx; replace h := hid h)
  go_ret
  obtain ⟨hc, hm, hn, -, hA⟩ := h.out
  obtain ⟨ho, hb⟩ := hx.out
  refine ⟨_, rfl, hb.size, ⟨A1, c1, ⟨At.new _ _ _, hc, ((Rd.of_own ho).alloc _).mono (by simp), fun b o e => ?_, fun a e => (hA a e).2.1, ⟨hb.size, by simp⟩, fun h => absurd rfl h⟩⟩, hb.alloc hb.size _⟩
  have := hA _ e
  have h4 := this.2.2.2
  simp only at h4
  exact ⟨⟨this.2.2.1, by simp; omega⟩, by omega, by simp; omega⟩

/-- Left. -/
theorem left_any (base : Nat → Prop) (p k : Nat) (bs : List UInt8) (w : World) (h : RS w base p k bs) :
    Calls Try.prog 35 #[.pointer (some ⟨p, 0, none⟩)] w fun e w' => e = .returned (.int .i64 bs.length) ∧ w = w' := by
  obtain ⟨A, c, h⟩ := h
  have c1 := h.at_.cell 1
  simp at c1
  clear h
  go_enter Try.func35, Try.ntmps35
  go_wp2
  go_ret
  exact ⟨rfl, rfl⟩
theorem left_nil (w : World) :
    Calls Try.prog 35 #[.pointer none] w fun e w' => e = .returned (.int .i64 0) ∧ w = w' := by
  go_enter Try.func35, Try.ntmps35
  go_wp2
  go_ret
  exact ⟨rfl, rfl⟩
/-- End. -/
theorem end_more (base : Nat → Prop) (p k : Nat) (bs : List UInt8) (w : World) (h : RS w base p k bs) (hb : 0 < bs.length) :
    Calls Try.prog 37 #[.pointer (some ⟨p, 0, none⟩)] w fun e w' => e = .returned (errV 2) ∧ w = w' := by
  obtain ⟨A, c, h⟩ := h
  have c1 := h.at_.cell 1
  simp at c1
  clear h
  go_enter Try.func37, Try.ntmps37
  go_wp2
  go_ret
  exact ⟨rfl, rfl⟩
theorem end_done (base : Nat → Prop) (p k : Nat) (w : World) (h : RS w base p k []) :
    Calls Try.prog 37 #[.pointer (some ⟨p, 0, none⟩)] w fun e w' => e = .returned (errV k) ∧ w = w' := by
  obtain ⟨A, c, h⟩ := h
  have c1 := h.at_.cell 1
  have c0 := h.at_.cell 0
  simp at c1 c0
  clear h
  by_cases hk : k = 0
  · subst hk
    rw [errV_zero] at c0 ⊢
    go_enter Try.func37, Try.ntmps37
    go_wp2
    go_ret
    exact ⟨rfl, rfl⟩
  · have e := errV_pos hk
    rw [e] at c0 ⊢
    clear hk e
    go_enter Try.func37, Try.ntmps37
    go_wp2
    go_ret
    exact ⟨rfl, rfl⟩
theorem end_nil (w : World) :
    Calls Try.prog 37 #[.pointer none] w fun e w' => e = .returned (errV 11) ∧ w = w' := by
  go_enter Try.func37, Try.ntmps37
  go_wp2
  go_ret
  exact ⟨rfl, rfl⟩

/-- Raw. -/
def RawOut (base : Nat → Prop) (p k' : Nat) (xs bs' : List UInt8) (w : World) (x : Value) (w' : World) : Prop :=
  Ow w' w.heap.size x xs ∧ RS w' base p k' bs' ∧ Fr (Only p) w w'
theorem RS.fr {w w' : World} {base : Nat → Prop} {p k : Nat} {bs : List UInt8} {S : Nat → Prop} (h : RS w base p k bs) (hf : Fr S w w') (hn : ∀ g, base g → ¬ S g) : RS w' base p k bs := by
  obtain ⟨A, c, h⟩ := h
  exact ⟨A, c, ⟨h.at_.fr hf (hn _ h.low), h.cap, (h.rd.fr hf (fun b o e => hn _ (h.far b o e).1)).lt, (fun b o e => ⟨(h.far b o e).1, (h.far b o e).2.1, Nat.lt_of_lt_of_le (h.far b o e).2.2 hf.size⟩), h.plain, h.low, h.done⟩⟩
theorem RS.old {w : World} {base : Nat → Prop} {p k : Nat} {bs : List UInt8} (h : RS w base p k bs) : RS w (fun g => base g ∧ g < w.heap.size) p k bs := by
  obtain ⟨A, c, h⟩ := h
  exact ⟨A, c, ⟨h.at_, h.cap, h.rd, (fun b o e => ⟨⟨(h.far b o e).1, (h.far b o e).2.2⟩, (h.far b o e).2⟩), h.plain, ⟨h.low, h.at_.lt⟩, h.done⟩⟩
theorem RS.mono {w : World} {base base' : Nat → Prop} {p k : Nat} {bs : List UInt8} (h : RS w base p k bs) (hb : ∀ g, base g → base' g) : RS w base' p k bs := by
  obtain ⟨A, c, h⟩ := h
  exact ⟨A, c, ⟨h.at_, h.cap, h.rd, (fun b o e => ⟨hb _ (h.far b o e).1, (h.far b o e).2⟩), h.plain, hb _ h.low, h.done⟩⟩
theorem RS.lt {w : World} {base : Nat → Prop} {p k : Nat} {bs : List UInt8} (h : RS w base p k bs) : p < w.heap.size := by
  obtain ⟨_, _, h⟩ := h
  exact h.at_.lt
theorem RS.new {w w' : World} {base : Nat → Prop} {p k : Nat} {bs : List UInt8} (h : RS w base p k bs) (hf : Below w.heap.size w w') : RS w' base p k bs :=
  h.fr (Fr.of_new (S := fun _ => False) hf) (fun _ _ => id)
theorem rraw_bad (base : Nat → Prop) (p k : Nat) (bs : List UInt8) (n : Int) (w : World) (h : RS w base p k bs) (hn : n < 0 ∨ (bs.length : Int) < n) :
    Calls Try.prog 29 #[.pointer (some ⟨p, 0, none⟩), .int .i64 n] w fun e w' => ∃ x, e = .returned x ∧ RawOut base p (werr k 2) [] [] w x w' := by
  have HC := hid (take_bad base p k bs n w h hn)
  have HK := hid (fun w1 => clone_any [] none 0 w1 (Rd.nil _ _ _) (by simp))
  clear h hn
  go_enter Try.func29, Try.ntmps29
  go_wp2_with (first
    | (go_at_call 45; refine HC.out.mono ?_; rintro e w1 ⟨x, rfl, rfl, hx⟩; replace hx := hid hx)
    | (go_at_call 43; refine (HK.out _).mono ?_; rintro e w2 ⟨x, rfl, hy⟩; replace hy := hid hy))
  go_ret
  obtain ⟨hr, hf⟩ := hx.out
  obtain ⟨ho, hb⟩ := hy.out
  refine ⟨_, rfl, own_mono ho (fun g hg => ?_), hr.new hb, hf.trans (Fr.of_new hb)⟩
  have := (World.ownsRow.lt ho) g hg
  have := hf.size
  omega
theorem rraw_good (base : Nat → Prop) (p k : Nat) (bs : List UInt8) (n : Nat) (w : World) (h : RS w base p k bs) (hn : n ≤ bs.length) (hl : bs.length ≤ 1000000000) :
    Calls Try.prog 29 #[.pointer (some ⟨p, 0, none⟩), .int .i64 n] w fun e w' => ∃ x, e = .returned x ∧ RawOut base p k (bs.take n) (bs.drop n) w x w' := by
  have HC := hid (take_good base p k bs n w h hn)
  have HK := hid (fun w1 A c h => clone_any (bs.take n) A c w1 h (by simp; omega))
  have hlen : (bs.take n).length = n := by simp; omega
  rw [hlen] at HK
  clear h hn hlen
  go_enter Try.func29, Try.ntmps29
  go_wp2_with (first
    | (go_at_call 45; refine HC.out.mono ?_; rintro e w1 ⟨x, rfl, A1, c1, rfl, hx⟩; replace hx := hid hx)
    | (go_at_call 43; refine (HK.out _ _ _ hx.out.1).mono ?_; rintro e w2 ⟨x, rfl, hy⟩; replace hy := hid hy))
  go_ret
  obtain ⟨_, hr, hf⟩ := hx.out
  obtain ⟨ho, hb⟩ := hy.out
  refine ⟨_, rfl, own_mono ho (fun g hg => ?_), hr.new hb, hf.trans (Fr.of_new hb)⟩
  have := (World.ownsRow.lt ho) g hg
  have := hf.size
  omega
theorem clone_nil (c : Nat) (w : World) :
    Calls Try.prog 43 #[.slice none 0 c] w fun e w' => e = .returned (.slice none 0 0) ∧ w = w' := by
  have hq := fun w' : World => Lib.run_eql_slice_nil (P := Try.prog) w' 30 5 none 0 c 0 0 Try.underlying30
  go_enter Try.func43, Try.ntmps43
  go_wp2
  go_ret
  exact ⟨rfl, rfl⟩
theorem rraw_nil (n : Value) (w : World) :
    Calls Try.prog 29 #[.pointer none, n] w fun e w' => e = .returned (.slice none 0 0) ∧ w = w' := by
  go_enter Try.func29, Try.ntmps29
  go_wp2_with (first
    | (go_at_call 45; refine (take_nil _ _).mono ?_; rintro e w1 ⟨rfl, rfl⟩)
    | (go_at_call 43; refine (clone_nil _ _).mono ?_; rintro e w2 ⟨rfl, rfl⟩))
  go_ret
  exact ⟨rfl, rfl⟩

/-- The value of bytes, the highest first. -/
def val (bs : List UInt8) : Nat := bs.foldl (fun n b => n * 256 + b.toNat) 0
theorem val_snoc (bs : List UInt8) (b : UInt8) : val (bs ++ [b]) = val bs * 256 + b.toNat := by simp [val]
theorem val_lt_from (bs : List UInt8) : ∀ n, bs.foldl (fun n b => n * 256 + b.toNat) n < (n + 1) * 256 ^ bs.length := by
  induction bs with
  | nil => intro n; simp
  | cons b bs ih =>
    intro n
    rw [List.foldl_cons, List.length_cons, Nat.pow_succ, Nat.mul_comm (256 ^ _) 256, ← Nat.mul_assoc]
    have := ih (n * 256 + b.toNat)
    have hb := b.toNat_lt
    have h2 : (n * 256 + b.toNat + 1) * 256 ^ bs.length ≤ (n + 1) * 256 * 256 ^ bs.length := Nat.mul_le_mul_right _ (by omega)
    omega
theorem val_lt (bs : List UInt8) : val bs < 256 ^ bs.length := by simpa [val] using val_lt_from bs 0
theorem or_low (m : Nat) (b : UInt8) (hm : m < 72057594037927936) : bits .or .u64 ((m : Int) * 256) (b.toNat : Int) = (m : Int) * 256 + b.toNat := by
  have hb := b.toNat_lt
  have h1 : ((m : Int) * 256) = ((m * 256 : Nat) : Int) := by simp
  rw [h1, bits_or_u64_nat _ _ (by omega) (by omega)]
  have h2 := Nat.two_pow_add_eq_or_of_lt (i := 8) (b := b.toNat) (by omega) m
  rw [Nat.mul_comm m 256, show (256 : Nat) = 2 ^ 8 from rfl, ← h2]
  simp
def NumOut (base : Nat → Prop) (p k' : Nat) (n : Nat) (bs' : List UInt8) (w : World) (x : Value) (w' : World) : Prop :=
  x = .int .u64 n ∧ RS w' base p k' bs' ∧ Fr (Only p) w w'
theorem take_snoc {α : Type} (l : List α) (i : Nat) (h : i < l.length) : l.take (i + 1) = l.take i ++ [l[i]] := by
  rw [List.take_succ_eq_append_getElem h]
set_option maxHeartbeats 400000 in
theorem rnum_good (base : Nat → Prop) (p k : Nat) (bs : List UInt8) (n : Nat) (hs : Sz n) (w : World) (h : RS w base p k bs) (hn : n ≤ bs.length) :
    Calls Try.prog 25 #[.pointer (some ⟨p, 0, none⟩), .int .i64 n] w fun e w' => ∃ x, e = .returned x ∧ NumOut base p k (val (bs.take n)) (bs.drop n) w x w' := by
  have HC := hid (take_good base p k bs n w h hn)
  clear h
  have h8 : n ≤ 8 := by rcases hs with rfl | rfl | rfl | rfl <;> omega
  have hz : Hid (∀ w, Calls Try.prog 39 #[.int .i64 n] w fun e w' => e = .returned (.bool true) ∧ w = w') := by
    intro w
    have := isSize_any n w
    have e : decide ((n : Int) = 1 ∨ (n : Int) = 2 ∨ (n : Int) = 4 ∨ (n : Int) = 8) = true := by
      rcases hs with rfl | rfl | rfl | rfl <;> rfl
    rwa [e] at this
  have HS := hid hs
  clear hs
  obtain ⟨xs, hxs⟩ : ∃ xs, xs = bs.take n := ⟨_, rfl⟩
  have hlen : xs.length = n := by rw [hxs]; simp; omega
  have HL := hid hlen
  have HX := hid hxs
  clear hxs hlen hn
  go_enter Try.func25, Try.ntmps25
  go_wp2_with (first
    | (go_at_call 39; refine (hz.out _).mono ?_; rintro e w1 ⟨rfl, rfl⟩)
    | (go_at_call 45; refine HC.out.mono ?_; rintro e w1 ⟨x, rfl, A1, c1, rfl, hx⟩; replace hx := hid hx))
  go_loop [5, 18] (fun m i => ∃ j : Nat, j ≤ n ∧ i = .int .i64 j ∧ m = .int .u64 (val (xs.take j))) (fun _ i => n - (intOf i).toNat)
  case atStart => exact ⟨0, Nat.zero_le _, rfl, rfl⟩
  case round =>
    obtain ⟨j, hj, rfl, rfl⟩ := hrel
    by_cases hlt : j < n
    · have hjl : j < xs.length := by rw [HL.out]; exact hlt
      have hcell : ∃ b o, A1 = some ⟨b, o, none⟩ ∧ w1.cell? ⟨b, o + j, none⟩ = some (.int .u8 (xs[j].toNat : Int)) := by
        obtain ⟨b, o, h1, _, h2⟩ := Rd.at_ (HX.out ▸ hx.out.1 : Rb w1 w1.heap.size A1 xs) (ubs_at hjl)
        exact ⟨b, o, h1, h2⟩
      obtain ⟨b, o, rfl, hc⟩ := hcell
      have hm := val_lt (xs.take j)
      rw [List.length_take, Nat.min_eq_left (by omega)] at hm
      have hm2 : val (xs.take j) < 72057594037927936 := Nat.lt_of_lt_of_le hm (by
        have : (256 : Nat) ^ j ≤ 256 ^ 7 := Nat.pow_le_pow_right (by omega) (by omega)
        simpa using this)
      have HV := hid (val_snoc (xs.take j) xs[j])
      rw [← take_snoc xs j hjl] at HV
      have hor := or_low (val (xs.take j)) xs[j] hm2
      have hb0 : 0 ≤ (xs[j].toNat : Int) := by omega
      have hb1 : (xs[j].toNat : Int) < 256 := by have := xs[j].toNat_lt; omega
      clear hm
      go_wp2
      go_round
      case rel => exact ⟨j + 1, by omega, by go_num, by rw [HV.out]; simp⟩
      case measure => simp [intOf]; omega
    · obtain rfl : j = n := by omega
      go_wp2
      go_ret
      refine ⟨_, rfl, ?_, hx.out.2⟩
      show Value.int .u64 (val (xs.take j)) = _
      rw [← HX.out, List.take_of_length_le (Nat.le_of_eq HL.out)]
/-- It can't be read, or has no size. -/
theorem rnum_bad (base : Nat → Prop) (p k : Nat) (bs : List UInt8) (n : Int) (w : World) (h : RS w base p k bs) (hn : (bs.length : Int) < n ∨ ∀ j : Nat, Sz j → n ≠ j) :
    Calls Try.prog 25 #[.pointer (some ⟨p, 0, none⟩), .int .i64 n] w fun e w' => ∃ x, e = .returned x ∧ NumOut base p (werr k 2) 0 [] w x w' := by
  by_cases hz : decide (n = 1 ∨ n = 2 ∨ n = 4 ∨ n = 8) = true
  · have hn' : (bs.length : Int) < n := by
      rcases hn with hn | hn
      · exact hn
      · have := hn n.toNat
        simp only [decide_eq_true_eq] at hz
        exfalso
        rcases hz with rfl | rfl | rfl | rfl
        · exact hn 1 (.inl rfl) rfl
        · exact hn 2 (.inr (.inl rfl)) rfl
        · exact hn 4 (.inr (.inr (.inl rfl))) rfl
        · exact hn 8 (.inr (.inr (.inr rfl))) rfl
    have HC := hid (take_bad base p k bs n w h (.inr hn'))
    have hc : Hid _ := hid (isSize_any n)
    rw [hz] at hc
    clear hz h hn hn'
    go_enter Try.func25, Try.ntmps25
    go_wp2_with (first
      | (go_at_call 39; refine (hc.out _).mono ?_; rintro e w1 ⟨rfl, rfl⟩)
      | (go_at_call 45; refine HC.out.mono ?_; rintro e w1 ⟨x, rfl, rfl, hx⟩; replace hx := hid hx))
    go_rounds 1
    go_ret
    exact ⟨_, rfl, rfl, hx.out⟩
  · have HC := hid (fail_any base p k bs w 2 (by decide) h)
    have hc : Hid _ := hid (isSize_any n)
    rw [Bool.not_eq_true] at hz
    rw [hz] at hc
    clear hz h hn
    go_enter Try.func25, Try.ntmps25
    go_wp2_with (first
      | (go_at_call 39; refine (hc.out _).mono ?_; rintro e w1 ⟨rfl, rfl⟩)
      | (go_at_call 34; refine HC.out.mono ?_; rintro e w1 ⟨rfl, hx⟩; replace hx := hid hx))
    go_ret
    exact ⟨_, rfl, rfl, hx.out⟩
theorem rnum_nil (n : Int) (w : World) :
    Calls Try.prog 25 #[.pointer none, .int .i64 n] w fun e w' => e = .returned (.int .u64 0) ∧ w = w' := by
  obtain ⟨b, hb⟩ : ∃ b, b = decide (n = 1 ∨ n = 2 ∨ n = 4 ∨ n = 8) := ⟨_, rfl⟩
  have hc : Hid _ := hid (isSize_any n)
  rw [← hb] at hc
  clear hb
  cases b
  · go_enter Try.func25, Try.ntmps25
    go_wp2_with (first
      | (go_at_call 39; refine (hc.out _).mono ?_; rintro e w1 ⟨rfl, rfl⟩)
      | (go_at_call 34; refine (fail_nil _ _).mono ?_; rintro e w1 ⟨rfl, rfl⟩))
    go_ret
    exact ⟨rfl, rfl⟩
  · go_enter Try.func25, Try.ntmps25
    go_wp2_with (first
      | (go_at_call 39; refine (hc.out _).mono ?_; rintro e w1 ⟨rfl, rfl⟩)
      | (go_at_call 45; refine (take_nil _ _).mono ?_; rintro e w1 ⟨rfl, rfl⟩))
    go_rounds 1
    go_ret
    exact ⟨rfl, rfl⟩
/-- Bytes. -/
theorem rbytes_nil (n : Int) (w : World) :
    Calls Try.prog 27 #[.pointer none, .int .i64 n] w fun e w' => e = .returned (.slice none 0 0) ∧ w = w' := by
  by_cases h : 0 > n
  all_goals
    go_enter Try.func27, Try.ntmps27
    go_wp2_with (first
      | (go_at_call 25; refine (rnum_nil _ _).mono ?_; rintro e w1 ⟨rfl, rfl⟩)
      | (go_at_call 34; refine (fail_nil _ _).mono ?_; rintro e w1 ⟨rfl, rfl⟩)
      | (go_at_call 29; refine (rraw_nil _ _).mono ?_; rintro e w1 ⟨rfl, rfl⟩))
    go_ret
    exact ⟨rfl, rfl⟩
/-- Flag. -/
theorem rflag_nil (w : World) :
    Calls Try.prog 33 #[.pointer none] w fun e w' => e = .returned (.bool false) ∧ w = w' := by
  go_enter Try.func33, Try.ntmps33
  go_wp2_with (first
      | (go_at_call 25; refine (rnum_nil _ _).mono ?_; rintro e w1 ⟨rfl, rfl⟩))
  go_ret
  exact ⟨rfl, rfl⟩
def FlagOut (base : Nat → Prop) (p k' : Nat) (b : Bool) (bs' : List UInt8) (w : World) (x : Value) (w' : World) : Prop :=
  x = .bool b ∧ RS w' base p k' bs' ∧ Fr (Only p) w w'
theorem rflag_bad (base : Nat → Prop) (p k : Nat) (w : World) (h : RS w base p k []) :
    Calls Try.prog 33 #[.pointer (some ⟨p, 0, none⟩)] w fun e w' => ∃ x, e = .returned x ∧ FlagOut base p (werr k 2) false [] w x w' := by
  have HC := hid (rnum_bad base p k [] 1 w h (.inl (by simp)))
  clear h
  go_enter Try.func33, Try.ntmps33
  go_wp2_with (first
      | (go_at_call 25; refine HC.out.mono ?_; rintro e w1 ⟨x, rfl, rfl, hx⟩; replace hx := hid hx))
  go_ret
  exact ⟨_, rfl, rfl, hx.out⟩
theorem rflag_off (base : Nat → Prop) (p k : Nat) (b : UInt8) (bs : List UInt8) (w : World) (h : RS w base p k (b :: bs)) (hb : 1 < b.toNat) :
    Calls Try.prog 33 #[.pointer (some ⟨p, 0, none⟩)] w fun e w' => ∃ x, e = .returned x ∧ FlagOut base p (werr k 2) false [] w x w' := by
  have HC := hid (rnum_good base p k (b :: bs) 1 (.inl rfl) w h (by simp))
  have hv : val ((b :: bs).take 1) = b.toNat := by simp [val]
  rw [hv] at HC
  have HF := hid (fun w1 bs1 h1 => fail_any base p k bs1 w1 2 (by decide) h1)
  have hne : ((b.toNat : Int) == 1) = false := by simp; omega
  clear h hv
  go_enter Try.func33, Try.ntmps33
  go_wp2_with (first
      | (go_at_call 25; refine HC.out.mono ?_; rintro e w1 ⟨x, rfl, rfl, hx⟩; replace hx := hid hx)
      | (go_at_call 34; refine (HF.out _ _ hx.out.1).mono ?_; rintro e w2 ⟨rfl, hy⟩; replace hy := hid hy))
  go_ret
  exact ⟨_, rfl, rfl, hy.out.1, hx.out.2.trans hy.out.2⟩
theorem rflag_good (base : Nat → Prop) (p k : Nat) (b : UInt8) (bs : List UInt8) (w : World) (h : RS w base p k (b :: bs)) (hb : b.toNat ≤ 1) :
    Calls Try.prog 33 #[.pointer (some ⟨p, 0, none⟩)] w fun e w' => ∃ x, e = .returned x ∧ FlagOut base p k (b == 1) bs w x w' := by
  have HC := hid (rnum_good base p k (b :: bs) 1 (.inl rfl) w h (by simp))
  have hv : val ((b :: bs).take 1) = b.toNat := by simp [val]
  rw [hv] at HC
  clear h hv
  have hq : b = 0 ∨ b = 1 := by
    rcases Nat.lt_or_ge b.toNat 1 with h | h
    · exact .inl (UInt8.toNat_inj.1 (by simpa using h))
    · exact .inr (UInt8.toNat_inj.1 (by simp; omega))
  rcases hq with rfl | rfl
  all_goals
    go_enter Try.func33, Try.ntmps33
    go_wp2_with (first
      | (go_at_call 25; refine HC.out.mono ?_; rintro e w1 ⟨x, rfl, rfl, hx⟩; replace hx := hid hx))
    go_ret
    exact ⟨_, rfl, rfl, hx.out⟩
end Go.Proofs.Ytmgdngpdgjdicaa
