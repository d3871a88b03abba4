/-
  What any writer has behind any calls: one round of the statement's loop, in plain words.
-/
import Derived.Test.YtmgdngpdgjdicaaRm
import Derived.Lib.Builder
namespace Go.Proofs.Ytmgdngpdgjdicaa
open Go.RowKit

/-- The writer behind p and the document's one, in the box q, behind some acts. -/
structure WR (w : World) (base p q : Nat) (acts : List Act) (k : Nat) (v : Value) (bs : List UInt8) (A : Option Addr) (c : Nat) (ms : List UInt8) : Prop where
  wi : WI w base p k v bs
  box : At w q #[.slice A ms.length c, .int .i64 k] 34
  rd : Rb w w.heap.size A ms
  far : ∀ b o, A = some ⟨b, o, none⟩ → b < w.heap.size ∧ ¬ Wt p v b ∧ b ≠ q
  bad : k ≠ 0 → bs = []
  good : k = 0 → bs = ms
  len : ms.length ≤ 40 * acts.length + total acts
  low : base ≤ q
theorem WR.blen {w : World} {base p q k c : Nat} {acts : List Act} {v : Value} {bs ms : List UInt8} {A : Option Addr} (h : WR w base p q acts k v bs A c ms) : bs.length ≤ ms.length := by
  by_cases hk : k = 0
  · rw [h.good hk]; exact Nat.le_refl _
  · rw [h.bad hk]; simp
/-- Both have done an act: first the writer, then the document's one; then the box is filled. -/
theorem WR.step {w w1 w2 : World} {base p q k k' c : Nat} {acts : List Act} {a : Act} {v x y : Value} {bs bs' ms ms' : List UInt8} {A : Option Addr} (h : WR w base p q acts k v bs A c ms)
    (h1 : WOut base p k' bs' v w x w1) (h2 : MOut k' ms' A w1 y w2) (hb : k' ≠ 0 → bs' = []) (hg : k' = 0 → bs' = ms') (hl : ms'.length ≤ 40 + a.bs.length + ms.length) :
    x = .pointer (some ⟨p, 0, none⟩) ∧ ∃ A2 c2, y = .agg #[.slice A2 ms'.length c2, .int .i64 k'] ∧ At w2 q #[.slice A ms.length c, .int .i64 k] 34 ∧
      ∃ v', WR ((w2.setCell ⟨q, 0, none⟩ (.slice A2 ms'.length c2)).setCell ⟨q, 1, none⟩ (.int .i64 k')) base p q (acts ++ [a]) k' v' bs' A2 c2 ms' ∧
        Fr (fun g => base ≤ g) w ((w2.setCell ⟨q, 0, none⟩ (.slice A2 ms'.length c2)).setCell ⟨q, 1, none⟩ (.int .i64 k')) := by
  obtain ⟨rfl, v', hi, hf, ho⟩ := h1
  obtain ⟨A2, c2, rfl, hr, hA, hb2⟩ := h2
  have hqp : q ≠ p := h.box.ne h.wi.at_ (by decide)
  have hqv : v.ownBlock ≠ some q := own_ne_at h.wi.own h.box (by decide)
  have hq1 : At w1 q #[.slice A ms.length c, .int .i64 k] 34 := h.box.fr hf (fun hw => by
    rcases hw with hw | hw
    · exact hqp hw
    · exact hqv hw)
  have hq2 := hq1.new_ hb2
  have hi2 : WI w2 base p k' v' bs' := hi.keep (Fr.of_new (S := fun _ => False) hb2) (fun _ _ => id)
  have hqv2 : v'.ownBlock ≠ some q := own_ne_at hi2.own hq2 (by decide)
  have hA2 : ∀ b o, A2 = some ⟨b, o, none⟩ → b < w2.heap.size ∧ ¬ Wt p v' b ∧ b ≠ q := by
    intro b o e
    rcases hA with rfl | hn
    · obtain ⟨g1, g2, g3⟩ := h.far b o e
      refine ⟨Nat.lt_of_lt_of_le g1 (Nat.le_trans hf.size hb2.size), fun hw => ?_, g3⟩
      rcases hw with hw | hw
      · exact g2 (.inl hw)
      · rcases ho with ho | ho
        · exact g2 (.inr (ho ▸ hw))
        · have := ho b hw
          omega
    · obtain ⟨g1, g2⟩ := hn b o e
      have hp := hi.at_.lt
      have hq := hq1.lt
      refine ⟨g2, fun hw => ?_, by omega⟩
      rcases hw with hw | hw
      · omega
      · have := (World.ownsRow.lt hi.own b hw).2
        omega
  have hfq : Fr (fun g => g = q) w2 ((w2.setCell ⟨q, 0, none⟩ (.slice A2 ms'.length c2)).setCell ⟨q, 1, none⟩ (.int .i64 k')) :=
    ((Fr.refl (fun g => g = q) _).setCell (p := ⟨q, 0, none⟩) (.inr rfl) _).setCell (p := ⟨q, 1, none⟩) (.inr rfl) _
  refine ⟨rfl, A2, c2, rfl, hq2, v', ⟨hi2.keep hfq (fun g hg e => ?_), (hq2.put 0 _).put 1 _, (hr.fr hfq (fun b o e => (hA2 b o e).2.2)).lt, fun b o e => by simpa using hA2 b o e, hb, hg, ?_, h.low⟩, ?_⟩
  · subst e
    rcases hg with hg | hg
    · exact hqp hg
    · exact hqv2 hg
  · have := h.len
    rw [List.length_append, total_snoc, List.length_singleton]
    omega
  · have f1 : Fr (fun g => base ≤ g) w w1 := hf.mono (fun g _ hg => h.wi.wt hg)
    exact (f1.trans (Fr.of_new hb2)).trans (hfq.mono (fun g _ hg => by subst hg; exact h.low))

theorem WR.new_ {w w' : World} {base p q k c : Nat} {acts : List Act} {v : Value} {bs ms : List UInt8} {A : Option Addr} (h : WR w base p q acts k v bs A c ms) (hf : Fr (fun _ => False) w w') : WR w' base p q acts k v bs A c ms :=
  ⟨h.wi.keep hf (fun _ _ => id), h.box.fr hf id, (h.rd.fr hf (fun _ _ _ => id)).lt, fun b o e => ⟨Nat.lt_of_lt_of_le (h.far b o e).1 hf.size, (h.far b o e).2⟩, h.bad, h.good, h.len, h.low⟩

/-- A call of the writer, and the document's one: what both leave. -/
def Pair (base p q : Nat) (acts : List Act) (k : Nat) (v : Value) (bs : List UInt8) (A : Option Addr) (c : Nat) (ms : List UInt8) (a : Act) (f g : FuncId) (xs ys : List Value) : Prop :=
  ∃ k' bs' ms', (∀ W, WR W base p q acts k v bs A c ms → base ≤ W.heap.size → Rb W base a.A a.bs → Calls Try.prog f (.pointer (some ⟨p, 0, none⟩) :: xs).toArray W fun e w' => ∃ x, e = .returned x ∧ WOut base p k' bs' v W x w') ∧
    (∀ W, Rb W W.heap.size A ms → Rb W base a.A a.bs → base ≤ W.heap.size → Calls Try.prog g (wv A ms.length c k :: ys).toArray W fun e w' => ∃ x, e = .returned x ∧ MOut k' ms' A W x w') ∧
    (k' ≠ 0 → bs' = []) ∧ (k' = 0 → bs' = ms') ∧ ms'.length ≤ 40 + a.bs.length + ms.length
section
variable {w : World} {base p q k c : Nat} {acts : List Act} {a : Act} {v : Value} {bs ms : List UInt8} {A : Option Addr}
theorem WR.bound (h : WR w base p q acts k v bs A c ms) (hn : acts.length ≤ 41) (ht : total acts ≤ 200000) : ms.length ≤ 201640 ∧ bs.length ≤ 201640 := by
  have := h.len
  have := h.blen
  omega
theorem put_ok (h : WR w base p q acts k v bs A c ms) (xs : List UInt8) : (k ≠ 0 → wput k bs xs = []) ∧ (k = 0 → wput k bs xs = ms ++ xs) :=
  ⟨fun hk => by rw [wput, if_neg hk, h.bad hk], fun hk => by rw [wput, if_pos hk, h.good hk]⟩
theorem err_ok (k c : Nat) (hc : c ≠ 0) (ms : List UInt8) : (werr k c ≠ 0 → ([] : List UInt8) = []) ∧ (werr k c = 0 → ([] : List UInt8) = ms) :=
  ⟨fun _ => rfl, fun hk => by unfold werr at hk; split at hk <;> omega⟩
theorem pair_num (h : WR w base p q acts k v bs A c ms) (hn : acts.length ≤ 41) (ht : total acts ≤ 200000) (h64 : a.n < 18446744073709551616) :
    Pair base p q acts k v bs A c ms a 9 10 [.int .u64 a.n, .int .i64 a.size] [.int .u64 a.n, .int .i64 a.size] := by
  have hb := h.bound hn ht
  by_cases hok : ∃ s : Nat, a.size = s ∧ Sz s ∧ a.n < 256 ^ s
  · obtain ⟨s, hs, hz, hf⟩ := hok
    rw [hs]
    have h8 : s ≤ 8 := by rcases hz with rfl | rfl | rfl | rfl <;> omega
    refine ⟨k, _, _, fun W hW hB _ => num_fit base p k v bs a.n s hz hf W hW.wi hB (by omega), fun W hR _ _ => mnum_fit k ms A c a.n s hz hf W hR (by omega), (put_ok h _).1, (put_ok h _).2, ?_⟩
    rw [List.length_append, be_length]
    omega
  · have hun : ∀ s : Nat, Sz s → a.size = s → 256 ^ s ≤ a.n := fun s hz hs => by
      rcases Nat.lt_or_ge a.n (256 ^ s) with hlt | hge
      · exact absurd ⟨s, hs, hz, hlt⟩ hok
      · exact hge
    exact ⟨_, _, _, fun W hW hB _ => num_unfit base p k v bs a.n h64 a.size hun W hW.wi, fun W hR _ _ => mnum_unfit k ms A c a.n a.size h64 hun W hR, (err_ok k 1 (by decide) ms).1, (err_ok k 1 (by decide) ms).2, by omega⟩
theorem pair_bytes (h : WR w base p q acts k v bs A c ms) (hn : acts.length ≤ 41) (ht : total acts ≤ 200000) :
    Pair base p q acts k v bs A c ms a 11 12 [.slice a.A a.bs.length a.c] [.slice a.A a.bs.length a.c] := by
  have hb := h.bound hn ht
  rcases Nat.lt_or_ge 65535 a.bs.length with hlt | hge
  · exact ⟨_, _, _, fun W hW hB _ => bytes_large base p k v bs a.A a.bs.length a.c W hW.wi hlt, fun W hR _ _ => mbytes_large k ms A a.A c a.bs.length a.c hlt W hR, (err_ok k 3 (by decide) ms).1, (err_ok k 3 (by decide) ms).2, by omega⟩
  · refine ⟨k, _, _, fun W hW hB hA => bytes_fit base p k base v bs a.bs a.A a.c W hW.wi hA (fun g hg hw => by have := hW.wi.wt hw; omega) hB (by omega) hge, fun W hR hA hB => mbytes_fit k ms a.bs A a.A c a.c hge W hR (hA.mono hB) (by omega), (put_ok h _).1, (put_ok h _).2, ?_⟩
    rw [List.length_append, List.length_append, be_length]
    omega
theorem pair_raw (h : WR w base p q acts k v bs A c ms) (hn : acts.length ≤ 41) (ht : total acts ≤ 200000) (hl : a.bs.length ≤ 200000) :
    Pair base p q acts k v bs A c ms a 13 14 [.slice a.A a.bs.length a.c] [.slice a.A a.bs.length a.c] := by
  have hb := h.bound hn ht
  refine ⟨k, _, _, fun W hW hB hA => raw_any base p k v bs a.bs a.A a.c W hW.wi (hA.mono hB) hB (by omega), fun W hR hA hB => (mraw_any k ms a.bs A a.A c a.c W hR (hA.mono hB) (by omega)).mono fun e w' ⟨x, hx, hm⟩ => ⟨x, hx, hm.out A⟩, (put_ok h _).1, (put_ok h _).2, ?_⟩
  rw [List.length_append]
  omega
theorem pair_flag (h : WR w base p q acts k v bs A c ms) (hn : acts.length ≤ 41) (ht : total acts ≤ 200000) :
    Pair base p q acts k v bs A c ms a 17 18 [.bool a.odd] [.bool a.odd] := by
  have hb := h.bound hn ht
  refine ⟨k, _, _, fun W hW hB _ => flag_any base p k v bs a.odd W hW.wi hB (by omega), fun W hR _ _ => mflag_any k ms A c a.odd W hR (by omega), (put_ok h _).1, (put_ok h _).2, ?_⟩
  rw [List.length_append]
  simp [flagB]
  omega
end

/-- The same calls of a nil writer. -/
theorem num_none (n : Nat) (hn : n < 18446744073709551616) (s : Int) (w : World) :
    Calls Try.prog 9 #[.pointer none, .int .u64 n, .int .i64 s] w fun e w' => e = .returned (.pointer none) ∧ Below w.heap.size w w' := by
  by_cases hok : ∃ j : Nat, s = j ∧ Sz j ∧ n < 256 ^ j
  · obtain ⟨j, rfl, hz, hf⟩ := hok
    refine (num_walk (.pointer none) n j hz hf w (fun x w' => x = .pointer none ∧ Below w.heap.size w w') fun w1 A c hfr _ => ?_).mono fun e w' ⟨x, hx, h1, h2⟩ => ⟨by rw [hx, h1], h2⟩
    exact (raw_nil w1 _).mono fun e w' ⟨he, hw⟩ => ⟨_, he, rfl, hw ▸ hfr.below (fun _ h => h.elim) (Nat.le_refl _)⟩
  · refine (num_off (.pointer none) n hn s (fun j hz hs => ?_) w (fun x w' => x = .pointer none ∧ Below w.heap.size w w') ?_).mono fun e w' ⟨x, hx, h1, h2⟩ => ⟨by rw [hx, h1], h2⟩
    · rcases Nat.lt_or_ge n (256 ^ j) with hlt | hge
      · exact absurd ⟨j, hs, hz, hlt⟩ hok
      · exact hge
    · exact (refuse_nil w _).mono fun e w' ⟨he, hw⟩ => ⟨_, he, rfl, hw ▸ Below.refl _ _⟩
theorem bytes_none (A : Option Addr) (n c : Nat) (hn : n ≤ 140737488351232) (w : World) :
    Calls Try.prog 11 #[.pointer none, .slice A n c] w fun e w' => e = .returned (.pointer none) ∧ Below w.heap.size w w' := by
  by_cases hl : 65535 < n
  · go_enter Try.func11, Try.ntmps11
    go_wp2_with (go_at_call 40; refine (refuse_nil _ _).mono ?_; rintro e w1 ⟨rfl, rfl⟩)
    go_ret
    exact ⟨rfl, Below.refl _ _⟩
  · have HC := hid (fun w => num_none n (by omega) 2 w)
    have hd : decide (65535 < n) = false := by simpa using hl
    go_enter Try.func11, Try.ntmps11
    go_wp2_with (first
      | (go_at_call 9; refine (HC.out _).mono ?_; rintro e w1 ⟨rfl, h1⟩; replace h1 := hid h1)
      | (go_at_call 13; refine (raw_nil _ _).mono ?_; rintro e w2 ⟨rfl, rfl⟩))
    go_ret
    exact ⟨rfl, h1.out⟩
theorem flag_none (b : Bool) (w : World) :
    Calls Try.prog 17 #[.pointer none, .bool b] w fun e w' => e = .returned (.pointer none) ∧ Below w.heap.size w w' := by
  have H0 := hid (fun w => num_none 0 (by omega) 1 w)
  have H1 := hid (fun w => num_none 1 (by omega) 1 w)
  cases b
  · go_enter Try.func17, Try.ntmps17
    go_wp2_with (go_at_call 9; refine (H0.out _).mono ?_; rintro e w1 ⟨rfl, h1⟩; replace h1 := hid h1)
    go_ret
    exact ⟨rfl, h1.out⟩
  · go_enter Try.func17, Try.ntmps17
    go_wp2_with (go_at_call 9; refine (H1.out _).mono ?_; rintro e w1 ⟨rfl, h1⟩; replace h1 := hid h1)
    go_ret
    exact ⟨rfl, h1.out⟩
theorem hash_none (h : List UInt8) (w : World) :
    Calls Try.prog 16 #[.pointer none, hv h] w fun e w' => e = .returned (.pointer none) ∧ Below w.heap.size w w' := by
  unfold hv
  go_enter Try.func16, Try.ntmps16
  go_wp2_with (go_at_call 13; refine (raw_nil _ _).mono ?_; rintro e w2 ⟨rfl, rfl⟩)
  go_ret
  exact ⟨rfl, (Below.refl _ _).alloc (Nat.le_refl _) _⟩

/-- What a round knows behind the writer's call: the act's box, the document's box, the bytes. -/
theorem WR.mid {w w1 : World} {base p q k c : Nat} {acts : List Act} {v : Value} {bs ms : List UInt8} {A : Option Addr} (h : WR w base p q acts k v bs A c ms) (hf : Fr (Wt p v) w w1) {g : Nat} {cs : Array Value} (hg : At w g cs 37) {B : Option Addr} {xs : List UInt8} (hB : Rb w base B xs) (hb : base ≤ w.heap.size) :
    At w1 g cs 37 ∧ At w1 q #[.slice A ms.length c, .int .i64 k] 34 ∧ Rb w1 w1.heap.size A ms ∧ Rb w1 base B xs ∧ base ≤ w1.heap.size := by
  refine ⟨hg.fr hf ?_, h.box.fr hf ?_, (h.rd.fr hf (fun b o e => (h.far b o e).2.1)).lt, hB.frB hf (fun g hg hw => by have := h.wi.wt hw; omega), Nat.le_trans hb hf.size⟩
  · rintro (e | e)
    · exact hg.ne h.wi.at_ (by decide) e
    · exact own_ne_at h.wi.own hg (by decide) e
  · rintro (e | e)
    · exact h.box.ne h.wi.at_ (by decide) e
    · exact own_ne_at h.wi.own h.box (by decide) e
/-- What it knows behind both, the box filled: all that the rest of the round needs. -/
theorem WR.both {w w1 w2 : World} {base p q k k' c : Nat} {acts : List Act} {a : Act} {v v1 y : Value} {bs bs' ms ms' : List UInt8} {A : Option Addr} (h : WR w base p q acts k v bs A c ms)
    (h1 : WI w1 base p k' v1 bs') (h1f : Fr (Wt p v) w w1) (h1o : v1.ownBlock = v.ownBlock ∨ ∀ g, v1.ownBlock = some g → w.heap.size ≤ g) (h2 : MOut k' ms' A w1 y w2) (hb : k' ≠ 0 → bs' = []) (hg : k' = 0 → bs' = ms') (hl : ms'.length ≤ 40 + a.bs.length + ms.length)
    {g : Nat} {cs : Array Value} (ht : At w1 g cs 37) :
    ∃ A2 c2, y = .agg #[.slice A2 ms'.length c2, .int .i64 k'] ∧ At w2 q #[.slice A ms.length c, .int .i64 k] 34 ∧
      ∃ v', WR ((w2.setCell ⟨q, 0, none⟩ (.slice A2 ms'.length c2)).setCell ⟨q, 1, none⟩ (.int .i64 k')) base p q (acts ++ [a]) k' v' bs' A2 c2 ms' ∧
        Fr (fun g => base ≤ g) w ((w2.setCell ⟨q, 0, none⟩ (.slice A2 ms'.length c2)).setCell ⟨q, 1, none⟩ (.int .i64 k')) ∧
        Below w1.heap.size w1 w2 ∧ At w2 g cs 37 ∧ At ((w2.setCell ⟨q, 0, none⟩ (.slice A2 ms'.length c2)).setCell ⟨q, 1, none⟩ (.int .i64 k')) g cs 37 := by
  obtain ⟨-, A2, c2, rfl, hq, v', hw, hf⟩ := WR.step (a := a) h ⟨rfl, v1, h1, h1f, h1o⟩ h2 hb hg hl
  obtain ⟨_, _, _, _, _, hb2⟩ := h2
  have hne : g ≠ q := (ht.new_ hb2).ne hq (by decide)
  exact ⟨A2, c2, rfl, hq, v', hw, hf, hb2, ht.new_ hb2, ((ht.new_ hb2).far (p := ⟨q, 0, none⟩) hne _).far (p := ⟨q, 1, none⟩) hne _⟩

theorem sizeWr : (Try.prog.info? 32).map (·.size) = some 2 := by kernel_rfl
theorem neq_self (a : Addr) (w : World) : (binOp .neq 25 (.pointer (some a)) (.pointer (some a))).run Try.prog w = .ok (.bool false) w := by
  obtain ⟨j, hj⟩ : ∃ j, Try.prog.info? 32 = some j := by
    have := sizeWr
    cases h : Try.prog.info? 32 with
    | none => simp [h] at this
    | some i => exact ⟨i, rfl⟩
  exact Lib.run_neq_ptr_same w a Try.underlying25 hj

theorem WR.keepAt {w w1 : World} {base p q k c : Nat} {acts : List Act} {v : Value} {bs ms : List UInt8} {A : Option Addr} (h : WR w base p q acts k v bs A c ms) (hf : Fr (Wt p v) w w1) {g : Nat} {cs : Array Value} {t : TypeId} (hg : At w g cs t) (h1 : t ≠ 32) (h2 : 5 ≠ t) : At w1 g cs t := by
  refine hg.fr hf ?_
  rintro (e | e)
  · exact hg.ne h.wi.at_ h1 e
  · exact own_ne_at h.wi.own hg h2 e
theorem WR.skip {w : World} {base p q k c : Nat} {acts : List Act} {v : Value} {bs ms : List UInt8} {A : Option Addr} (h : WR w base p q acts k v bs A c ms) (a : Act) : WR w base p q (acts ++ [a]) k v bs A c ms :=
  ⟨h.wi, h.box, h.rd, h.far, h.bad, h.good, by have := h.len; rw [List.length_append, total_snoc, List.length_singleton]; omega, h.low⟩
theorem raw_none (x : Value) (w : World) : Calls Try.prog 13 #[.pointer none, x] w fun e w' => e = .returned (.pointer none) ∧ Below w.heap.size w w' :=
  (raw_nil w x).mono fun _ _ ⟨he, hw⟩ => ⟨he, hw ▸ Below.refl _ _⟩
end Go.Proofs.Ytmgdngpdgjdicaa
