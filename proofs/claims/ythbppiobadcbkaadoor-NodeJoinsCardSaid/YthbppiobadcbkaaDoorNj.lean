/-
  NodeJoins, walked.
-/
import Derived.Test.YthbppiobadcbkaaDoorNl0
namespace Go.Proofs.YthbppiobadcbkaaDoor
open Go.RowKit

/-- What holds in the law: the two hashes that came in; the node's hash and the empty one; the text; all empty ones. -/
structure NjW (w : World) (l r : List UInt8) (H : Nat) (jh : List UInt8) (A : Option Addr) (tx : List UInt8) (X : Nat) (em : List UInt8) (B g c : Nat) (W : World) : Prop where
  l : At W w.heap.size (ubs l).toArray 29
  r : At W (w.heap.size + 1) (ubs r).toArray 29
  h : At W H (ubs jh).toArray 29
  b : Rb W W.heap.size A tx
  x : At W X (ubs em).toArray 29
  e : Hw W B (.slice (some ⟨g, 0, none⟩) 33 c) 33 (eRow 33)
  below : Below w.heap.size w W
section
variable {w W W' : World} {l r jh tx em : List UInt8} {H X B g c : Nat} {A : Option Addr}
theorem NjW.new (h : NjW w l r H jh A tx X em B g c W) (hb : Below W.heap.size W W') : NjW w l r H jh A tx X em B g c W' := ⟨h.l.new_ hb, h.r.new_ hb, h.h.new_ hb, (h.b.below hb).mono hb.size, h.x.new_ hb, h.e.new hb, h.below.trans (hb.mono h.below.size)⟩
theorem NjW.drew (h : NjW w l r H jh A tx X em B g c W) : NjW w l r H jh A tx X em B g c W.drew := ⟨h.l, h.r, h.h, h.b, h.x, h.e, h.below.drew⟩
end
/-- What the law's region of the empty hash yields. -/
def nj9 (g c k : Nat) (em : List UInt8) : Nat → Value
  | 0 => .nilIface
  | 3 => .agg (ubs em).toArray
  | 4 => .slice (some ⟨g, 0, none⟩) 33 c
  | 5 => .int .i64 (k : Int)
  | 6 => .pointer (some ⟨g, 32 * k, none⟩)
  | 7 => .agg (ubs em).toArray
  | _ => .bool false
/-- What the law's last region yields. -/
def njF (k : Nat) (l r jh tx : List UInt8) (A : Option Addr) (c : Nat) (j : Nat) (v : Value) (W : World) : Prop :=
  match j with
  | 0 => v = .nilIface
  | 3 => v = .nilIface
  | 7 => v = .agg (ubs jh).toArray
  | 8 => v = .int .i64 (k : Int)
  | 9 => v = .agg (ubs l).toArray
  | 10 => v = .agg (ubs r).toArray
  | 11 => v = .agg (ubs jh).toArray
  | 15 => v = .slice A 66 c
  | 16 => v = .int .i64 (k : Int)
  | 17 => v = .agg (ubs l).toArray
  | 18 => v = .agg (ubs r).toArray
  | 19 => ∃ B c', v = .slice B 66 c' ∧ Rb W W.heap.size B tx
  | 23 => v = .slice A 66 c
  | 24 => v = .int .i64 3
  | _ => v = .bool true
theorem njF_new {k : Nat} {l r jh tx : List UInt8} {A : Option Addr} {c : Nat} {j : Nat} {v : Value} {W W' : World} (h : njF k l r jh tx A c j v W) (hb : Below W.heap.size W W') : njF k l r jh tx A c j v W' := by
  by_cases e : j = 19
  · subst e
    obtain ⟨B, c', e, r⟩ := h
    exact ⟨B, c', e, (r.below hb).mono hb.size⟩
  · unfold njF at h ⊢
    split <;> simp_all
set_option maxRecDepth 100000 in
set_option maxHeartbeats 4000000 in
theorem nodeJoins_law (l r : List UInt8) (h : Int) (w : World) (hl : l.length = 32) (hr : r.length = 32) (h1 : -9223372036854775808 ≤ h) (h2 : h < 9223372036854775808) (hAL : Alive8C w) (hJN : JoinC w) (hJT : JoinTextC w) (hEM : EmptyC w) (hKI : KindC w) (hR : Tabr w) (hI : Tab w 0 IV.l) :
    Calls Tryd.prog 4 #[.int .i64 h, .agg (ubs l).toArray, .agg (ubs r).toArray] w fun e w' => e = .returned (.bool true) ∧ Below w.heap.size w w' := by
  have HAL := hid hAL
  have HIB := hid (fun (W : World) (h : Below w.heap.size w W) => Tab.below (x := IV.a) (xs := [IV.b, IV.c, IV.d, IV.e, IV.f, IV.g, IV.h]) hI h)
  have HAH := hid (fun (o : Oper) (a : Go.Act) (W : World) (h : o.op = .alloc 29) => run_alloc_of (o := o) (a := a) (W := W) _ h _ zeroH8)
  have HNL := hid n32_length
  have HLL := hid hl
  have HRL := hid hr
  have H0l := hid (show At ((w.alloc (.cells (ubs l).toArray 29)).alloc (.cells (ubs r).toArray 29)) w.heap.size (ubs l).toArray 29 from (At.new _ _ _).alloc _)
  have H0r := hid (show At ((w.alloc (.cells (ubs l).toArray 29)).alloc (.cells (ubs r).toArray 29)) (w.heap.size + 1) (ubs r).toArray 29 from At.new_at (by simp))
  have H0b := hid (show Below w.heap.size w ((w.alloc (.cells (ubs l).toArray 29)).alloc (.cells (ubs r).toArray 29)) from ((Below.refl w.heap.size w).alloc (Nat.le_refl _) _).alloc (by simp) _)
  have HJN := hid (fun (W : World) (b : Below w.heap.size w W) => hJN W h l r b h1 h2 hl hr)
  have HJT := hid (fun (W : World) (b : Below w.heap.size w W) => hJT W h l r b h1 h2 hl hr)
  have HEM := hid (fun (W : World) (b : Below w.heap.size w W) => hEM W h b h1 h2)
  have HRE := hid (fun (W : World) (b : Below w.heap.size w W) => emptiesR_any W (hR.below b) (HIB.out W b))
  have HIS := hid is_any
  cases hx : emB h with
  | false =>
    have hx2 : htB h = false := by unfold emB at hx; unfold htB; simp at hx ⊢; omega
    have hc : decide (h < 0) = true ∨ (decide (h < 0) = false ∧ decide (32 < h) = true) := by unfold emB at hx; simp at hx ⊢; omega
    have HF := hid (fun (W : World) (b : Below w.heap.size w W) => show Calls Tryd.prog 16 #[.int .i64 h, .agg (ubs l).toArray, .agg (ubs r).toArray] W (fun r w' => r = .returned (.tuple #[.agg (ubs n32).toArray, .iface 38 (.int .i64 1)]) ∧ Below W.heap.size W w') from by
      have := HJN.out W b
      rw [show jnH h l r = n32 by unfold jnH; rw [hx2]; rfl, hx2] at this
      exact this)
    have HT := hid (fun (W : World) (b : Below w.heap.size w W) => show Calls Tryd.prog 17 #[.int .i64 h, .agg (ubs l).toArray, .agg (ubs r).toArray] W (fun e w' => ∃ A c, e = .returned (.tuple #[.slice A 0 c, .iface 38 (.int .i64 1)]) ∧ Rb w' w'.heap.size A [] ∧ Below W.heap.size W w') from by
      have := HJT.out W b
      rw [show jnT h l r = [] by unfold jnT; rw [hx2]; rfl, hx2] at this
      refine this.mono ?_
      rintro r w' ⟨A, n, c, e1, rfl, e3, e4⟩
      exact ⟨A, c, e1, e3, e4⟩)
    have HE := hid (fun (W : World) (b : Below w.heap.size w W) => show Calls Tryd.prog 18 #[.int .i64 h] W (fun r w' => r = .returned (.tuple #[.agg (ubs n32).toArray, .iface 38 (.int .i64 1)]) ∧ Below W.heap.size W w') from by
      have := HEM.out W b
      rw [show emH h = n32 by unfold emH; rw [hx]; rfl, hx] at this
      exact this)
    obtain ⟨jh, hjh⟩ : ∃ j, j = n32 := ⟨_, rfl⟩
    obtain ⟨em, hem⟩ : ∃ j, j = n32 := ⟨_, rfl⟩
    obtain ⟨tx, htx⟩ : ∃ j : List UInt8, j = [] := ⟨_, rfl⟩
    have HHL := hid (show jh.length = 32 by rw [hjh]; exact n32_length)
    have HML := hid (show em.length = 32 by rw [hem]; exact n32_length)
    have HQ1 := hid (show (jh == n32) = true by rw [hjh]; simp)
    have HQ2 := hid (show (em == n32) = true by rw [hem]; simp)
    rw [← hjh] at HF
    rw [← hem] at HE
    rw [← htx] at HT
    clear hl hr h1 h2 hAL hJN hJT hEM hKI hR hI HJN HJT HEM HIB hx hx2 hjh hem htx
    rcases hc with c0 | ⟨c0, c1⟩
    · go_enter Tryd.func4, Tryd.ntmps4
      go_wp2_with (first
        | (go_at_call 7; refine (HAL.out _ H0b.out).mono ?_; rintro r1 w1 ⟨rfl, hb1⟩; have L1 := hid (H0l.out.new_ hb1); have R1 := hid (H0r.out.new_ hb1); have B1 := hid (H0b.out.trans (hb1.mono H0b.out.size)); clear hb1)
        | (refine wpList_valW (by rfl) (run_loadH (.tmp 4) rfl w.heap.size 0 rfl l (range_whole L1.out) HLL.out) ?_)
        | (refine wpList_valW (by rfl) (run_loadH (.tmp 5) rfl (w.heap.size + 1) 0 rfl r (range_whole R1.out) HRL.out) ?_)
        | (go_at_call 16; refine (HF.out w1 B1.out).mono ?_; rintro r2 w2 ⟨rfl, hb2⟩; have L2 := hid (L1.out.new_ hb2); have R2 := hid (R1.out.new_ hb2); have B2 := hid (B1.out.trans (hb2.mono B1.out.size)); clear hb2)
        | (refine Great.wpList_allocTo rfl _ rfl _ _ (HAH.out _ _ _ rfl) ?_)
        | (refine wpList_store_row rfl _ (.tmp 7) (.tmp 21) rfl w2.heap.size (ubs jh).toArray rfl rfl 29 (ubs n32).toArray (heap_alloc_new _ _) (sizeH_of HHL.out) ?e5a (ubs_all _) ?e6a; rotate_right; have L3 := hid (L2.out.new_ (stored_below w2 jh)); have R3 := hid (R2.out.new_ (stored_below w2 jh)); have A3 := hid (stored_at w2 jh); have B3 := hid (B2.out.trans ((stored_below w2 jh).mono B2.out.size)); generalize ((w2.alloc (.cells (ubs n32).toArray 29)).setRow w2.heap.size (ubs jh).toArray) = w3 at L3 R3 A3 B3 ⊢; generalize w2.heap.size = H at A3 ⊢)
        | (refine wpList_valW (by rfl) (run_loadH (.tmp 4) rfl w.heap.size 0 rfl l (range_whole L3.out) HLL.out) ?_)
        | (refine wpList_valW (by rfl) (run_loadH (.tmp 5) rfl (w.heap.size + 1) 0 rfl r (range_whole R3.out) HRL.out) ?_)
        | (go_at_call 17; refine (HT.out w3 B3.out).mono ?_; rintro r4 w4 ⟨A, c, rfl, hr4, hb4⟩; have L4 := hid (L3.out.new_ hb4); have R4 := hid (R3.out.new_ hb4); have A4 := hid (A3.out.new_ hb4); have T4 := hid hr4; have B4 := hid (B3.out.trans (hb4.mono B3.out.size)); clear hb4 hr4)
        | (go_at_call 18; refine (HE.out w4 B4.out).mono ?_; rintro r5 w5 ⟨rfl, hb5⟩; have L5 := hid (L4.out.new_ hb5); have R5 := hid (R4.out.new_ hb5); have A5 := hid (A4.out.new_ hb5); have T5 := hid ((T4.out.below hb5).mono hb5.size); have B5 := hid (B4.out.trans (hb5.mono B4.out.size)); clear hb5)
        | (refine wpList_store_row rfl _ (.tmp 11) (.tmp 33) rfl w5.heap.size (ubs em).toArray rfl rfl 29 (ubs n32).toArray (heap_alloc_new _ _) (sizeH_of HML.out) ?e7a (ubs_all _) ?e8a; rotate_right; have L6 := hid (L5.out.new_ (stored_below w5 em)); have R6 := hid (R5.out.new_ (stored_below w5 em)); have A6 := hid (A5.out.new_ (stored_below w5 em)); have T6 := hid ((T5.out.below (stored_below w5 em)).mono (stored_below w5 em).size); have X6 := hid (stored_at w5 em); have B6 := hid (B5.out.trans ((stored_below w5 em).mono B5.out.size)); generalize ((w5.alloc (.cells (ubs n32).toArray 29)).setRow w5.heap.size (ubs em).toArray) = w6 at L6 R6 A6 T6 X6 B6 ⊢; generalize w5.heap.size = X at X6 ⊢)
        | (go_at_call 19; refine (HRE.out w6 B6.out).mono ?_; rintro r7 w7 ⟨g, c3, rfl, he7, hb7⟩; have H7 := hid (show NjW w l r H jh A tx X em w6.heap.size g c3 w7 from ⟨L6.out.new_ hb7, R6.out.new_ hb7, A6.out.new_ hb7, (T6.out.below hb7).mono hb7.size, X6.out.new_ hb7, he7, B6.out.trans (hb7.mono B6.out.size)⟩); generalize w6.heap.size = B at H7; clear hb7 he7)
        | (go_at_call 10; refine (HIS.out _).mono ?_; rintro r8 w8 ⟨rfl, rfl⟩)
        | (refine wpList_valW (by rfl) (run_loadH (.tmp 11) rfl X 0 rfl em (range_whole H7.out.x) HML.out) ?_)
        | (refine wpList_valW (by rfl) (run_loadH (.tmp 7) rfl H 0 rfl jh (range_whole H7.out.h) HHL.out) ?_)
        | (refine wpList_valW (by rfl) (run_build_hash0 rfl) ?_)
        | (refine wpList_valW (by rfl) (run_eqlH _ (.tmp 53) (.tmp 54) rfl em n32 HML.out HNL.out rfl rfl true HQ2.out _) ?_)
        | (refine wpList_valW (by rfl) (run_eqlH _ (.tmp 58) (.tmp 59) rfl jh n32 HHL.out HNL.out rfl rfl true HQ1.out _) ?_))
      case e5a => simp [ubs_length, n32_length, HHL.out]
      case e7a => simp [ubs_length, n32_length, HML.out]
      go_ret
      exact ⟨rfl, H7.out.below⟩
    · go_enter Tryd.func4, Tryd.ntmps4
      go_wp2_with (first
        | (go_at_call 7; refine (HAL.out _ H0b.out).mono ?_; rintro r1 w1 ⟨rfl, hb1⟩; have L1 := hid (H0l.out.new_ hb1); have R1 := hid (H0r.out.new_ hb1); have B1 := hid (H0b.out.trans (hb1.mono H0b.out.size)); clear hb1)
        | (refine wpList_valW (by rfl) (run_loadH (.tmp 4) rfl w.heap.size 0 rfl l (range_whole L1.out) HLL.out) ?_)
        | (refine wpList_valW (by rfl) (run_loadH (.tmp 5) rfl (w.heap.size + 1) 0 rfl r (range_whole R1.out) HRL.out) ?_)
        | (go_at_call 16; refine (HF.out w1 B1.out).mono ?_; rintro r2 w2 ⟨rfl, hb2⟩; have L2 := hid (L1.out.new_ hb2); have R2 := hid (R1.out.new_ hb2); have B2 := hid (B1.out.trans (hb2.mono B1.out.size)); clear hb2)
        | (refine Great.wpList_allocTo rfl _ rfl _ _ (HAH.out _ _ _ rfl) ?_)
        | (refine wpList_store_row rfl _ (.tmp 7) (.tmp 21) rfl w2.heap.size (ubs jh).toArray rfl rfl 29 (ubs n32).toArray (heap_alloc_new _ _) (sizeH_of HHL.out) ?e5b (ubs_all _) ?e6b; rotate_right; have L3 := hid (L2.out.new_ (stored_below w2 jh)); have R3 := hid (R2.out.new_ (stored_below w2 jh)); have A3 := hid (stored_at w2 jh); have B3 := hid (B2.out.trans ((stored_below w2 jh).mono B2.out.size)); generalize ((w2.alloc (.cells (ubs n32).toArray 29)).setRow w2.heap.size (ubs jh).toArray) = w3 at L3 R3 A3 B3 ⊢; generalize w2.heap.size = H at A3 ⊢)
        | (refine wpList_valW (by rfl) (run_loadH (.tmp 4) rfl w.heap.size 0 rfl l (range_whole L3.out) HLL.out) ?_)
        | (refine wpList_valW (by rfl) (run_loadH (.tmp 5) rfl (w.heap.size + 1) 0 rfl r (range_whole R3.out) HRL.out) ?_)
        | (go_at_call 17; refine (HT.out w3 B3.out).mono ?_; rintro r4 w4 ⟨A, c, rfl, hr4, hb4⟩; have L4 := hid (L3.out.new_ hb4); have R4 := hid (R3.out.new_ hb4); have A4 := hid (A3.out.new_ hb4); have T4 := hid hr4; have B4 := hid (B3.out.trans (hb4.mono B3.out.size)); clear hb4 hr4)
        | (go_at_call 18; refine (HE.out w4 B4.out).mono ?_; rintro r5 w5 ⟨rfl, hb5⟩; have L5 := hid (L4.out.new_ hb5); have R5 := hid (R4.out.new_ hb5); have A5 := hid (A4.out.new_ hb5); have T5 := hid ((T4.out.below hb5).mono hb5.size); have B5 := hid (B4.out.trans (hb5.mono B4.out.size)); clear hb5)
        | (refine wpList_store_row rfl _ (.tmp 11) (.tmp 33) rfl w5.heap.size (ubs em).toArray rfl rfl 29 (ubs n32).toArray (heap_alloc_new _ _) (sizeH_of HML.out) ?e7b (ubs_all _) ?e8b; rotate_right; have L6 := hid (L5.out.new_ (stored_below w5 em)); have R6 := hid (R5.out.new_ (stored_below w5 em)); have A6 := hid (A5.out.new_ (stored_below w5 em)); have T6 := hid ((T5.out.below (stored_below w5 em)).mono (stored_below w5 em).size); have X6 := hid (stored_at w5 em); have B6 := hid (B5.out.trans ((stored_below w5 em).mono B5.out.size)); generalize ((w5.alloc (.cells (ubs n32).toArray 29)).setRow w5.heap.size (ubs em).toArray) = w6 at L6 R6 A6 T6 X6 B6 ⊢; generalize w5.heap.size = X at X6 ⊢)
        | (go_at_call 19; refine (HRE.out w6 B6.out).mono ?_; rintro r7 w7 ⟨g, c3, rfl, he7, hb7⟩; have H7 := hid (show NjW w l r H jh A tx X em w6.heap.size g c3 w7 from ⟨L6.out.new_ hb7, R6.out.new_ hb7, A6.out.new_ hb7, (T6.out.below hb7).mono hb7.size, X6.out.new_ hb7, he7, B6.out.trans (hb7.mono B6.out.size)⟩); generalize w6.heap.size = B at H7; clear hb7 he7)
        | (go_at_call 10; refine (HIS.out _).mono ?_; rintro r8 w8 ⟨rfl, rfl⟩)
        | (refine wpList_valW (by rfl) (run_loadH (.tmp 11) rfl X 0 rfl em (range_whole H7.out.x) HML.out) ?_)
        | (refine wpList_valW (by rfl) (run_loadH (.tmp 7) rfl H 0 rfl jh (range_whole H7.out.h) HHL.out) ?_)
        | (refine wpList_valW (by rfl) (run_build_hash0 rfl) ?_)
        | (refine wpList_valW (by rfl) (run_eqlH _ (.tmp 53) (.tmp 54) rfl em n32 HML.out HNL.out rfl rfl true HQ2.out _) ?_)
        | (refine wpList_valW (by rfl) (run_eqlH _ (.tmp 58) (.tmp 59) rfl jh n32 HHL.out HNL.out rfl rfl true HQ1.out _) ?_))
      case e5b => simp [ubs_length, n32_length, HHL.out]
      case e7b => simp [ubs_length, n32_length, HML.out]
      go_ret
      exact ⟨rfl, H7.out.below⟩
  | true =>
    obtain ⟨k, rfl⟩ : ∃ k : Nat, h = (k : Int) := ⟨h.toNat, by unfold emB at hx; simp at hx; omega⟩
    have hk : k ≤ 32 := by unfold emB at hx; simp at hx; omega
    have c0 : decide ((k : Int) < 0) = false := by simp
    have c1 : decide (32 < (k : Int)) = false := by simp; omega
    have HF := hid (fun (W : World) (b : Below w.heap.size w W) => show Calls Tryd.prog 16 #[.int .i64 (k : Int), .agg (ubs l).toArray, .agg (ubs r).toArray] W (fun e w' => e = .returned (.tuple #[.agg (ubs (jnH (k : Int) l r)).toArray, errV (if htB (k : Int) then 0 else 1)]) ∧ Below W.heap.size W w') from HJN.out W b)
    have HT := hid (fun (W : World) (b : Below w.heap.size w W) => show Calls Tryd.prog 17 #[.int .i64 (k : Int), .agg (ubs l).toArray, .agg (ubs r).toArray] W (fun e w' => ∃ A c, e = .returned (.tuple #[.slice A (jnT (k : Int) l r).length c, errV (if htB (k : Int) then 0 else 1)]) ∧ Rb w' w'.heap.size A (jnT (k : Int) l r) ∧ Below W.heap.size W w') from by
      refine (HJT.out W b).mono ?_
      rintro r w' ⟨A, n, c, e1, rfl, e3, e4⟩
      exact ⟨A, c, e1, e3, e4⟩)
    have HE := hid (fun (W : World) (b : Below w.heap.size w W) => show Calls Tryd.prog 18 #[.int .i64 (k : Int)] W (fun r w' => r = .returned (.tuple #[.agg (ubs (emptyL k)).toArray, .nilIface]) ∧ Below W.heap.size W w') from by
      have := HEM.out W b
      rw [show emH (k : Int) = emptyL k by unfold emH; rw [hx]; rfl, hx] at this
      exact this)
    have HC := hid (show (k = 0 ∧ errV (if htB (k : Int) then 0 else 1) = .iface 38 (.int .i64 1) ∧ (jnT (k : Int) l r).length = 0) ∨ (0 < k ∧ errV (if htB (k : Int) then 0 else 1) = .nilIface ∧ (jnT (k : Int) l r).length = 66 ∧ jnH (k : Int) l r = hashL (joinT k l r) ∧ jnT (k : Int) l r = joinT k l r) from by
      by_cases e : k = 0
      · have : htB (k : Int) = false := by unfold htB; simp; omega
        exact Or.inl ⟨e, by rw [this]; rfl, by unfold jnT; rw [this]; rfl⟩
      · have : htB (k : Int) = true := by unfold htB; simp; omega
        refine Or.inr ⟨by omega, by rw [this]; rfl, ?_, by unfold jnH; rw [this]; rfl, by unfold jnT; rw [this]; rfl⟩
        unfold jnT
        rw [this]
        exact joinT_length k l r hl hr)
    have HHL := hid (show (jnH (k : Int) l r).length = 32 by unfold jnH; split <;> first | exact hashL_length _ | exact n32_length)
    have HML := hid (emptyL_length k)
    generalize jnH (k : Int) l r = jh at HF HC HHL
    generalize errV (if htB (k : Int) then 0 else 1) = E1 at HF HT HC
    obtain ⟨nT, hnT⟩ : ∃ n, n = (jnT (k : Int) l r).length := ⟨_, rfl⟩
    rw [← hnT] at HT HC
    have HNT := hid hnT
    generalize jnT (k : Int) l r = tx at HT HC HNT
    have HKI := hid (fun (W : World) (A : Option Addr) (c : Nat) (b : Below w.heap.size w W) (rb : Rb W W.heap.size A (joinT k l r)) (h0 : 0 < k) => show Calls Tryd.prog 15 #[.slice A 66 c] W (fun r w' => r = .returned (.int .i64 3) ∧ Below W.heap.size W w') from by
      have := hKI W _ A c b rb (by rw [joinT_length k l r hl hr]; omega)
      rw [kind_join k l r hl hr h0 (by omega), joinT_length k l r hl hr] at this
      exact this)
    have HBY := hid (fun (W : World) (A B : Option Addr) (c c' : Nat) (h1 : Rb W W.heap.size A (joinT k l r)) (h2 : Rb W W.heap.size B (joinT k l r)) => show Calls Tryd.prog 13 #[.slice A 66 c, .slice B 66 c'] W (fun e w' => e = .returned (.bool true) ∧ W = w') from by
      have := bytes_any _ _ A B c c' W h1 h2
      rw [joinT_length k l r hl hr] at this
      simpa using this)
    have HRJ := hid (fun (W : World) (b : Below w.heap.size w W) => joinR_any k l r W hl hr (hR.below b) (HIB.out W b))
    have HRT := hid (fun W => joinTextR_any k l r W hl hr)
    have HGE := hid (fun (W : World) (B g c : Nat) (h : Hw W B (.slice (some ⟨g, 0, none⟩) 33 c) 33 (eRow 33)) => h.range (k := k) (by omega))
    have HK33 := hid (show (k : Int) < 33 by omega)
    obtain ⟨em, hem⟩ : ∃ j, j = emptyL k := ⟨_, rfl⟩
    rw [← hem] at HE HML HGE
    clear hl hr h1 h2 hAL hJN hJT hEM hKI hR hI HJN HJT HEM HIB hx hnT hk hem
    go_enter Tryd.func4, Tryd.ntmps4
    go_wp2_with (first
      | (go_at_call 7; refine (HAL.out _ H0b.out).mono ?_; rintro r1 w1 ⟨rfl, hb1⟩; have L1 := hid (H0l.out.new_ hb1); have R1 := hid (H0r.out.new_ hb1); have B1 := hid (H0b.out.trans (hb1.mono H0b.out.size)); clear hb1)
      | (refine wpList_valW (by rfl) (run_loadH (.tmp 4) rfl w.heap.size 0 rfl l (range_whole L1.out) HLL.out) ?_)
      | (refine wpList_valW (by rfl) (run_loadH (.tmp 5) rfl (w.heap.size + 1) 0 rfl r (range_whole R1.out) HRL.out) ?_)
      | (go_at_call 16; refine (HF.out w1 B1.out).mono ?_; rintro r2 w2 ⟨rfl, hb2⟩; have L2 := hid (L1.out.new_ hb2); have R2 := hid (R1.out.new_ hb2); have B2 := hid (B1.out.trans (hb2.mono B1.out.size)); clear hb2)
      | (refine Great.wpList_allocTo rfl _ rfl _ _ (HAH.out _ _ _ rfl) ?_)
      | (refine wpList_store_row rfl _ (.tmp 7) (.tmp 21) rfl w2.heap.size (ubs jh).toArray rfl rfl 29 (ubs n32).toArray (heap_alloc_new _ _) (sizeH_of HHL.out) ?e5c (ubs_all _) ?e6c; rotate_right; have L3 := hid (L2.out.new_ (stored_below w2 jh)); have R3 := hid (R2.out.new_ (stored_below w2 jh)); have A3 := hid (stored_at w2 jh); have B3 := hid (B2.out.trans ((stored_below w2 jh).mono B2.out.size)); generalize ((w2.alloc (.cells (ubs n32).toArray 29)).setRow w2.heap.size (ubs jh).toArray) = w3 at L3 R3 A3 B3 ⊢; generalize w2.heap.size = H at A3 ⊢)
      | (refine wpList_valW (by rfl) (run_loadH (.tmp 4) rfl w.heap.size 0 rfl l (range_whole L3.out) HLL.out) ?_)
      | (refine wpList_valW (by rfl) (run_loadH (.tmp 5) rfl (w.heap.size + 1) 0 rfl r (range_whole R3.out) HRL.out) ?_)
      | (go_at_call 17; refine (HT.out w3 B3.out).mono ?_; rintro r4 w4 ⟨A, c, rfl, hr4, hb4⟩; have L4 := hid (L3.out.new_ hb4); have R4 := hid (R3.out.new_ hb4); have A4 := hid (A3.out.new_ hb4); have T4 := hid hr4; have B4 := hid (B3.out.trans (hb4.mono B3.out.size)); clear hb4 hr4)
      | (go_at_call 18; refine (HE.out w4 B4.out).mono ?_; rintro r5 w5 ⟨rfl, hb5⟩; have L5 := hid (L4.out.new_ hb5); have R5 := hid (R4.out.new_ hb5); have A5 := hid (A4.out.new_ hb5); have T5 := hid ((T4.out.below hb5).mono hb5.size); have B5 := hid (B4.out.trans (hb5.mono B4.out.size)); clear hb5)
      | (refine wpList_store_row rfl _ (.tmp 11) (.tmp 33) rfl w5.heap.size (ubs em).toArray rfl rfl 29 (ubs n32).toArray (heap_alloc_new _ _) (sizeH_of HML.out) ?e7c (ubs_all _) ?e8c; rotate_right; have L6 := hid (L5.out.new_ (stored_below w5 em)); have R6 := hid (R5.out.new_ (stored_below w5 em)); have A6 := hid (A5.out.new_ (stored_below w5 em)); have T6 := hid ((T5.out.below (stored_below w5 em)).mono (stored_below w5 em).size); have X6 := hid (stored_at w5 em); have B6 := hid (B5.out.trans ((stored_below w5 em).mono B5.out.size)); generalize ((w5.alloc (.cells (ubs n32).toArray 29)).setRow w5.heap.size (ubs em).toArray) = w6 at L6 R6 A6 T6 X6 B6 ⊢; generalize w5.heap.size = X at X6 ⊢)
      | (go_at_call 19; refine (HRE.out w6 B6.out).mono ?_; rintro r7 w7 ⟨g, c3, rfl, he7, hb7⟩; have H7 := hid (show NjW w l r H jh A tx X em w6.heap.size g c3 w7 from ⟨L6.out.new_ hb7, R6.out.new_ hb7, A6.out.new_ hb7, (T6.out.below hb7).mono hb7.size, X6.out.new_ hb7, he7, B6.out.trans (hb7.mono B6.out.size)⟩); generalize w6.heap.size = B at H7; clear hb7 he7))
    case e5c => simp [ubs_length, n32_length, HHL.out]
    case e7c => simp [ubs_length, n32_length, HML.out]
    clear L1 L2 L3 L4 L5 L6 R1 R2 R3 R4 R5 R6 A3 A4 A5 A6 T4 T5 T6 X6 B1 B2 B3 B4 B5 B6
    try simp only [Act.put, List.setIfInBounds_toArray, List.set_cons_succ, List.set_cons_zero]
    refine wp_region_facts 10 10 [62, 63, 64, 65, 66, 67, 68, 69, 70, 71] (fun j v _ => v = nj9 g c3 k em j) (NjW w l r H jh A tx X em B g c3) (by kernel_rfl) (by kernel_rfl)
      (fun W W' h hb => h.new hb) (fun _ _ _ _ h _ => h) (H7.out.drew) ?_ ?_
    · intro i hi vals W K hB hn hK
      simp only [frm_cons, frm_nil, List.set_cons_succ, List.set_cons_zero, Nat.reduceAdd] at hK ⊢
      rcases (by omega : i = 0 ∨ i = 1 ∨ i = 2 ∨ i = 3 ∨ i = 4 ∨ i = 5 ∨ i = 6 ∨ i = 7 ∨ i = 8 ∨ i = 9) with rfl | rfl | rfl | rfl | rfl | rfl | rfl | rfl | rfl | rfl
      · refine wpOp_plain rfl rfl (wp_val (w' := W) (v := .nilIface) (by go_simp) ?_)
        exact hK _ _ rfl (Below.refl _ _)
      · have h0 := hn 0 (by decide +kernel)
        simp only [nj9] at h0
        simp only [h0] at hK ⊢
        refine wpOp_plain rfl rfl (wp_val (w' := W) (v := .bool false) (by go_simp) ?_)
        exact hK _ _ rfl (Below.refl _ _)
      · have h1 := hn 1 (by decide +kernel)
        simp only [nj9] at h1
        simp only [h1] at hK ⊢
        refine wpOp_plain rfl rfl (wp_val (w' := W) (v := .bool false) (by go_simp) ?_)
        exact hK _ _ rfl (Below.refl _ _)
      · have h2 := hn 2 (by decide +kernel)
        simp only [nj9] at h2
        simp only [h2] at hK ⊢
        refine wpOp_on rfl (by rfl) (wp_val (run_loadH (.tmp 11) rfl X 0 rfl em (range_whole hB.x) HML.out) ?_)
        exact hK _ _ rfl (Below.refl _ _)
      · have h2 := hn 2 (by decide +kernel)
        simp only [nj9] at h2
        simp only [h2] at hK ⊢
        refine wpOp_on rfl (by rfl) (wp_val (w' := W) (v := .slice (some ⟨g, 0, none⟩) 33 c3) (by go_simp) ?_)
        exact hK _ _ rfl (Below.refl _ _)
      · have h2 := hn 2 (by decide +kernel)
        simp only [nj9] at h2
        simp only [h2] at hK ⊢
        refine wpOp_on rfl (by rfl) (wp_val (w' := W) (v := .int .i64 (k : Int)) (by go_simp) ?_)
        exact hK _ _ rfl (Below.refl _ _)
      · have h2 := hn 2 (by decide +kernel)
        have h4 := hn 4 (by decide +kernel)
        have h5 := hn 5 (by decide +kernel)
        simp only [nj9] at h2 h4 h5
        simp only [h2, h4, h5] at hK ⊢
        have hk := HK33.out
        refine wpOp_on rfl (by rfl) (wp_val (w' := W) (v := .pointer (some ⟨g, 32 * k, none⟩)) (by go_simp) ?_)
        exact hK _ _ rfl (Below.refl _ _)
      · have h2 := hn 2 (by decide +kernel)
        have h6 := hn 6 (by decide +kernel)
        simp only [nj9] at h2 h6
        simp only [h2, h6] at hK ⊢
        refine wpOp_on rfl (by rfl) (wp_val (run_loadH (.tmp 68) rfl g (32 * k) rfl em (HGE.out W B g c3 hB.e) HML.out) ?_)
        exact hK _ _ rfl (Below.refl _ _)
      · have h2 := hn 2 (by decide +kernel)
        have h3 := hn 3 (by decide +kernel)
        have h7 := hn 7 (by decide +kernel)
        simp only [nj9] at h2 h3 h7
        simp only [h2, h3, h7] at hK ⊢
        refine wpOp_on rfl (by rfl) (wp_val (run_neqH _ (.tmp 65) (.tmp 69) rfl em em HML.out HML.out rfl rfl false (by simp) W) ?_)
        exact hK _ _ rfl (Below.refl _ _)
      · have h2 := hn 2 (by decide +kernel)
        have h8 := hn 8 (by decide +kernel)
        simp only [nj9] at h2 h8
        simp only [h2, h8] at hK ⊢
        refine wpOp_plain rfl rfl (wp_val (w' := W) (v := .bool false) (by go_simp) ?_)
        exact hK _ _ rfl (Below.refl _ _)
    · intro vals W hB hF
      have h9 := hF 9 (by omega)
      simp only [nj9] at h9
      simp only [frm_cons, frm_nil, List.set_cons_succ, List.set_cons_zero, Nat.reduceAdd, h9]
      refine wpUpto_done (by decide +kernel) ?_ _
      have H9 := hid hB
      clear hB hF h9
      rcases HC.out with ⟨rfl, rfl, rfl⟩ | ⟨h0, rfl, rfl, rfl, rfl⟩
      · clear HC HNT HK33 HGE HRT HRJ HBY HKI
        go_simp
        go_wp2_with (first
          | (go_at_call 10; refine (HIS.out _).mono ?_; rintro r8 w8 ⟨rfl, rfl⟩))
        go_ret
        exact ⟨rfl, H9.out.below⟩
      · clear HC HNT
        have HK0 := hid h0
        have c2 : decide ((k : Int) = 0) = false := by simp; omega
        have c3' : ((k : Int) == 0) = false := by simp; omega
        clear h0
        go_simp
        go_wp2
        try simp only [Act.put, List.setIfInBounds_toArray, List.set_cons_succ, List.set_cons_zero]
        refine wp_region_facts 28 28 [85, 86, 87, 88, 89, 90, 91, 92, 93, 94, 95, 96, 97, 98, 99, 100, 101, 102, 103, 104, 105, 106, 107, 108, 109, 110, 111, 6] (njF k l r (hashL (joinT k l r)) (joinT k l r) A c) (NjW w l r H (hashL (joinT k l r)) A (joinT k l r) X em B g c3) (by kernel_rfl) (by kernel_rfl)
          (fun W W' h hb => h.new hb) (fun _ _ _ _ h hb => njF_new h hb) (H9.out.drew) ?_ ?_
        · intro i hi vals W K hB hn hK
          simp only [frm_cons, frm_nil, List.set_cons_succ, List.set_cons_zero, Nat.reduceAdd] at hK ⊢
          rcases (by omega : i = 0 ∨ i = 1 ∨ i = 2 ∨ i = 3 ∨ i = 4 ∨ i = 5 ∨ i = 6 ∨ i = 7 ∨ i = 8 ∨ i = 9 ∨ i = 10 ∨ i = 11 ∨ i = 12 ∨ i = 13 ∨ i = 14 ∨ i = 15 ∨ i = 16 ∨ i = 17 ∨ i = 18 ∨ i = 19 ∨ i = 20 ∨ i = 21 ∨ i = 22 ∨ i = 23 ∨ i = 24 ∨ i = 25 ∨ i = 26 ∨ i = 27) with rfl | rfl | rfl | rfl | rfl | rfl | rfl | rfl | rfl | rfl | rfl | rfl | rfl | rfl | rfl | rfl | rfl | rfl | rfl | rfl | rfl | rfl | rfl | rfl | rfl | rfl | rfl | rfl
          · refine wpOp_plain rfl rfl (wp_val (w' := W) (v := .nilIface) (by go_simp) ?_)
            exact hK _ _ rfl (Below.refl _ _)
          · have h0 := hn 0 (by decide +kernel)
            simp only [njF] at h0
            simp only [h0] at hK ⊢
            refine wpOp_plain rfl rfl (wp_val (w' := W) (v := .bool true) (by go_simp) ?_)
            exact hK _ _ rfl (Below.refl _ _)
          · have h1 := hn 1 (by decide +kernel)
            simp only [njF] at h1
            simp only [h1] at hK ⊢
            refine wpOp_plain rfl rfl (wp_val (w' := W) (v := .bool true) (by go_simp) ?_)
            exact hK _ _ rfl (Below.refl _ _)
          · have h2 := hn 2 (by decide +kernel)
            simp only [njF] at h2
            simp only [h2] at hK ⊢
            refine wpOp_on rfl (by rfl) (wp_val (w' := W) (v := .nilIface) (by go_simp) ?_)
            exact hK _ _ rfl (Below.refl _ _)
          · have h2 := hn 2 (by decide +kernel)
            have h3 := hn 3 (by decide +kernel)
            simp only [njF] at h2 h3
            simp only [h2, h3] at hK ⊢
            refine wpOp_on rfl (by rfl) (wp_val (w' := W) (v := .bool true) (by go_simp) ?_)
            exact hK _ _ rfl (Below.refl _ _)
          · have h2 := hn 2 (by decide +kernel)
            have h4 := hn 4 (by decide +kernel)
            simp only [njF] at h2 h4
            simp only [h2, h4] at hK ⊢
            refine wpOp_plain rfl rfl (wp_val (w' := W) (v := .bool true) (by go_simp) ?_)
            exact hK _ _ rfl (Below.refl _ _)
          · have h5 := hn 5 (by decide +kernel)
            simp only [njF] at h5
            simp only [h5] at hK ⊢
            refine wpOp_plain rfl rfl (wp_val (w' := W) (v := .bool true) (by go_simp) ?_)
            exact hK _ _ rfl (Below.refl _ _)
          · have h6 := hn 6 (by decide +kernel)
            simp only [njF] at h6
            simp only [h6] at hK ⊢
            refine wpOp_on rfl (by rfl) (wp_val (run_loadH (.tmp 7) rfl H 0 rfl (hashL (joinT k l r)) (range_whole hB.h) HHL.out) ?_)
            exact hK _ _ rfl (Below.refl _ _)
          · have h6 := hn 6 (by decide +kernel)
            simp only [njF] at h6
            simp only [h6] at hK ⊢
            refine wpOp_on rfl (by rfl) (wp_val (w' := W) (v := .int .i64 (k : Int)) (by go_simp) ?_)
            exact hK _ _ rfl (Below.refl _ _)
          · have h6 := hn 6 (by decide +kernel)
            simp only [njF] at h6
            simp only [h6] at hK ⊢
            refine wpOp_on rfl (by rfl) (wp_val (run_loadH (.tmp 4) rfl w.heap.size 0 rfl l (range_whole hB.l) HLL.out) ?_)
            exact hK _ _ rfl (Below.refl _ _)
          · have h6 := hn 6 (by decide +kernel)
            simp only [njF] at h6
            simp only [h6] at hK ⊢
            refine wpOp_on rfl (by rfl) (wp_val (run_loadH (.tmp 5) rfl (w.heap.size + 1) 0 rfl r (range_whole hB.r) HRL.out) ?_)
            exact hK _ _ rfl (Below.refl _ _)
          · have h6 := hn 6 (by decide +kernel)
            have h8 := hn 8 (by decide +kernel)
            have h9 := hn 9 (by decide +kernel)
            have h10 := hn 10 (by decide +kernel)
            simp only [njF] at h6 h8 h9 h10
            simp only [h6, h8, h9, h10] at hK ⊢
            refine wpOp_on rfl (by rfl) ?_
            go_simp
            go_at_call 20
            refine (HRJ.out W hB.below).mono ?_
            rintro e W' ⟨rfl, hb⟩
            exact hK _ _ rfl hb
          · have h6 := hn 6 (by decide +kernel)
            have h7 := hn 7 (by decide +kernel)
            have h11 := hn 11 (by decide +kernel)
            simp only [njF] at h6 h7 h11
            simp only [h6, h7, h11] at hK ⊢
            refine wpOp_on rfl (by rfl) (wp_val (run_eqlH _ (.tmp 92) (.tmp 96) rfl (hashL (joinT k l r)) (hashL (joinT k l r)) HHL.out HHL.out rfl rfl true (by simp) W) ?_)
            exact hK _ _ rfl (Below.refl _ _)
          · have h6 := hn 6 (by decide +kernel)
            have h12 := hn 12 (by decide +kernel)
            simp only [njF] at h6 h12
            simp only [h6, h12] at hK ⊢
            refine wpOp_plain rfl rfl (wp_val (w' := W) (v := .bool true) (by go_simp) ?_)
            exact hK _ _ rfl (Below.refl _ _)
          · have h13 := hn 13 (by decide +kernel)
            simp only [njF] at h13
            simp only [h13] at hK ⊢
            refine wpOp_plain rfl rfl (wp_val (w' := W) (v := .bool true) (by go_simp) ?_)
            exact hK _ _ rfl (Below.refl _ _)
          · have h14 := hn 14 (by decide +kernel)
            simp only [njF] at h14
            simp only [h14] at hK ⊢
            refine wpOp_on rfl (by rfl) (wp_val (w' := W) (v := .slice A 66 c) (by go_simp) ?_)
            exact hK _ _ rfl (Below.refl _ _)
          · have h14 := hn 14 (by decide +kernel)
            simp only [njF] at h14
            simp only [h14] at hK ⊢
            refine wpOp_on rfl (by rfl) (wp_val (w' := W) (v := .int .i64 (k : Int)) (by go_simp) ?_)
            exact hK _ _ rfl (Below.refl _ _)
          · have h14 := hn 14 (by decide +kernel)
            simp only [njF] at h14
            simp only [h14] at hK ⊢
            refine wpOp_on rfl (by rfl) (wp_val (run_loadH (.tmp 4) rfl w.heap.size 0 rfl l (range_whole hB.l) HLL.out) ?_)
            exact hK _ _ rfl (Below.refl _ _)
          · have h14 := hn 14 (by decide +kernel)
            simp only [njF] at h14
            simp only [h14] at hK ⊢
            refine wpOp_on rfl (by rfl) (wp_val (run_loadH (.tmp 5) rfl (w.heap.size + 1) 0 rfl r (range_whole hB.r) HRL.out) ?_)
            exact hK _ _ rfl (Below.refl _ _)
          · have h14 := hn 14 (by decide +kernel)
            have h16 := hn 16 (by decide +kernel)
            have h17 := hn 17 (by decide +kernel)
            have h18 := hn 18 (by decide +kernel)
            simp only [njF] at h14 h16 h17 h18
            simp only [h14, h16, h17, h18] at hK ⊢
            refine wpOp_on rfl (by rfl) ?_
            go_simp
            go_at_call 21
            refine (HRT.out W).mono ?_
            rintro e W' ⟨B9, c', rfl, hr, hb⟩
            exact hK _ _ ⟨B9, c', rfl, hr⟩ hb
          · have h14 := hn 14 (by decide +kernel)
            have h15 := hn 15 (by decide +kernel)
            have h19 := hn 19 (by decide +kernel)
            simp only [njF] at h14 h15
            obtain ⟨B19, c19, e19, R19⟩ := h19
            simp only [h14, h15, e19] at hK ⊢
            refine wpOp_on rfl (by rfl) ?_
            go_simp
            go_at_call 13
            refine (HBY.out W A B19 c c19 hB.b R19).mono ?_
            rintro e W' ⟨rfl, rfl⟩
            exact hK _ _ rfl (Below.refl _ _)
          · have h14 := hn 14 (by decide +kernel)
            have h20 := hn 20 (by decide +kernel)
            simp only [njF] at h14 h20
            simp only [h14, h20] at hK ⊢
            refine wpOp_plain rfl rfl (wp_val (w' := W) (v := .bool true) (by go_simp) ?_)
            exact hK _ _ rfl (Below.refl _ _)
          · have h21 := hn 21 (by decide +kernel)
            simp only [njF] at h21
            simp only [h21] at hK ⊢
            refine wpOp_plain rfl rfl (wp_val (w' := W) (v := .bool true) (by go_simp) ?_)
            exact hK _ _ rfl (Below.refl _ _)
          · have h22 := hn 22 (by decide +kernel)
            simp only [njF] at h22
            simp only [h22] at hK ⊢
            refine wpOp_on rfl (by rfl) (wp_val (w' := W) (v := .slice A 66 c) (by go_simp) ?_)
            exact hK _ _ rfl (Below.refl _ _)
          · have h22 := hn 22 (by decide +kernel)
            have h23 := hn 23 (by decide +kernel)
            simp only [njF] at h22 h23
            simp only [h22, h23] at hK ⊢
            refine wpOp_on rfl (by rfl) ?_
            go_simp
            go_at_call 15
            refine (HKI.out W A c hB.below hB.b HK0.out).mono ?_
            rintro e W' ⟨rfl, hb⟩
            exact hK _ _ rfl hb
          · have h22 := hn 22 (by decide +kernel)
            have h24 := hn 24 (by decide +kernel)
            simp only [njF] at h22 h24
            simp only [h22, h24] at hK ⊢
            refine wpOp_on rfl (by rfl) (wp_val (w' := W) (v := .bool true) (by go_simp) ?_)
            exact hK _ _ rfl (Below.refl _ _)
          · have h22 := hn 22 (by decide +kernel)
            have h25 := hn 25 (by decide +kernel)
            simp only [njF] at h22 h25
            simp only [h22, h25] at hK ⊢
            refine wpOp_plain rfl rfl (wp_val (w' := W) (v := .bool true) (by go_simp) ?_)
            exact hK _ _ rfl (Below.refl _ _)
          · have h26 := hn 26 (by decide +kernel)
            simp only [njF] at h26
            simp only [h26] at hK ⊢
            refine wpOp_plain rfl rfl (wp_val (w' := W) (v := .bool true) (by go_simp) ?_)
            exact hK _ _ rfl (Below.refl _ _)
        · intro vals W hB hF
          have h27 := hF 27 (by omega)
          simp only [njF] at h27
          simp only [frm_cons, frm_nil, List.set_cons_succ, List.set_cons_zero, Nat.reduceAdd, h27]
          refine wpUpto_done (by decide +kernel) ?_ _
          have HEE := hid hB.below
          clear hB hF h27
          go_simp
          go_wp2
          go_ret
          exact ⟨rfl, HEE.out⟩
end Go.Proofs.YthbppiobadcbkaaDoor
