/-
  The program's layer 7: Read of a reader that hasn't enough, or has an error; Read by the reader's state.
  Layer 13, the program's side: indices read.
-/
import Derived.Test.YtfmbpdjcoopaeaaDoorP9
import Derived.Test.YtfmbpdjcoopaeaaDoorM5
namespace Go.Proofs.YtfmbpdjcoopaeaaDoor
open Go.RowKit

/-- What holds in Read: the reader that is read to its end, the result. -/
structure RwN (w : World) (base : Nat → Prop) (p k : Nat) (lr : List UInt8) (W : World) : Prop where
  rs : RS W (fun g => base g ∧ g < w.heap.size) p k lr
  res : At W w.heap.size (sv 0 n32 n16).toArray 37
  fr : Fr (Only p) w W
theorem RwN.next {w W W' : World} {base : Nat → Prop} {p k : Nat} {lr : List UInt8} {S : Nat → Prop} (h : RwN w base p k lr W) (hF : Fr S W W') (hs : ∀ g, S g → w.heap.size < g) : RwN w base p k lr W' :=
  ⟨h.rs.fr hF (fun g hg c => by have := hs g c; omega), h.res.fr hF (fun c => by have := hs _ c; omega), h.fr.next hF (fun g hg c => by have := hs g c; omega)⟩
theorem RwN.drew {w W : World} {base : Nat → Prop} {p k : Nat} {lr : List UInt8} (h : RwN w base p k lr W) : RwN w base p k lr W.drew := h.next ((Fr.refl (fun _ => False) W).drew) (fun _ h => h.elim)
/-- Beside: the reader of the 56 bytes, and the sealed block as it grows. -/
structure RxN (w : World) (base : Nat → Prop) (p k : Nat) (lr : List UInt8) (p2 k2 Z X : Nat) (bs : List UInt8) (x : List Value) (W : World) : Prop where
  rw : RwN w base p k lr W
  r2 : RS W (fun g => w.heap.size < g ∧ g < Z) p2 k2 bs
  x : At W X x.toArray 37
  far : Z ≤ X ∧ w.heap.size < X
section
variable {w W W' : World} {base : Nat → Prop} {p k p2 k2 k3 Z X : Nat} {lr bs bs' : List UInt8} {x x' : List Value}
theorem RxN.drew (h : RxN w base p k lr p2 k2 Z X bs x W) : RxN w base p k lr p2 k2 Z X bs x W.drew := ⟨h.rw.drew, h.r2.fr ((Fr.refl (fun _ => False) W).drew) (fun _ _ h => h), h.x, h.far⟩
theorem rs_lowK {q c : Nat} {l : List UInt8} {bb : Nat → Prop} (h : RS W bb q c l) : bb q := by obtain ⟨_, _, h⟩ := h; exact h.low
theorem RxN.read (h : RxN w base p k lr p2 k2 Z X bs x W) (hr : RS W' (fun g => w.heap.size < g ∧ g < Z) p2 k3 bs') (hF : Fr (Only p2) W W') : RxN w base p k lr p2 k3 Z X bs' x W' :=
  ⟨h.rw.next hF (fun g hg => by have h1 := rs_lowK hr; rw [show g = p2 from hg]; exact h1.1), hr, h.x.fr hF (fun c => by
    have h1 := rs_lowK hr
    have h2 := h.far
    have h3 : X = p2 := c
    have h4 : p2 < Z := h1.2
    omega), h.far⟩
theorem RxN.fill (h : RxN w base p k lr p2 k2 Z X bs x W) (hA : At W' X x'.toArray 37) (hF : Fr (fun k => k = X) W W') : RxN w base p k lr p2 k2 Z X bs x' W' :=
  ⟨h.rw.next hF (fun g hg => by have := h.far; omega), h.r2.fr hF (fun g hg c => by have := h.far; have h1 : w.heap.size < g ∧ g < Z := hg; omega), hA, h.far⟩
end
set_option maxRecDepth 100000 in
set_option maxHeartbeats 2000000 in
theorem pread_no (base : Nat → Prop) (p k : Nat) (bs : List UInt8) (w : World) (h : RS w base p k bs) (hl : bs.length < 56) :
    Calls Tryd.prog 90 #[.pointer (some ⟨p, 0, none⟩)] w fun r w' => r = .returned (.agg (sv 0 n32 n16).toArray) ∧ RS w' base p (werr k 2) [] ∧ Fr (Only p) w w' := by
  have hp := h.lt
  have HAS := hid (fun (o : Oper) (a : Go.Act) (W : World) (h : o.op = .alloc 37) => run_alloc_of (o := o) (a := a) (W := W) _ h _ zeroPs)
  obtain ⟨W0, hW0⟩ : ∃ W0, W0 = w.alloc (.cells (sv 0 n32 n16).toArray 37) := ⟨_, rfl⟩
  have hs0 : W0.heap.size = w.heap.size + 1 := by rw [hW0]; simp
  obtain ⟨k1, hk1⟩ : ∃ x, x = werr k 2 := ⟨_, rfl⟩
  rw [← hk1]
  have HR1 := hid (show Calls Tryd.prog 131 #[.pointer (some ⟨p, 0, none⟩), .int .i64 56] W0 (fun e w' => ∃ A c, e = .returned (.slice A 0 c) ∧ Rb w' w'.heap.size A [] ∧ RwN w base p k1 [] w' ∧ W0.heap.size ≤ w'.heap.size) from by
    have h0 : RS W0 (fun g => base g ∧ g < w.heap.size) p k bs := by rw [hW0]; exact h.old.new ((Below.refl _ _).alloc (Nat.le_refl _) _)
    refine (rraw_bad _ p k bs 56 W0 h0 (.inr (by omega))).mono ?_
    rintro e w' ⟨x, rfl, ho, hr, hf⟩
    rw [← hk1] at hr
    obtain ⟨A, c, rfl, -⟩ := own_form ho
    refine ⟨A, c, rfl, Rd.of_own ho, ⟨hr, ?_, ?_⟩, hf.size⟩
    · refine At.fr (w := W0) ?_ hf (fun c => ?_)
      · rw [hW0]; exact At.new _ _ _
      · have h3 : w.heap.size = p := c
        omega
    · have : Fr (Only p) w W0 := by rw [hW0]; exact (Fr.refl _ _).alloc _
      exact this.trans hf)
  have HFR := hid (fun (W : World) (A : Option Addr) (c : Nat) (hw : RwN w base p k1 [] W) (hb : Rb W W.heap.size A []) (hz : W0.heap.size ≤ W.heap.size) => show Calls Tryd.prog 67 #[.slice A 0 c] W (fun e w' => ∃ p2, e = .returned (.pointer (some ⟨p2, 0, none⟩)) ∧ RS w' (fun g => w.heap.size < g ∧ g < w'.heap.size) p2 0 [] ∧ RwN w base p k1 [] w') from by
    have := from_any [] A c W hb (by simp)
    refine Calls.mono this ?_
    rintro e w' ⟨p2, rfl, hp2, hr, hbl⟩
    refine ⟨p2, rfl, hr.mono (fun g hg => ⟨by omega, hg.2⟩), hw.next (Fr.of_new (S := fun _ => False) hbl) (fun _ h => h.elim)⟩)
  have HNU := hid (fun (W : World) (p2 Z : Nat) (hw : RwN w base p k1 [] W) (hr : RS W (fun g => w.heap.size < g ∧ g < Z) p2 0 []) (hZ : Z = W.heap.size) => show Calls Tryd.prog 129 #[.pointer (some ⟨p2, 0, none⟩), .int .i64 8] W (fun e w' => e = .returned (.int .u64 ((0 : Nat) : Int)) ∧ RS w' (fun g => w.heap.size < g ∧ g < Z) p2 2 [] ∧ RwN w base p k1 [] w' ∧ Z ≤ w'.heap.size) from by
    refine (rnum_bad _ p2 0 [] 8 W hr (.inl (by simp))).mono ?_
    rintro e w' ⟨x, rfl, rfl, hr', hf⟩
    refine ⟨rfl, hr', hw.next hf (fun g hg => ?_), by rw [hZ]; exact hf.size⟩
    have h1 := rs_lowK hr'
    rw [show g = p2 from hg]
    exact h1.1)
  have HRD := hid (fun (W : World) (p2 Z X : Nat) (x : List Value) (n : Nat) (hn : 0 < n) (hx : RxN w base p k1 [] p2 2 Z X [] x W) => show Calls Tryd.prog 131 #[.pointer (some ⟨p2, 0, none⟩), .int .i64 (n : Int)] W (fun e w' => ∃ A c, e = .returned (.slice A 0 c) ∧ Rb w' w'.heap.size A [] ∧ RxN w base p k1 [] p2 2 Z X [] x w') from by
    refine (rraw_bad _ p2 2 [] (n : Int) W hx.r2 (.inr (by simp; omega))).mono ?_
    rintro e w' ⟨x', rfl, ho, hr, hf⟩
    obtain ⟨A, c, rfl, -⟩ := own_form ho
    exact ⟨A, c, rfl, Rd.of_own ho, hx.read hr hf⟩)
  have HST := hid (fun (W : World) (p2 Z : Nat) (x : List Value) (hw : RwN w base p k1 [] W) (hr : RS W (fun g => w.heap.size < g ∧ g < Z) p2 2 []) (hZ : Z ≤ W.heap.size) => show RxN w base p k1 [] p2 2 Z W.heap.size [] x ((W.alloc (.cells (sv 0 n32 n16).toArray 37)).setRow W.heap.size x.toArray) from
    ⟨hw.next (Fr.of_new (S := fun _ => False) (ps_stored_below W x)) (fun _ h => h.elim), hr.new (ps_stored_below W x), ps_stored W x, hZ, hw.res.lt⟩)
  have HD1 := hid (fun (W : World) (p2 Z X : Nat) (x : List Value) (hx : RxN w base p k1 [] p2 2 Z X [] x W) => show Calls Tryd.prog 131 #[.pointer (some ⟨p2, 0, none⟩), .int .i64 32] W (fun e w' => ∃ A c, e = .returned (.slice A 0 c) ∧ Rb w' w'.heap.size A [] ∧ RxN w base p k1 [] p2 2 Z X [] x w') from HRD.out W p2 Z X x 32 (by omega) hx)
  have HD2 := hid (fun (W : World) (p2 Z X : Nat) (x : List Value) (hx : RxN w base p k1 [] p2 2 Z X [] x W) => show Calls Tryd.prog 131 #[.pointer (some ⟨p2, 0, none⟩), .int .i64 16] W (fun e w' => ∃ A c, e = .returned (.slice A 0 c) ∧ Rb w' w'.heap.size A [] ∧ RxN w base p k1 [] p2 2 Z X [] x w') from HRD.out W p2 Z X x 16 (by omega) hx)
  have HEND := hid (fun (W : World) (hw : RwN w base p k1 [] W) (ds : Array Value) => show RS (W.setRow w.heap.size ds) base p k1 [] ∧ Fr (Only p) w (W.setRow w.heap.size ds) from
    ⟨(hw.rs.fr ((Fr.refl (fun k => k = w.heap.size) W).setRow (.inr rfl) ds) (fun g hg c => by have h1 : base g ∧ g < w.heap.size := hg; have h2 : g = w.heap.size := c; omega)).mono (fun _ h => h.1), hw.fr.setRow (.inl (Nat.le_refl _)) ds⟩)
  have HZ0 := hid (sv_length 0 n32 n16 n32_length n16_length)
  have HS0 := hid (fun (o : Nat) (m : Nat) => show splice (sv 0 n32 n16) o ((ubs []).take m) = sv 0 n32 n16 from by
    rw [show (ubs ([] : List UInt8)).take m = [] from List.take_nil]
    unfold splice
    rw [List.length_nil, Nat.add_zero, List.nil_append, List.take_append_drop])
  have hz := noughts32
  have hz16 := noughts16
  clear h hl hp hs0 HRD hk1
  subst hW0
  go_enter Tryd.func90, Tryd.ntmps90
  go_upto_region 3 with (first
    | (refine Great.wpList_allocTo rfl _ rfl _ _ (HAS.out _ _ _ rfl) ?_)
    | (go_at_call 131; refine HR1.out.mono ?_; rintro e1 w1 ⟨A1, c1, rfl, hr1, hw1, hz1⟩; have W1 := hid hw1; have F1 := hid (HFR.out w1 A1 c1 hw1 hr1 hz1); clear hr1 hw1 hz1)
    | (go_at_call 67; refine F1.out.mono ?_; rintro e2 w2 ⟨p2, rfl, hr2, hw2⟩; have N2 := hid (HNU.out w2 p2 w2.heap.size hw2 hr2 rfl); clear hr2 hw2)
    | (go_at_call 129; refine N2.out.mono ?_; rintro e3 w3 ⟨rfl, hr3, hw3, hz3⟩; have S3 := hid (HST.out w3 p2 w2.heap.size (sv 0 n32 n16) hw3 hr3 hz3); clear hr3 hw3 hz3)
    | (refine wpList_valW (by rfl) (run_build_ps1 (.tmp 9) rfl 0 rfl) ?_)
    | (refine wpList_store_row rfl _ (.tmp 4) (.tmp 10) rfl w3.heap.size (sv 0 n32 n16).toArray rfl rfl 37 (sv 0 n32 n16).toArray (heap_alloc_new _ _) (sizePs_of HZ0.out) ?e5 (sv_all _ _ _) ?e6; rotate_right; generalize ((w3.alloc (.cells (sv 0 n32 n16).toArray 37)).setRow w3.heap.size (sv 0 n32 n16).toArray) = w4 at S3 ⊢; generalize w3.heap.size = X at S3 ⊢; generalize w2.heap.size = Z at S3))
  case e5 => simp [HZ0.out]
  clear HR1 HFR HNU HST W1 F1 N2 HAS
  have D5 := hid (S3.out.drew)
  try simp only [Act.put, List.setIfInBounds_toArray, List.set_cons_succ, List.set_cons_zero]
  refine wp_region_upto (fun _ => True) 5 5 (by kernel_rfl) (by kernel_rfl) ?_
  refine wpUpto_takeL (i := 0) (v := .pointer (some ⟨X, 1, none⟩)) rfl rfl (by decide +kernel) (by decide +kernel) (by decide +kernel) (by decide +kernel) (by decide) (fun _ _ _ h => h) (Or.inl ⟨by rfl, ?_⟩) trivial ?_
  · (intro W hSW; go_simp)
  simp only [List.set_cons_succ, List.set_cons_zero]
  refine wpUpto_takeL (i := 1) (v := .slice (some ⟨X, 1, none⟩) 32 32) rfl rfl (by decide +kernel) (by decide +kernel) (by decide +kernel) (by decide +kernel) (by decide) (fun _ _ _ h => h) (Or.inl ⟨by rfl, ?_⟩) trivial ?_
  · (intro W hSW; go_simp)
  simp only [List.set_cons_succ, List.set_cons_zero]
  refine wpUpto_takeL (i := 2) (v := .pointer (some ⟨p2, 0, none⟩)) rfl rfl (by decide +kernel) (by decide +kernel) (by decide +kernel) (by decide +kernel) (by decide) (fun _ _ _ h => h) (Or.inl ⟨by rfl, ?_⟩) trivial ?_
  · (intro W hSW; go_simp)
  simp only [List.set_cons_succ, List.set_cons_zero]
  refine wpUpto_one (i := 3) rfl (by decide +kernel) rfl ?_
  intro Q0 hQ0
  go_simp
  go_at_call 131
  refine (HD1.out _ p2 Z X _ D5.out).mono ?_
  rintro e1 v5 ⟨A5, c5, rfl, hr, hx⟩
  have R5 := hid hr
  have X5 := hid hx
  clear hr hx
  refine hQ0.out _ _ (fun _ => trivial) ?_
  clear hQ0 Q0
  refine wpUpto_one (i := 4) rfl (by decide +kernel) rfl ?_
  intro Q0 hQ0
  refine wp_copy_rd (.tmp 12) (.tmp 14) _ _ rfl 5 Tryd.underlying22 sizeU8 X 1 32 32 v5.heap.size A5 0 c5 rfl rfl (sv 0 n32 n16) 37 X5.out.x (ubs []) R5.out rfl (by rw [HZ0.out]; omega) (ubs_one _) ?_
  intro u5 hA hF
  rw [HS0.out] at hA
  have Y5 := hid (X5.out.fill hA hF)
  clear hA hF
  refine hQ0.out _ _ (fun _ => trivial) ?_
  clear hQ0 Q0
  refine wpUpto_done (by decide +kernel) ?_ _
  go_simp
  go_upto_region 4 with (fail)
  have D6 := hid (Y5.out.drew)
  try simp only [Act.put, List.setIfInBounds_toArray, List.set_cons_succ, List.set_cons_zero]
  refine wp_region_upto (fun _ => True) 5 5 (by kernel_rfl) (by kernel_rfl) ?_
  refine wpUpto_takeL (i := 0) (v := .pointer (some ⟨X, 33, none⟩)) rfl rfl (by decide +kernel) (by decide +kernel) (by decide +kernel) (by decide +kernel) (by decide) (fun _ _ _ h => h) (Or.inl ⟨by rfl, ?_⟩) trivial ?_
  · (intro W hSW; go_simp)
  simp only [List.set_cons_succ, List.set_cons_zero]
  refine wpUpto_takeL (i := 1) (v := .slice (some ⟨X, 33, none⟩) 16 16) rfl rfl (by decide +kernel) (by decide +kernel) (by decide +kernel) (by decide +kernel) (by decide) (fun _ _ _ h => h) (Or.inl ⟨by rfl, ?_⟩) trivial ?_
  · (intro W hSW; go_simp)
  simp only [List.set_cons_succ, List.set_cons_zero]
  refine wpUpto_takeL (i := 2) (v := .pointer (some ⟨p2, 0, none⟩)) rfl rfl (by decide +kernel) (by decide +kernel) (by decide +kernel) (by decide +kernel) (by decide) (fun _ _ _ h => h) (Or.inl ⟨by rfl, ?_⟩) trivial ?_
  · (intro W hSW; go_simp)
  simp only [List.set_cons_succ, List.set_cons_zero]
  refine wpUpto_one (i := 3) rfl (by decide +kernel) rfl ?_
  intro Q0 hQ0
  go_simp
  go_at_call 131
  refine (HD2.out _ p2 Z X _ D6.out).mono ?_
  rintro e1 v6 ⟨A6, c6, rfl, hr, hx⟩
  have R6 := hid hr
  have X6 := hid hx
  clear hr hx
  refine hQ0.out _ _ (fun _ => trivial) ?_
  clear hQ0 Q0
  refine wpUpto_one (i := 4) rfl (by decide +kernel) rfl ?_
  intro Q0 hQ0
  refine wp_copy_rd (.tmp 17) (.tmp 19) _ _ rfl 5 Tryd.underlying22 sizeU8 X 33 16 16 v6.heap.size A6 0 c6 rfl rfl (sv 0 n32 n16) 37 X6.out.x (ubs []) R6.out rfl (by rw [HZ0.out]; omega) (ubs_one _) ?_
  intro u6 hA hF
  rw [HS0.out] at hA
  have Y6 := hid (X6.out.fill hA hF)
  clear hA hF
  refine hQ0.out _ _ (fun _ => trivial) ?_
  clear hQ0 Q0
  refine wpUpto_done (by decide +kernel) ?_ _
  go_simp
  go_wp2_with (first
    | (refine wpList_load_row rfl _ (.tmp 4) rfl X rfl 37 (sv 0 n32 n16).toArray (0, 0) _ Y6.out.x Tryd.underlying37 rfl (sizePs_of HZ0.out) ?_)
    | (refine wpList_store_row rfl _ (.tmp 2) (.tmp 21) rfl w.heap.size (sv 0 n32 n16).toArray rfl rfl 37 (sv 0 n32 n16).toArray Y6.out.rw.res (sizePs_of HZ0.out) ?e7 (sv_all _ _ _) ?e8; rotate_right))
  case e7 => simp [HZ0.out]
  refine bodyPost_ret (results_cell_row rfl _ _ w.heap.size 37 (sv 0 n32 n16).toArray (0, 0) _ rfl (setRow_heap _ _ _ _ _ _ Y6.out.rw.res) Tryd.underlying37 rfl (sizePs_of HZ0.out)) rfl ?_
  exact ⟨rfl, HEND.out _ Y6.out.rw _⟩
set_option maxRecDepth 100000 in
set_option maxHeartbeats 2000000 in
theorem pread_ok (base : Nat → Prop) (p : Nat) (b0 : List UInt8) (w : World) (h : RS w base p 0 b0) (hl : 56 ≤ b0.length) (hl2 : b0.length ≤ 1000000000) :
    Calls Tryd.prog 90 #[.pointer (some ⟨p, 0, none⟩)] w fun r w' => r = .returned (.agg (svOf (b0.take 56)).toArray) ∧ RS w' base p 0 (b0.drop 56) ∧ Fr (Only p) w w' := by
  have hp := h.lt
  obtain ⟨bs, hbs⟩ : ∃ x, x = b0.take 56 := ⟨_, rfl⟩
  obtain ⟨lr, hlr⟩ : ∃ x, x = b0.drop 56 := ⟨_, rfl⟩
  have hbl : bs.length = 56 := by rw [hbs, List.length_take]; omega
  rw [← hbs, ← hlr]
  have HAS := hid (fun (o : Oper) (a : Go.Act) (W : World) (h : o.op = .alloc 37) => run_alloc_of (o := o) (a := a) (W := W) _ h _ zeroPs)
  obtain ⟨W0, hW0⟩ : ∃ W0, W0 = w.alloc (.cells (sv 0 n32 n16).toArray 37) := ⟨_, rfl⟩
  have hs0 : W0.heap.size = w.heap.size + 1 := by rw [hW0]; simp
  have HR1 := hid (show Calls Tryd.prog 131 #[.pointer (some ⟨p, 0, none⟩), .int .i64 56] W0 (fun e w' => ∃ A c, e = .returned (.slice A 56 c) ∧ Rb w' w'.heap.size A bs ∧ RwN w base p 0 lr w' ∧ W0.heap.size ≤ w'.heap.size) from by
    have h0 : RS W0 (fun g => base g ∧ g < w.heap.size) p 0 b0 := by rw [hW0]; exact h.old.new ((Below.refl _ _).alloc (Nat.le_refl _) _)
    refine (rraw_good _ p 0 b0 56 W0 h0 hl hl2).mono ?_
    rintro e w' ⟨x, rfl, ho, hr, hf⟩
    rw [← hbs] at ho
    rw [← hlr] at hr
    obtain ⟨A, c, rfl, -⟩ := own_form ho
    refine ⟨A, c, by rw [hbl], Rd.of_own ho, ⟨hr, ?_, ?_⟩, hf.size⟩
    · refine At.fr (w := W0) ?_ hf (fun c => ?_)
      · rw [hW0]; exact At.new _ _ _
      · have h3 : w.heap.size = p := c
        omega
    · have : Fr (Only p) w W0 := by rw [hW0]; exact (Fr.refl _ _).alloc _
      exact this.trans hf)
  have HFR := hid (fun (W : World) (A : Option Addr) (c : Nat) (hw : RwN w base p 0 lr W) (hb : Rb W W.heap.size A bs) (hz : W0.heap.size ≤ W.heap.size) => show Calls Tryd.prog 67 #[.slice A 56 c] W (fun e w' => ∃ p2, e = .returned (.pointer (some ⟨p2, 0, none⟩)) ∧ RS w' (fun g => w.heap.size < g ∧ g < w'.heap.size) p2 0 bs ∧ RwN w base p 0 lr w') from by
    have := from_any bs A c W hb (by omega)
    rw [hbl] at this
    refine this.mono ?_
    rintro e w' ⟨p2, rfl, hp2, hr, hbl⟩
    refine ⟨p2, rfl, hr.mono (fun g hg => ⟨by omega, hg.2⟩), hw.next (Fr.of_new (S := fun _ => False) hbl) (fun _ h => h.elim)⟩)
  have HNU := hid (fun (W : World) (p2 Z : Nat) (hw : RwN w base p 0 lr W) (hr : RS W (fun g => w.heap.size < g ∧ g < Z) p2 0 bs) (hZ : Z = W.heap.size) => show Calls Tryd.prog 129 #[.pointer (some ⟨p2, 0, none⟩), .int .i64 8] W (fun e w' => e = .returned (.int .u64 (val (bs.take 8) : Nat)) ∧ RS w' (fun g => w.heap.size < g ∧ g < Z) p2 0 (bs.drop 8) ∧ RwN w base p 0 lr w' ∧ Z ≤ w'.heap.size) from by
    refine (rnum_good _ p2 0 bs 8 (by unfold Sz; omega) W hr (by omega)).mono ?_
    rintro e w' ⟨x, rfl, rfl, hr', hf⟩
    refine ⟨rfl, hr', hw.next hf (fun g hg => ?_), by rw [hZ]; exact hf.size⟩
    have h1 := rs_lowK hr'
    rw [show g = p2 from hg]
    exact h1.1)
  have HRD := hid (fun (W : World) (p2 Z X : Nat) (l : List UInt8) (x : List Value) (n : Nat) (hx : RxN w base p 0 lr p2 0 Z X l x W) (hn : n ≤ l.length) (hll : l.length ≤ 100) => show Calls Tryd.prog 131 #[.pointer (some ⟨p2, 0, none⟩), .int .i64 (n : Int)] W (fun e w' => ∃ A c, e = .returned (.slice A n c) ∧ Rb w' w'.heap.size A (l.take n) ∧ RxN w base p 0 lr p2 0 Z X (l.drop n) x w') from by
    refine (rraw_good _ p2 0 l n W hx.r2 hn (by omega)).mono ?_
    rintro e w' ⟨x', rfl, ho, hr, hf⟩
    obtain ⟨A, c, rfl, -⟩ := own_form ho
    have ho' := Rd.of_own ho
    refine ⟨A, c, ?_, ho', hx.read hr hf⟩
    rw [List.length_take, Nat.min_eq_left hn])
  have HST := hid (fun (W : World) (p2 Z : Nat) (l : List UInt8) (x : List Value) (hw : RwN w base p 0 lr W) (hr : RS W (fun g => w.heap.size < g ∧ g < Z) p2 0 l) (hZ : Z ≤ W.heap.size) => show RxN w base p 0 lr p2 0 Z W.heap.size l x ((W.alloc (.cells (sv 0 n32 n16).toArray 37)).setRow W.heap.size x.toArray) from
    ⟨hw.next (Fr.of_new (S := fun _ => False) (ps_stored_below W x)) (fun _ h => h.elim), hr.new (ps_stored_below W x), ps_stored W x, hZ, hw.res.lt⟩)
  have L8 := hid (show (bs.drop 8).length = 48 by rw [List.length_drop]; omega)
  have LD := hid (show ((bs.drop 8).take 32).length = 32 by rw [List.length_take, List.length_drop]; omega)
  have LR := hid (show ((bs.drop 8).drop 32).length = 16 by rw [List.length_drop, List.length_drop]; omega)
  have LT := hid (show (((bs.drop 8).drop 32).take 16).length = 16 by rw [List.length_take, LR.out]; rfl)
  have HSV := hid (show svOf bs = sv (val (bs.take 8)) ((bs.drop 8).take 32) (((bs.drop 8).drop 32).take 16) by rw [svOf, List.drop_drop])
  rw [HSV.out]
  clear HSV
  have HD1 := hid (fun (W : World) (p2 Z X : Nat) (x : List Value) (hx : RxN w base p 0 lr p2 0 Z X (bs.drop 8) x W) => show Calls Tryd.prog 131 #[.pointer (some ⟨p2, 0, none⟩), .int .i64 32] W (fun e w' => ∃ A c, e = .returned (.slice A 32 c) ∧ Rb w' w'.heap.size A ((bs.drop 8).take 32) ∧ RxN w base p 0 lr p2 0 Z X ((bs.drop 8).drop 32) x w') from HRD.out W p2 Z X _ x 32 hx (by rw [L8.out]; omega) (by rw [L8.out]; omega))
  have HD2 := hid (fun (W : World) (p2 Z X : Nat) (x : List Value) (hx : RxN w base p 0 lr p2 0 Z X ((bs.drop 8).drop 32) x W) => show Calls Tryd.prog 131 #[.pointer (some ⟨p2, 0, none⟩), .int .i64 16] W (fun e w' => ∃ A c, e = .returned (.slice A 16 c) ∧ Rb w' w'.heap.size A (((bs.drop 8).drop 32).take 16) ∧ RxN w base p 0 lr p2 0 Z X (((bs.drop 8).drop 32).drop 16) x w') from HRD.out W p2 Z X _ x 16 hx (by rw [LR.out]; omega) (by rw [LR.out]; omega))
  have HEND := hid (fun (W : World) (hw : RwN w base p 0 lr W) (ds : Array Value) => show RS (W.setRow w.heap.size ds) base p 0 lr ∧ Fr (Only p) w (W.setRow w.heap.size ds) from
    ⟨(hw.rs.fr ((Fr.refl (fun k => k = w.heap.size) W).setRow (.inr rfl) ds) (fun g hg c => by have h1 : base g ∧ g < w.heap.size := hg; have h2 : g = w.heap.size := c; omega)).mono (fun _ h => h.1), hw.fr.setRow (.inl (Nat.le_refl _)) ds⟩)
  generalize val (bs.take 8) = e at HNU ⊢
  generalize ((bs.drop 8).drop 32).take 16 = t at LT HD2 ⊢
  generalize ((bs.drop 8).drop 32).drop 16 = l3 at HD2
  generalize (bs.drop 8).take 32 = d at LD HD1 ⊢
  generalize (bs.drop 8).drop 32 = l2 at HD1 HD2 LR
  generalize bs.drop 8 = l1 at HNU HD1 L8
  have HZ0 := hid (sv_length 0 n32 n16 n32_length n16_length)
  have HZ1 := hid (sv_length e n32 n16 n32_length n16_length)
  have HZ2 := hid (sv_length e d n16 LD.out n16_length)
  have HZ3 := hid (sv_length e d t LD.out LT.out)
  have HS1 := hid (splice_svd e d n16 LD.out)
  have HS2 := hid (splice_sv e d t LD.out LT.out)
  have hz := noughts32
  have hz16 := noughts16
  clear h hl hl2 hp hs0 hbs hlr hbl HRD
  subst hW0
  go_enter Tryd.func90, Tryd.ntmps90
  go_upto_region 3 with (first
    | (refine Great.wpList_allocTo rfl _ rfl _ _ (HAS.out _ _ _ rfl) ?_)
    | (go_at_call 131; refine HR1.out.mono ?_; rintro e1 w1 ⟨A1, c1, rfl, hr1, hw1, hz1⟩; have W1 := hid hw1; have F1 := hid (HFR.out w1 A1 c1 hw1 hr1 hz1); clear hr1 hw1 hz1)
    | (go_at_call 67; refine F1.out.mono ?_; rintro e2 w2 ⟨p2, rfl, hr2, hw2⟩; have N2 := hid (HNU.out w2 p2 w2.heap.size hw2 hr2 rfl); clear hr2 hw2)
    | (go_at_call 129; refine N2.out.mono ?_; rintro e3 w3 ⟨rfl, hr3, hw3, hz3⟩; have S3 := hid (HST.out w3 p2 w2.heap.size l1 (sv e n32 n16) hw3 hr3 hz3); clear hr3 hw3 hz3)
    | (refine wpList_valW (by rfl) (run_build_ps1 (.tmp 9) rfl e rfl) ?_)
    | (refine wpList_store_row rfl _ (.tmp 4) (.tmp 10) rfl w3.heap.size (sv e n32 n16).toArray rfl rfl 37 (sv 0 n32 n16).toArray (heap_alloc_new _ _) (sizePs_of HZ1.out) ?e5 (sv_all _ _ _) ?e6; rotate_right; generalize ((w3.alloc (.cells (sv 0 n32 n16).toArray 37)).setRow w3.heap.size (sv e n32 n16).toArray) = w4 at S3 ⊢; generalize w3.heap.size = X at S3 ⊢; generalize w2.heap.size = Z at S3))
  case e5 => simp [HZ0.out, HZ1.out]
  clear HR1 HFR HNU HST W1 F1 N2 HAS
  have D5 := hid (S3.out.drew)
  try simp only [Act.put, List.setIfInBounds_toArray, List.set_cons_succ, List.set_cons_zero]
  refine wp_region_upto (fun _ => True) 5 5 (by kernel_rfl) (by kernel_rfl) ?_
  refine wpUpto_takeL (i := 0) (v := .pointer (some ⟨X, 1, none⟩)) rfl rfl (by decide +kernel) (by decide +kernel) (by decide +kernel) (by decide +kernel) (by decide) (fun _ _ _ h => h) (Or.inl ⟨by rfl, ?_⟩) trivial ?_
  · (intro W hSW; go_simp)
  simp only [List.set_cons_succ, List.set_cons_zero]
  refine wpUpto_takeL (i := 1) (v := .slice (some ⟨X, 1, none⟩) 32 32) rfl rfl (by decide +kernel) (by decide +kernel) (by decide +kernel) (by decide +kernel) (by decide) (fun _ _ _ h => h) (Or.inl ⟨by rfl, ?_⟩) trivial ?_
  · (intro W hSW; go_simp)
  simp only [List.set_cons_succ, List.set_cons_zero]
  refine wpUpto_takeL (i := 2) (v := .pointer (some ⟨p2, 0, none⟩)) rfl rfl (by decide +kernel) (by decide +kernel) (by decide +kernel) (by decide +kernel) (by decide) (fun _ _ _ h => h) (Or.inl ⟨by rfl, ?_⟩) trivial ?_
  · (intro W hSW; go_simp)
  simp only [List.set_cons_succ, List.set_cons_zero]
  refine wpUpto_one (i := 3) rfl (by decide +kernel) rfl ?_
  intro Q0 hQ0
  go_simp
  go_at_call 131
  refine (HD1.out _ p2 Z X _ D5.out).mono ?_
  rintro e1 v5 ⟨A5, c5, rfl, hr, hx⟩
  have R5 := hid hr
  have X5 := hid hx
  clear hr hx
  refine hQ0.out _ _ (fun _ => trivial) ?_
  clear hQ0 Q0
  refine wpUpto_one (i := 4) rfl (by decide +kernel) rfl ?_
  intro Q0 hQ0
  refine wp_copy_rd (.tmp 12) (.tmp 14) _ _ rfl 5 Tryd.underlying22 sizeU8 X 1 32 32 v5.heap.size A5 32 c5 rfl rfl (sv e n32 n16) 37 X5.out.x (ubs d) R5.out (by rw [ubs_length, LD.out]) (by rw [HZ1.out]; omega) (ubs_one _) ?_
  intro u5 hA hF
  rw [HS1.out] at hA
  have Y5 := hid (X5.out.fill hA hF)
  clear hA hF
  refine hQ0.out _ _ (fun _ => trivial) ?_
  clear hQ0 Q0
  refine wpUpto_done (by decide +kernel) ?_ _
  go_simp
  go_upto_region 4 with (fail)
  have D6 := hid (Y5.out.drew)
  try simp only [Act.put, List.setIfInBounds_toArray, List.set_cons_succ, List.set_cons_zero]
  refine wp_region_upto (fun _ => True) 5 5 (by kernel_rfl) (by kernel_rfl) ?_
  refine wpUpto_takeL (i := 0) (v := .pointer (some ⟨X, 33, none⟩)) rfl rfl (by decide +kernel) (by decide +kernel) (by decide +kernel) (by decide +kernel) (by decide) (fun _ _ _ h => h) (Or.inl ⟨by rfl, ?_⟩) trivial ?_
  · (intro W hSW; go_simp)
  simp only [List.set_cons_succ, List.set_cons_zero]
  refine wpUpto_takeL (i := 1) (v := .slice (some ⟨X, 33, none⟩) 16 16) rfl rfl (by decide +kernel) (by decide +kernel) (by decide +kernel) (by decide +kernel) (by decide) (fun _ _ _ h => h) (Or.inl ⟨by rfl, ?_⟩) trivial ?_
  · (intro W hSW; go_simp)
  simp only [List.set_cons_succ, List.set_cons_zero]
  refine wpUpto_takeL (i := 2) (v := .pointer (some ⟨p2, 0, none⟩)) rfl rfl (by decide +kernel) (by decide +kernel) (by decide +kernel) (by decide +kernel) (by decide) (fun _ _ _ h => h) (Or.inl ⟨by rfl, ?_⟩) trivial ?_
  · (intro W hSW; go_simp)
  simp only [List.set_cons_succ, List.set_cons_zero]
  refine wpUpto_one (i := 3) rfl (by decide +kernel) rfl ?_
  intro Q0 hQ0
  go_simp
  go_at_call 131
  refine (HD2.out _ p2 Z X _ D6.out).mono ?_
  rintro e1 v6 ⟨A6, c6, rfl, hr, hx⟩
  have R6 := hid hr
  have X6 := hid hx
  clear hr hx
  refine hQ0.out _ _ (fun _ => trivial) ?_
  clear hQ0 Q0
  refine wpUpto_one (i := 4) rfl (by decide +kernel) rfl ?_
  intro Q0 hQ0
  refine wp_copy_rd (.tmp 17) (.tmp 19) _ _ rfl 5 Tryd.underlying22 sizeU8 X 33 16 16 v6.heap.size A6 16 c6 rfl rfl (sv e d n16) 37 X6.out.x (ubs t) R6.out (by rw [ubs_length, LT.out]) (by rw [HZ2.out]; omega) (ubs_one _) ?_
  intro u6 hA hF
  rw [HS2.out] at hA
  have Y6 := hid (X6.out.fill hA hF)
  clear hA hF
  refine hQ0.out _ _ (fun _ => trivial) ?_
  clear hQ0 Q0
  refine wpUpto_done (by decide +kernel) ?_ _
  go_simp
  go_wp2_with (first
    | (refine wpList_load_row rfl _ (.tmp 4) rfl X rfl 37 (sv e d t).toArray (0, 0) _ Y6.out.x Tryd.underlying37 rfl (sizePs_of HZ3.out) ?_)
    | (refine wpList_store_row rfl _ (.tmp 2) (.tmp 21) rfl w.heap.size (sv e d t).toArray rfl rfl 37 (sv 0 n32 n16).toArray Y6.out.rw.res (sizePs_of HZ3.out) ?e7 (sv_all _ _ _) ?e8; rotate_right))
  case e7 => simp [HZ0.out, HZ3.out]
  refine bodyPost_ret (results_cell_row rfl _ _ w.heap.size 37 (sv e d t).toArray (0, 0) _ rfl (setRow_heap _ _ _ _ _ _ Y6.out.rw.res) Tryd.underlying37 rfl (sizePs_of HZ3.out)) rfl ?_
  exact ⟨rfl, HEND.out _ Y6.out.rw _⟩
theorem svOf_sl (bs : List UInt8) (h : 56 ≤ bs.length) : svOf (bs.take 56) = slV (slS (0, bs)).1 := by
  rw [slS_whole h]
  show sv (val ((bs.take 56).take 8)) (((bs.take 56).drop 8).take 32) (((bs.take 56).drop 40).take 16) = sv (val (bs.take 8)) ((bs.drop 8).take 32) ((bs.drop 40).take 16)
  rw [List.take_take, show min 8 56 = 8 from rfl, List.drop_take, List.take_take, show min 32 (56 - 8) = 32 from rfl, List.drop_take, List.take_take, show min 16 (56 - 40) = 16 from rfl]
/-- A sealed block is read. -/
theorem rt_sealed (base : Nat → Prop) (p : Nat) (s : Rs) (W : World) (h : RT W base p s) (hl : s.2.length ≤ 1000000000) :
    Calls Tryd.prog 90 #[.pointer (some ⟨p, 0, none⟩)] W fun e w' => e = .returned (.agg (slV (slP s).1).toArray) ∧ RT w' base p (slP s).2 ∧ Fr (Only p) W w' := by
  obtain ⟨k, bs⟩ := s
  obtain ⟨h1, h2⟩ := h
  rcases (h2 : k = 0 ∨ k = 2) with rfl | rfl
  · by_cases hn : 56 ≤ bs.length
    · rw [slP_ok hn, ← svOf_sl bs hn, slS_whole hn]
      refine (pread_ok base p bs W h1 hn hl).mono ?_
      rintro e w' ⟨rfl, h3, h4⟩
      exact ⟨rfl, ⟨h3, .inl rfl⟩, h4⟩
    · rw [slP_bad hn]
      refine (pread_no base p 0 bs W h1 (by omega)).mono ?_
      rintro e w' ⟨rfl, h3, h4⟩
      exact ⟨rfl, ⟨h3, .inr rfl⟩, h4⟩
  · rw [slP_done (s := (2, bs)) (show (2 : Nat) ≠ 0 by decide)]
    refine (pread_no base p 2 [] W h1 (by simp)).mono ?_
    rintro e w' ⟨rfl, h3, h4⟩
    exact ⟨rfl, ⟨h3, .inr rfl⟩, h4⟩
end Go.Proofs.YtfmbpdjcoopaeaaDoor

namespace Go.Proofs.YtfmbpdjcoopaeaaDoor
open Go.RowKit

/-- Numbers of four bytes, one behind the other, as the program reads them. -/
def rdN : Nat → Rs → List Nat × Rs
  | 0, s => ([], s)
  | j + 1, s => ((rdN j s).1 ++ [(nmS 4 (rdN j s).2).1], (nmS 4 (rdN j s).2).2)
theorem rdN_length (j : Nat) (s : Rs) : (rdN j s).1.length = j := by
  induction j with
  | zero => rfl
  | succ j ih => rw [rdN, List.length_append, ih]; rfl
theorem rdN_lt (j : Nat) (s : Rs) : ∀ x ∈ (rdN j s).1, x < 256 ^ 4 := by
  induction j with
  | zero => intro x hx; cases hx
  | succ j ih =>
    intro x hx
    rw [rdN, List.mem_append] at hx
    rcases hx with hx | hx
    · exact ih x hx
    · rw [List.mem_singleton.1 hx]
      exact nmS_lt 4 _
theorem Lp1.all {bs : List UInt8} {p e k n : Nat} {s : Rs} (h : Lp1 bs p e k n 0 [] s) (hk : k = 1 ∨ k = 2) : ∀ j, j ≤ n + 1 → Lp1 bs p e k n j (rdN j s).1 (rdN j s).2 := by
  intro j
  induction j with
  | zero => intro _; exact h
  | succ j ih => intro hj; exact (ih (by omega)).nextP hk (by omega)
def idxP (s : Rs) (m j : Nat) : List Nat := (rdN j s).1 ++ List.replicate (m - j) 0
theorem idxP_all (s : Rs) (m : Nat) : idxP s m m = (rdN m s).1 := by simp [idxP]
theorem idxP_length (s : Rs) {m j : Nat} (h : j ≤ m) : (idxP s m j).length = m := by rw [idxP, List.length_append, rdN_length, List.length_replicate]; omega
theorem idxP_next (s : Rs) {m j : Nat} (h : j < m) : (idxP s m j).set j (nmS 4 (rdN j s).2).1 = idxP s m (j + 1) := by
  unfold idxP
  rw [List.set_append_right _ _ (by rw [rdN_length]; exact Nat.le_refl _), rdN_length, Nat.sub_self, show m - j = m - (j + 1) + 1 by omega, List.replicate_succ, List.set_cons_zero, rdN, List.append_assoc]
  rfl
theorem madeU13 (n : Nat) : madeCells (Value.int .u64 0).cells (n * 1) = (nus (List.replicate n 0)).toArray := by
  apply Array.toList_inj.1
  rw [Nat.mul_one]
  show (madeCells #[Value.int .u64 0] n).toList = _
  rw [toList_madeCells_one]
  simp [nus]
theorem nus_set13 (l : List Nat) (j x : Nat) : nus (l.set j x) = (nus l).set j (.int .u64 (x : Int)) := by
  unfold nus
  rw [List.map_set]
theorem run_makeU8 (n : Nat) (h : n ≤ 1000000) (w : World) : (Instr.makeSlice 74 (.int .u64 (n : Int)) (.int .u64 (n : Int))).run Tryd.prog w = .ok (.slice (some ⟨w.heap.size, 0, none⟩) n n) (w.alloc (.cells (nus (List.replicate n 0)).toArray 32)) := by
  obtain ⟨i0, hi, hz0, hz1, hz2⟩ := infoU_parts
  have := run_make (P := Tryd.prog) w 74 32 i0 _ Tryd.underlying74 hi hz0 .u64 .u64 n n (by omega) (by omega) (by rw [hz2]; omega) (by omega)
  rw [hz1, Int.toNat_natCast, madeU13] at this
  exact this
/-- What readIndices has in memory. -/
structure RiW (W : World) (base : Nat → Prop) (p D : Nat) (s : Rs) (m j : Nat) (V : World) : Prop where
  r : RT V (fun g => base g ∧ g < D) p (rdN j s).2
  a : At V D (nus (idxP s m j)).toArray 32
  f : Fr (Only p) W V
  lo : W.heap.size ≤ D
theorem RiW.read {W V V' : World} {base : Nat → Prop} {p D : Nat} {s : Rs} {m j : Nat} (k : RiW W base p D s m j V) (hr : RT V' (fun g => base g ∧ g < D) p (rdN (j + 1) s).2) (hf : Fr (Only p) V V') (hj : j < m) : RiW W base p D s m (j + 1) (V'.setCell ⟨D, j, none⟩ (.int .u64 (((nmS 4 (rdN j s).2).1 : Nat) : Int))) := by
  have hp : p < D := hr.low.2
  have ha : At V' D (nus (idxP s m j)).toArray 32 := k.a.fr hf (fun c => by have h1 : D = p := c; omega)
  refine ⟨hr.fr (((Fr.refl (fun g => g = D) V').setCell (p := ⟨D, j, none⟩) (.inr rfl) _)) (fun g hg c => by have h1 : base g ∧ g < D := hg; have h2 : g = D := c; omega), ?_, (k.f.trans hf).setCell (.inl k.lo) _, k.lo⟩
  have := ha.put j (.int .u64 (((nmS 4 (rdN j s).2).1 : Nat) : Int))
  rw [← idxP_next s hj, nus_set13]
  simpa using this
set_option maxRecDepth 100000 in
set_option maxHeartbeats 2000000 in
/-- readIndices. -/
theorem prdidx_any (base : Nat → Prop) (p : Nat) (s : Rs) (W : World) (h : RT W base p s) :
    Calls Tryd.prog 173 #[.pointer (some ⟨p, 0, none⟩)] W fun r w' => ∃ g, r = .returned (.slice (some ⟨g, 0, none⟩) ((nmS 1 s).1 + 1) ((nmS 1 s).1 + 1)) ∧ At w' g (nus (rdN ((nmS 1 s).1 + 1) (nmS 1 s).2).1).toArray 32 ∧ W.heap.size ≤ g ∧ RT w' base p (rdN ((nmS 1 s).1 + 1) (nmS 1 s).2).2 ∧ Fr (Only p) W w' := by
  have hlt := nmS_lt 1 s
  have HN1 := hid (rt_num base p 1 s (by unfold Sz; omega) W h)
  obtain ⟨n0, hn0⟩ : ∃ x, x = (nmS 1 s).1 := ⟨_, rfl⟩
  obtain ⟨s1, hs1⟩ : ∃ x, x = (nmS 1 s).2 := ⟨_, rfl⟩
  rw [← hn0] at hlt HN1 ⊢
  rw [← hs1] at HN1 ⊢
  obtain ⟨m, hm⟩ : ∃ m, m = n0 + 1 := ⟨_, rfl⟩
  have e1 : (n0 : Int) + 1 = (m : Int) := by omega
  have e2 : IntKind.u64.wrap (m : Int) = (m : Int) := wrapN64 m (by omega)
  have hmk := fun w => run_makeU8 m (by omega) w
  have HM := hid (show m ≤ 256 by omega)
  have HN4 := hid (fun (D : Nat) (x : Rs) (V : World) (hr : RT V (fun g => base g ∧ g < D) p x) => rt_num (fun g => base g ∧ g < D) p 4 x (by unfold Sz; omega) V hr)
  rw [← hm]
  have HZ0 := hid (show idxP s1 m 0 = List.replicate m 0 from rfl)
  generalize hl0 : nus (List.replicate m 0) = l0 at hmk
  have HL0 := hid (show l0 = nus (idxP s1 m 0) by rw [HZ0.out, hl0])
  clear h hlt hn0 hs1 hm hl0 HZ0
  go_enter Tryd.func173, Tryd.ntmps173
  go_upto_region 3 with (first
    | (go_at_call 129; refine HN1.out.mono ?_; rintro e1 w1 ⟨rfl, h1, h2⟩; have R1 := hid h1; have F1 := hid h2; clear h1 h2))
  obtain ⟨D, hD⟩ : ∃ D, D = w1.heap.size := ⟨_, rfl⟩
  have H0 := hid (show RiW W base p D s1 m 0 (w1.alloc (.cells l0.toArray 32)) from
    ⟨by rw [hD]; exact R1.out.old.new ((Below.refl _ _).alloc (Nat.le_refl _) _), by rw [hD, HL0.out]; exact At.new _ _ _, F1.out.alloc _, by rw [hD]; exact F1.out.size⟩)
  rw [← hD]
  generalize (w1.alloc (.cells l0.toArray 32)) = w2 at H0 ⊢
  clear hmk hD HL0 R1 F1 e1 e2
  go_loopw [4, 11] (fun _ v wr => ∃ j : Nat, j ≤ m ∧ v = .int .i64 (j : Int) ∧ Hid (RiW W base p D s1 m j wr)) (fun _ v _ => m - (intOf v).toNat)
  case atStart => exact ⟨0, by omega, rfl, H0⟩
  case round =>
    clear H0
    obtain ⟨j, hj, rfl, HX⟩ := hrel
    by_cases hlt : j < m
    · have hd : decide ((j : Int) < (m : Int)) = true := by simp; omega
      have ik : (j : Int) < (m : Int) := by omega
      obtain ⟨j1, hj1⟩ : ∃ m, m = j + 1 := ⟨_, rfl⟩
      have e2 : (j : Int) + 1 = (j1 : Int) := by omega
      have ew2 : IntKind.i64.wrap (j1 : Int) = (j1 : Int) := by rw [IntKind.wrap_i64] <;> have := HM.out <;> omega
      have HRD := hid (fun (V' : World) (hr : RT V' (fun g => base g ∧ g < D) p (nmS 4 (rdN j s1).2).2) (hf : Fr (Only p) wr V') => show RiW W base p D s1 m j1 (V'.setCell ⟨D, j, none⟩ (.int .u64 (((nmS 4 (rdN j s1).2).1 : Nat) : Int))) from by
        have := HX.out.read (V' := V') hr hf hlt
        rwa [← hj1] at this)
      have HN := hid (HN4.out D (rdN j s1).2 wr HX.out.r)
      have HCE := hid (fun (V' : World) (hr : RT V' (fun g => base g ∧ g < D) p (nmS 4 (rdN j s1).2).2) (hf : Fr (Only p) wr V') => show (∃ u, V'.cell? ⟨D, j, none⟩ = some u) ∧ V'.frozen? ⟨D, j, none⟩ = false from by
        have hp : p < D := hr.low.2
        have ha : At V' D (nus (idxP s1 m j)).toArray 32 := HX.out.a.fr hf (fun c => by have h1 : D = p := c; omega)
        refine ⟨?_, ha.frozen j⟩
        rw [ha.cell, List.getElem?_toArray]
        exact ⟨_, List.getElem?_eq_getElem (by rw [nus_length, idxP_length s1 (by omega)]; exact hlt)⟩)
      have HMS := hid (show j1 ≤ m ∧ m - j1 < m - j by omega)
      generalize (nmS 4 (rdN j s1).2).1 = x at HRD HN
      generalize (nmS 4 (rdN j s1).2).2 = s2 at HRD HN HCE
      clear hj1 hj hlt HX
      go_wp2_with (first
        | (go_at_call 129; refine HN.out.mono ?_; rintro e1 w3 ⟨rfl, h1, h2⟩; have HP := hid (HRD.out w3 h1 h2); obtain ⟨⟨u, hc⟩, hfz⟩ := HCE.out w3 h1 h2; clear h1 h2))
      exact ⟨⟨j1, HMS.out.1, rfl, HP⟩, by
        show m - ((j1 : Int)).toNat < m - ((j : Int)).toNat
        rw [Int.toNat_natCast, Int.toNat_natCast]
        exact HMS.out.2⟩
    · obtain rfl : j = m := by omega
      have hd : decide ((j : Int) < (j : Int)) = false := by simp
      clear hlt hj
      go_wp2
      go_ret
      have h1 := HX.out.a
      rw [idxP_all] at h1
      exact ⟨D, rfl, h1, HX.out.lo, HX.out.r.mono (fun _ hg => hg.1), HX.out.f⟩
end Go.Proofs.YtfmbpdjcoopaeaaDoor
