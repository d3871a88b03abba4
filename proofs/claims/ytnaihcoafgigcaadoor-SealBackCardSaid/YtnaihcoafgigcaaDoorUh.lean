/-
  The program's layer 7: Read, Parse, of 56 bytes.
-/
import Derived.Test.YtnaihcoafgigcaaDoorUg
import Derived.Test.YtnaihcoafgigcaaDoorY9
namespace Go.Proofs.YtnaihcoafgigcaaDoor
open Go.RowKit

/-- What 56 bytes are. -/
def svOf (bs : List UInt8) : List Value := sv (val (bs.take 8)) ((bs.drop 8).take 32) ((bs.drop 40).take 16)
/-- What holds in Read: the reader that is read to its end, the result. -/
structure RwW (w : World) (base : Nat → Prop) (p : Nat) (W : World) : Prop where
  rs : RS W (fun g => base g ∧ g < w.heap.size) p 0 []
  res : At W w.heap.size (sv 0 n32 n16).toArray 31
  fr : Fr (Only p) w W
theorem RwW.next {w W W' : World} {base : Nat → Prop} {p : Nat} {S : Nat → Prop} (h : RwW w base p W) (hF : Fr S W W') (hs : ∀ g, S g → w.heap.size < g) : RwW w base p W' :=
  ⟨h.rs.fr hF (fun g hg c => by have := hs g c; omega), h.res.fr hF (fun c => by have := hs _ c; omega), h.fr.next hF (fun g hg c => by have := hs g c; omega)⟩
theorem RwW.drew {w W : World} {base : Nat → Prop} {p : Nat} (h : RwW w base p W) : RwW w base p W.drew := h.next ((Fr.refl (fun _ => False) W).drew) (fun _ h => h.elim)
/-- Beside: the reader of the 56 bytes, and the sealed block as it grows. -/
structure RxW (w : World) (base : Nat → Prop) (p p2 Z X : Nat) (bs : List UInt8) (x : List Value) (W : World) : Prop where
  rw : RwW w base p W
  r2 : RS W (fun g => w.heap.size < g ∧ g < Z) p2 0 bs
  x : At W X x.toArray 31
  far : Z ≤ X ∧ w.heap.size < X
section
variable {w W W' : World} {base : Nat → Prop} {p p2 Z X : Nat} {bs bs' : List UInt8} {x x' : List Value}
theorem RxW.drew (h : RxW w base p p2 Z X bs x W) : RxW w base p p2 Z X bs x W.drew := ⟨h.rw.drew, h.r2.fr ((Fr.refl (fun _ => False) W).drew) (fun _ _ h => h), h.x, h.far⟩
theorem rs_low (h : RS W base p 0 bs) : base p := by obtain ⟨_, _, h⟩ := h; exact h.low
theorem RxW.read (h : RxW w base p p2 Z X bs x W) (hr : RS W' (fun g => w.heap.size < g ∧ g < Z) p2 0 bs') (hF : Fr (Only p2) W W') : RxW w base p p2 Z X bs' x W' :=
  ⟨h.rw.next hF (fun g hg => by have h1 := rs_low hr; rw [show g = p2 from hg]; exact h1.1), hr, h.x.fr hF (fun c => by
    have h1 := rs_low hr
    have h2 := h.far
    have h3 : X = p2 := c
    have h4 : p2 < Z := h1.2
    omega), h.far⟩
theorem RxW.fill (h : RxW w base p p2 Z X bs x W) (hA : At W' X x'.toArray 31) (hF : Fr (fun k => k = X) W W') : RxW w base p p2 Z X bs x' W' :=
  ⟨h.rw.next hF (fun g hg => by have := h.far; omega), h.r2.fr hF (fun g hg c => by have := h.far; have h1 : w.heap.size < g ∧ g < Z := hg; omega), hA, h.far⟩
end
theorem RwW.start {w : World} {base : Nat → Prop} {p : Nat} {bs : List UInt8} (h : RS w base p 0 bs) : RS (w.alloc (.cells (sv 0 n32 n16).toArray 31)) (fun g => base g ∧ g < w.heap.size) p 0 bs :=
  (h.old).new ((Below.refl _ _).alloc (Nat.le_refl _) _)
set_option maxRecDepth 100000 in
set_option maxHeartbeats 2000000 in
theorem pread_any (base : Nat → Prop) (p : Nat) (bs : List UInt8) (w : World) (h : RS w base p 0 bs) (hl : bs.length = 56) :
    Calls Tryd.prog 36 #[.pointer (some ⟨p, 0, none⟩)] w fun r w' => r = .returned (.agg (svOf bs).toArray) ∧ RS w' base p 0 [] ∧ Fr (Only p) w w' := by
  have hp := h.lt
  have HAS := hid (fun (o : Oper) (a : Go.Act) (W : World) (h : o.op = .alloc 31) => run_alloc_of (o := o) (a := a) (W := W) _ h _ zeroPs)
  obtain ⟨W0, hW0⟩ : ∃ W0, W0 = w.alloc (.cells (sv 0 n32 n16).toArray 31) := ⟨_, rfl⟩
  have hs0 : W0.heap.size = w.heap.size + 1 := by rw [hW0]; simp
  have HR1 := hid (show Calls Tryd.prog 55 #[.pointer (some ⟨p, 0, none⟩), .int .i64 56] W0 (fun e w' => ∃ A c, e = .returned (.slice A 56 c) ∧ Rb w' w'.heap.size A bs ∧ RwW w base p w' ∧ W0.heap.size ≤ w'.heap.size) from by
    have h0 := RwW.start h
    rw [← hW0] at h0
    refine (rraw_good _ p 0 bs 56 W0 h0 (by omega) (by omega)).mono ?_
    rintro e w' ⟨x, rfl, ho, hr, hf⟩
    rw [List.take_of_length_le (by omega)] at ho
    rw [List.drop_eq_nil_of_le (by omega)] at hr
    obtain ⟨A, c, rfl, -⟩ := own_form ho
    refine ⟨A, c, by rw [hl], Rd.of_own ho, ⟨hr, ?_, ?_⟩, hf.size⟩
    · refine At.fr (w := W0) ?_ hf (fun c => ?_)
      · rw [hW0]; exact At.new _ _ _
      · have h3 : w.heap.size = p := c
        omega
    · have : Fr (Only p) w W0 := by rw [hW0]; exact (Fr.refl _ _).alloc _
      exact this.trans hf)
  have HFR := hid (fun (W : World) (A : Option Addr) (c : Nat) (hw : RwW w base p W) (hb : Rb W W.heap.size A bs) (hz : W0.heap.size ≤ W.heap.size) => show Calls Tryd.prog 35 #[.slice A 56 c] W (fun e w' => ∃ p2, e = .returned (.pointer (some ⟨p2, 0, none⟩)) ∧ RS w' (fun g => w.heap.size < g ∧ g < w'.heap.size) p2 0 bs ∧ RwW w base p w') from by
    have := from_any bs A c W hb (by omega)
    rw [hl] at this
    refine this.mono ?_
    rintro e w' ⟨p2, rfl, hp2, hr, hbl⟩
    refine ⟨p2, rfl, hr.mono (fun g hg => ⟨by omega, hg.2⟩), hw.next (Fr.of_new (S := fun _ => False) hbl) (fun _ h => h.elim)⟩)
  have HNU := hid (fun (W : World) (p2 Z : Nat) (hw : RwW w base p W) (hr : RS W (fun g => w.heap.size < g ∧ g < Z) p2 0 bs) (hZ : Z = W.heap.size) => show Calls Tryd.prog 56 #[.pointer (some ⟨p2, 0, none⟩), .int .i64 8] W (fun e w' => e = .returned (.int .u64 (val (bs.take 8) : Nat)) ∧ RS w' (fun g => w.heap.size < g ∧ g < Z) p2 0 (bs.drop 8) ∧ RwW w base p w' ∧ Z ≤ w'.heap.size) from by
    refine (rnum_good _ p2 0 bs 8 (by unfold Sz; omega) W hr (by omega)).mono ?_
    rintro e w' ⟨x, rfl, rfl, hr', hf⟩
    refine ⟨rfl, hr', hw.next hf (fun g hg => ?_), by rw [hZ]; exact hf.size⟩
    have h1 := rs_low hr'
    rw [show g = p2 from hg]
    exact h1.1)
  have HRD := hid (fun (W : World) (p2 Z X : Nat) (l : List UInt8) (x : List Value) (n : Nat) (hx : RxW w base p p2 Z X l x W) (hn : n ≤ l.length) (hll : l.length ≤ 100) => show Calls Tryd.prog 55 #[.pointer (some ⟨p2, 0, none⟩), .int .i64 (n : Int)] W (fun e w' => ∃ A c, e = .returned (.slice A n c) ∧ Rb w' w'.heap.size A (l.take n) ∧ RxW w base p p2 Z X (l.drop n) x w') from by
    refine (rraw_good _ p2 0 l n W hx.r2 hn (by omega)).mono ?_
    rintro e w' ⟨x', rfl, ho, hr, hf⟩
    obtain ⟨A, c, rfl, -⟩ := own_form ho
    have ho' := Rd.of_own ho
    refine ⟨A, c, ?_, ho', hx.read hr hf⟩
    rw [List.length_take, Nat.min_eq_left hn])
  have HST := hid (fun (W : World) (p2 Z : Nat) (l : List UInt8) (x : List Value) (hw : RwW w base p W) (hr : RS W (fun g => w.heap.size < g ∧ g < Z) p2 0 l) (hZ : Z ≤ W.heap.size) => show RxW w base p p2 Z W.heap.size l x ((W.alloc (.cells (sv 0 n32 n16).toArray 31)).setRow W.heap.size x.toArray) from
    ⟨hw.next (Fr.of_new (S := fun _ => False) (ps_stored_below W x)) (fun _ h => h.elim), hr.new (ps_stored_below W x), ps_stored W x, hZ, hw.res.lt⟩)
  have L8 := hid (show (bs.drop 8).length = 48 by rw [List.length_drop]; omega)
  have LD := hid (show ((bs.drop 8).take 32).length = 32 by rw [List.length_take, List.length_drop]; omega)
  have LR := hid (show ((bs.drop 8).drop 32).length = 16 by rw [List.length_drop, List.length_drop]; omega)
  have LT := hid (show (((bs.drop 8).drop 32).take 16).length = 16 by rw [List.length_take, LR.out]; rfl)
  have HSV := hid (show svOf bs = sv (val (bs.take 8)) ((bs.drop 8).take 32) (((bs.drop 8).drop 32).take 16) by rw [svOf, List.drop_drop])
  rw [HSV.out]
  clear HSV
  have HD1 := hid (fun (W : World) (p2 Z X : Nat) (x : List Value) (hx : RxW w base p p2 Z X (bs.drop 8) x W) => show Calls Tryd.prog 55 #[.pointer (some ⟨p2, 0, none⟩), .int .i64 32] W (fun e w' => ∃ A c, e = .returned (.slice A 32 c) ∧ Rb w' w'.heap.size A ((bs.drop 8).take 32) ∧ RxW w base p p2 Z X ((bs.drop 8).drop 32) x w') from HRD.out W p2 Z X _ x 32 hx (by rw [L8.out]; omega) (by rw [L8.out]; omega))
  have HD2 := hid (fun (W : World) (p2 Z X : Nat) (x : List Value) (hx : RxW w base p p2 Z X ((bs.drop 8).drop 32) x W) => show Calls Tryd.prog 55 #[.pointer (some ⟨p2, 0, none⟩), .int .i64 16] W (fun e w' => ∃ A c, e = .returned (.slice A 16 c) ∧ Rb w' w'.heap.size A (((bs.drop 8).drop 32).take 16) ∧ RxW w base p p2 Z X (((bs.drop 8).drop 32).drop 16) x w') from HRD.out W p2 Z X _ x 16 hx (by rw [LR.out]; omega) (by rw [LR.out]; omega))
  have HEND := hid (fun (W : World) (hw : RwW w base p W) (ds : Array Value) => show RS (W.setRow w.heap.size ds) base p 0 [] ∧ Fr (Only p) w (W.setRow w.heap.size ds) from
    ⟨(hw.rs.fr ((Fr.refl (fun k => k = w.heap.size) W).setRow (.inr rfl) ds) (fun g hg c => by have h1 : base g ∧ g < w.heap.size := hg; have h2 : g = w.heap.size := c; omega)).mono (fun _ h => h.1), hw.fr.setRow (.inl (Nat.le_refl _)) ds⟩)
  generalize val (bs.take 8) = e at HNU ⊢
  generalize ((bs.drop 8).drop 32).take 16 = t at LT HD2 ⊢
  generalize ((bs.drop 8).drop 32).drop 16 = l3 at HD2
  generalize (bs.drop 8).take 32 = d at LD HD1 ⊢
  generalize (bs.drop 8).drop 32 = l2 at HD1 HD2 LR
  generalize bs.drop 8 = l1 at HNU HD1 L8
  have HZ0 := hid (sv_length 0 n32 n16 n32_length n16_length)
  have HZ1 := hid (sv_length e n32 n16 n32_length n16_length)
  have HZ2 := hid (sv_length e d n16 LD.out n16_length)
  have HZ3 := hid (sv_length e d t LD.out LT.out)
  have HS1 := hid (splice_svd e d n16 LD.out)
  have HS2 := hid (splice_sv e d t LD.out LT.out)
  have hz := noughts32
  have hz16 := noughts16
  clear h hl hp hs0 HRD
  subst hW0
  go_enter Tryd.func36, Tryd.ntmps36
  go_upto_region 3 with (first
    | (refine Great.wpList_allocTo rfl _ rfl _ _ (HAS.out _ _ _ rfl) ?_)
    | (go_at_call 55; refine HR1.out.mono ?_; rintro e1 w1 ⟨A1, c1, rfl, hr1, hw1, hz1⟩; have W1 := hid hw1; have F1 := hid (HFR.out w1 A1 c1 hw1 hr1 hz1); clear hr1 hw1 hz1)
    | (go_at_call 35; refine F1.out.mono ?_; rintro e2 w2 ⟨p2, rfl, hr2, hw2⟩; have N2 := hid (HNU.out w2 p2 w2.heap.size hw2 hr2 rfl); clear hr2 hw2)
    | (go_at_call 56; refine N2.out.mono ?_; rintro e3 w3 ⟨rfl, hr3, hw3, hz3⟩; have S3 := hid (HST.out w3 p2 w2.heap.size l1 (sv e n32 n16) hw3 hr3 hz3); clear hr3 hw3 hz3)
    | (refine wpList_valW (by rfl) (run_build_ps1 (.tmp 9) rfl e rfl) ?_)
    | (refine wpList_store_row rfl _ (.tmp 4) (.tmp 10) rfl w3.heap.size (sv e n32 n16).toArray rfl rfl 31 (sv 0 n32 n16).toArray (heap_alloc_new _ _) (sizePs_of HZ1.out) ?e5 (sv_all _ _ _) ?e6; rotate_right; generalize ((w3.alloc (.cells (sv 0 n32 n16).toArray 31)).setRow w3.heap.size (sv e n32 n16).toArray) = w4 at S3 ⊢; generalize w3.heap.size = X at S3 ⊢; generalize w2.heap.size = Z at S3))
  case e5 => simp [HZ0.out, HZ1.out]
  clear HR1 HFR HNU HST W1 F1 N2 HAS
  have D5 := hid (S3.out.drew)
  try simp only [Act.put, List.setIfInBounds_toArray, List.set_cons_succ, List.set_cons_zero]
  refine wp_region_upto (fun _ => True) 5 5 (by kernel_rfl) (by kernel_rfl) ?_
  refine wpUpto_takeL (i := 0) (v := .pointer (some ⟨X, 1, none⟩)) rfl rfl (by decide +kernel) (by decide +kernel) (by decide +kernel) (by decide +kernel) (by decide) (fun _ _ _ h => h) (Or.inl ⟨by rfl, ?_⟩) trivial ?_
  · (intro W hSW; go_simp)
  simp only [List.set_cons_succ, List.set_cons_zero]
  refine wpUpto_takeL (i := 1) (v := .slice (some ⟨X, 1, none⟩) 32 32) rfl rfl (by decide +kernel) (by decide +kernel) (by decide +kernel) (by decide +kernel) (by decide) (fun _ _ _ h => h) (Or.inl ⟨by rfl, ?_⟩) trivial ?_
  · (intro W hSW; go_simp)
  simp only [List.set_cons_succ, List.set_cons_zero]
  refine wpUpto_takeL (i := 2) (v := .pointer (some ⟨p2, 0, none⟩)) rfl rfl (by decide +kernel) (by decide +kernel) (by decide +kernel) (by decide +kernel) (by decide) (fun _ _ _ h => h) (Or.inl ⟨by rfl, ?_⟩) trivial ?_
  · (intro W hSW; go_simp)
  simp only [List.set_cons_succ, List.set_cons_zero]
  refine wpUpto_one (i := 3) rfl (by decide +kernel) rfl ?_
  intro Q0 hQ0
  go_simp
  go_at_call 55
  refine (HD1.out _ p2 Z X _ D5.out).mono ?_
  rintro e1 v5 ⟨A5, c5, rfl, hr, hx⟩
  have R5 := hid hr
  have X5 := hid hx
  clear hr hx
  refine hQ0.out _ _ (fun _ => trivial) ?_
  clear hQ0 Q0
  refine wpUpto_one (i := 4) rfl (by decide +kernel) rfl ?_
  intro Q0 hQ0
  refine wp_copy_rd (.tmp 12) (.tmp 14) _ _ rfl 5 Tryd.underlying55 sizeU8 X 1 32 32 v5.heap.size A5 32 c5 rfl rfl (sv e n32 n16) 31 X5.out.x (ubs d) R5.out (by rw [ubs_length, LD.out]) (by rw [HZ1.out]; omega) (ubs_one _) ?_
  intro u5 hA hF
  rw [HS1.out] at hA
  have Y5 := hid (X5.out.fill hA hF)
  clear hA hF
  refine hQ0.out _ _ (fun _ => trivial) ?_
  clear hQ0 Q0
  refine wpUpto_done (by decide +kernel) ?_ _
  go_simp
  go_upto_region 4 with (fail)
  have D6 := hid (Y5.out.drew)
  try simp only [Act.put, List.setIfInBounds_toArray, List.set_cons_succ, List.set_cons_zero]
  refine wp_region_upto (fun _ => True) 5 5 (by kernel_rfl) (by kernel_rfl) ?_
  refine wpUpto_takeL (i := 0) (v := .pointer (some ⟨X, 33, none⟩)) rfl rfl (by decide +kernel) (by decide +kernel) (by decide +kernel) (by decide +kernel) (by decide) (fun _ _ _ h => h) (Or.inl ⟨by rfl, ?_⟩) trivial ?_
  · (intro W hSW; go_simp)
  simp only [List.set_cons_succ, List.set_cons_zero]
  refine wpUpto_takeL (i := 1) (v := .slice (some ⟨X, 33, none⟩) 16 16) rfl rfl (by decide +kernel) (by decide +kernel) (by decide +kernel) (by decide +kernel) (by decide) (fun _ _ _ h => h) (Or.inl ⟨by rfl, ?_⟩) trivial ?_
  · (intro W hSW; go_simp)
  simp only [List.set_cons_succ, List.set_cons_zero]
  refine wpUpto_takeL (i := 2) (v := .pointer (some ⟨p2, 0, none⟩)) rfl rfl (by decide +kernel) (by decide +kernel) (by decide +kernel) (by decide +kernel) (by decide) (fun _ _ _ h => h) (Or.inl ⟨by rfl, ?_⟩) trivial ?_
  · (intro W hSW; go_simp)
  simp only [List.set_cons_succ, List.set_cons_zero]
  refine wpUpto_one (i := 3) rfl (by decide +kernel) rfl ?_
  intro Q0 hQ0
  go_simp
  go_at_call 55
  refine (HD2.out _ p2 Z X _ D6.out).mono ?_
  rintro e1 v6 ⟨A6, c6, rfl, hr, hx⟩
  have R6 := hid hr
  have X6 := hid hx
  clear hr hx
  refine hQ0.out _ _ (fun _ => trivial) ?_
  clear hQ0 Q0
  refine wpUpto_one (i := 4) rfl (by decide +kernel) rfl ?_
  intro Q0 hQ0
  refine wp_copy_rd (.tmp 17) (.tmp 19) _ _ rfl 5 Tryd.underlying55 sizeU8 X 33 16 16 v6.heap.size A6 16 c6 rfl rfl (sv e d n16) 31 X6.out.x (ubs t) R6.out (by rw [ubs_length, LT.out]) (by rw [HZ2.out]; omega) (ubs_one _) ?_
  intro u6 hA hF
  rw [HS2.out] at hA
  have Y6 := hid (X6.out.fill hA hF)
  clear hA hF
  refine hQ0.out _ _ (fun _ => trivial) ?_
  clear hQ0 Q0
  refine wpUpto_done (by decide +kernel) ?_ _
  go_simp
  go_wp2_with (first
    | (refine wpList_load_row rfl _ (.tmp 4) rfl X rfl 31 (sv e d t).toArray (0, 0) _ Y6.out.x Tryd.underlying31 rfl (sizePs_of HZ3.out) ?_)
    | (refine wpList_store_row rfl _ (.tmp 2) (.tmp 21) rfl w.heap.size (sv e d t).toArray rfl rfl 31 (sv 0 n32 n16).toArray Y6.out.rw.res (sizePs_of HZ3.out) ?e7 (sv_all _ _ _) ?e8; rotate_right))
  case e7 => simp [HZ0.out, HZ3.out]
  refine bodyPost_ret (results_cell_row rfl _ _ w.heap.size 31 (sv e d t).toArray (0, 0) _ rfl (setRow_heap _ _ _ _ _ _ Y6.out.rw.res) Tryd.underlying31 rfl (sizePs_of HZ3.out)) rfl ?_
  exact ⟨rfl, HEND.out _ Y6.out.rw _⟩
theorem svOf_length (bs : List UInt8) (hl : bs.length = 56) : (svOf bs).length = 49 := sv_length _ _ _ (by rw [List.length_take, List.length_drop]; omega) (by rw [List.length_take, List.length_drop]; omega)
theorem svOf_all (bs : List UInt8) : (svOf bs).toArray.all (·.oneCell') = true := sv_all _ _ _
set_option maxRecDepth 100000 in
set_option maxHeartbeats 2000000 in
theorem pparse_any (bs : List UInt8) (A : Option Addr) (c : Nat) (w : World) (hx : Rb w w.heap.size A bs) (hl : bs.length = 56) :
    Calls Tryd.prog 20 #[.slice A 56 c] w fun r w' => r = .returned (.tuple #[.agg (svOf bs).toArray, .nilIface]) ∧ Below w.heap.size w w' := by
  have HAS := hid (fun (o : Oper) (a : Go.Act) (W : World) (h : o.op = .alloc 31) => run_alloc_of (o := o) (a := a) (W := W) _ h _ zeroPs)
  obtain ⟨W0, hW0⟩ : ∃ W0, W0 = w.alloc (.cells (sv 0 n32 n16).toArray 31) := ⟨_, rfl⟩
  have hb0 : Below w.heap.size w W0 := by rw [hW0]; exact (Below.refl _ _).alloc (Nat.le_refl _) _
  have hn0 : At W0 w.heap.size (sv 0 n32 n16).toArray 31 := by rw [hW0]; exact At.new _ _ _
  have HN := hid (fun (W : World) (h : Below W0.heap.size W0 W) => And.intro (hn0.below h hn0.lt) (hb0.trans (h.mono hb0.size)))
  have HF := hid (show Calls Tryd.prog 35 #[.slice A 56 c] W0 (fun e w' => ∃ p, e = .returned (.pointer (some ⟨p, 0, none⟩)) ∧ FromOut bs W0 p w') from by
    have := from_any bs A c W0 ((hx.below hb0).mono hb0.size) (by omega)
    rwa [hl] at this)
  have HR := hid (fun (W : World) (p : Nat) (h : FromOut bs W0 p W) => show Calls Tryd.prog 36 #[.pointer (some ⟨p, 0, none⟩)] W (fun r w' => r = .returned (.agg (svOf bs).toArray) ∧ RS w' (fun g => W0.heap.size ≤ g ∧ g < W.heap.size) p 0 [] ∧ Below W0.heap.size W0 w') from by
    obtain ⟨h1, h2, h3⟩ := h
    refine (pread_any _ p bs W h2 hl).mono ?_
    rintro e w' ⟨rfl, hr, hf⟩
    refine ⟨rfl, hr, h3.trans (hf.below (fun g hg => ?_) h3.size)⟩
    rw [show g = p from hg]
    exact h1)
  have HE := hid (fun (W : World) (base : Nat → Prop) (p : Nat) (h : RS W base p 0 []) => show Calls Tryd.prog 37 #[.pointer (some ⟨p, 0, none⟩)] W (fun e w' => e = .returned .nilIface ∧ W = w') from end_done base p 0 W h)
  have HL := hid (svOf_length bs hl)
  have HA := hid (svOf_all bs)
  have HZ0 := hid (sv_length 0 n32 n16 n32_length n16_length)
  generalize svOf bs = x at HR HL HA ⊢
  have hz := noughts32
  have hz16 := noughts16
  clear hx hl hb0 hn0
  subst hW0
  go_enter Tryd.func20, Tryd.ntmps20
  go_wp2_with (first
    | (refine Great.wpList_allocTo rfl _ rfl _ _ (HAS.out _ _ _ rfl) ?_)
    | (go_at_call 35; refine HF.out.mono ?_; rintro e1 w1 ⟨p, rfl, hf1⟩; have R1 := hid (HR.out w1 p hf1); clear hf1)
    | (go_at_call 36; refine R1.out.mono ?_; rintro e2 w2 ⟨rfl, hr2, hb2⟩; have S2 := hid (hr2.new (ps_stored_below w2 x)); have B3 := hid (HN.out _ (hb2.trans ((ps_stored_below w2 x).mono hb2.size))); clear hr2 hb2)
    | (refine wpList_store_row rfl _ (.tmp 5) (.tmp 10) rfl w2.heap.size x.toArray rfl rfl 31 (sv 0 n32 n16).toArray (heap_alloc_new _ _) (sizePs_of HL.out) ?e5 HA.out ?e6; rotate_right; have A3 := hid (ps_stored w2 x); generalize ((w2.alloc (.cells (sv 0 n32 n16).toArray 31)).setRow w2.heap.size x.toArray) = w3 at S2 B3 A3 ⊢)
    | (go_at_call 37; refine (HE.out w3 _ p S2.out).mono ?_; rintro e4 w4 ⟨rfl, rfl⟩)
    | (refine wpList_load_row rfl _ (.tmp 5) rfl w2.heap.size rfl 31 x.toArray (0, 0) _ A3.out Tryd.underlying31 rfl (sizePs_of HL.out) ?_)
    | (refine wpList_store_row rfl _ (.tmp 2) (.tmp 17) rfl w.heap.size x.toArray rfl rfl 31 (sv 0 n32 n16).toArray B3.out.1 (sizePs_of HL.out) ?e7 HA.out ?e8; rotate_right))
  case e5 => simp [HZ0.out, HL.out]
  case e7 => simp [HZ0.out, HL.out]
  refine bodyPost_ret (results_row_tmp rfl _ _ w.heap.size 31 x.toArray (0, 0) _ rfl (setRow_heap _ _ _ _ _ _ B3.out.1) Tryd.underlying31 rfl (sizePs_of HL.out)) rfl ?_
  exact ⟨rfl, below_setRow B3.out.2 (Nat.le_refl _) _⟩
end Go.Proofs.YtnaihcoafgigcaaDoor
