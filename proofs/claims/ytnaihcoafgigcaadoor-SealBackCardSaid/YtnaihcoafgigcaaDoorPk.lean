/-
  The program's layer 6: labels' tags, sessions' keys.
-/
import Derived.Test.YtnaihcoafgigcaaDoorKb
import Derived.Test.YtnaihcoafgigcaaDoorHd
import Derived.Test.YtnaihcoafgigcaaDoorY9
import Derived.Test.YtnaihcoafgigcaaDoorY1
namespace Go.Proofs.YtnaihcoafgigcaaDoor
open Go.RowKit

set_option maxRecDepth 100000 in
set_option maxHeartbeats 1000000 in
theorem klabel_any (key l : List UInt8) (w : World) (hk : key.length = 16) (hl : l.length ≤ 1000000) (hT : Tabs w) :
    Calls Tryd.prog 38 #[.agg (ubs key).toArray, .string ⟨l.toArray⟩] w fun e w' => e = .returned (.agg (ubs (macL key l)).toArray) ∧ Below w.heap.size w w' := by
  obtain ⟨W0, hW0⟩ : ∃ W0, W0 = (w.alloc (.cells (ubs key).toArray 23)).alloc (.cells (ubs n32).toArray 61) := ⟨_, rfl⟩
  have hb0 : Below w.heap.size w W0 := by rw [hW0]; exact ((Below.refl _ _).alloc (Nat.le_refl _) _).alloc (by simp) _
  have h0 : At W0 w.heap.size (ubs key).toArray 23 := by rw [hW0]; exact (At.new _ _ _).alloc _
  have h1 : At W0 (w.heap.size + 1) (ubs n32).toArray 61 := by rw [hW0]; exact At.new_at (by simp)
  obtain ⟨W1, cap, k1, r1, b1⟩ := str_bytes l W0
  have b2 : Below W1.heap.size W1 (W1.alloc (.cells #[.slice (some ⟨W0.heap.size, 0, none⟩) l.length cap] 55)) := (Below.refl _ _).alloc (Nat.le_refl _) _
  have b3 := b1.trans (b2.mono b1.size)
  have b4 := hb0.trans (b3.mono hb0.size)
  have cm : Calls Tryd.prog 43 #[.slice (some ⟨w.heap.size, 0, none⟩) 16 16, .slice (some ⟨W1.heap.size, 0, none⟩) 1 1] (W1.alloc (.cells #[.slice (some ⟨W0.heap.size, 0, none⟩) l.length cap] 55)) (fun e w' => e = .returned (.agg (ubs (macL key l)).toArray) ∧ Below (W1.alloc (.cells #[.slice (some ⟨W0.heap.size, 0, none⟩) l.length cap] 55)).heap.size (W1.alloc (.cells #[.slice (some ⟨W0.heap.size, 0, none⟩) l.length cap] 55)) w') := by
    have := mac_any key (some ⟨w.heap.size, 0, none⟩) 16 [⟨some ⟨W0.heap.size, 0, none⟩, l, cap⟩] (some ⟨W1.heap.size, 0, none⟩) 1 (W1.alloc (.cells #[.slice (some ⟨W0.heap.size, 0, none⟩) l.length cap] 55))
      ((rb_at h0).below b3 |>.mono b3.size) (rd_parts W1 [⟨some ⟨W0.heap.size, 0, none⟩, l, cap⟩]) (by intro p hp; simp only [List.mem_cons, List.not_mem_nil, or_false] at hp; subst hp; exact (r1.below b2).mono b2.size) (by omega) (by rw [joined_one]; show l.length ≤ _; omega) (by simp) (hT.below b4)
    rw [joined_one, hk] at this
    exact this
  have HM := hid cm
  have HML := hid (macL_length key l)
  have H1 := hid (h1.new_ b3)
  have HB := hid b4
  have hz := noughts32
  obtain ⟨m, hm⟩ : ∃ m, m = macL key l := ⟨_, rfl⟩
  rw [← hm] at HM HML ⊢
  obtain ⟨x, hx⟩ : ∃ x : ByteArray, x = ⟨l.toArray⟩ := ⟨_, rfl⟩
  rw [← hx] at k1 ⊢
  obtain ⟨n, hn⟩ : ∃ n, n = l.length := ⟨_, rfl⟩
  rw [← hn] at k1 HM H1 HB
  have hsz : W0.heap.size = w.heap.size + 1 + 1 := by rw [hW0]; simp
  rw [hsz] at k1 HM H1 HB
  clear hk hl hT hb0 h0 h1 r1 b1 hm hx hn hsz b2 b3 b4 cm
  subst hW0
  go_enter Tryd.func38, Tryd.ntmps38
  go_wp2_with (first
    | (go_at_call 43; refine HM.out.mono ?_; rintro e w2 ⟨rfl, hb2⟩; have H2 := hid (H1.out.new_ hb2); have B2 := hid (HB.out.trans (hb2.mono HB.out.size)); clear hb2)
    | (refine wpList_store_row rfl _ (.tmp 4) (.tmp 9) rfl (w.heap.size + 1) (ubs m).toArray rfl rfl 61 (ubs n32).toArray H2.out (sizeH_of HML.out) ?e5 (ubs_all _) ?e6; rotate_right))
  case e5 => simp [ubs_length, n32_length, HML.out]
  refine bodyPost_ret (results_cell_row rfl _ _ (w.heap.size + 1) 61 (ubs m).toArray (0, 0) _ rfl (setRow_heap _ _ _ _ _ _ H2.out) Tryd.underlying61 rfl (sizeH_of HML.out)) rfl ?_
  exact ⟨rfl, below_setRow B2.out (by omega) _⟩
/-- A new writer. -/
theorem wi_new (w : World) : WI (w.alloc (.cells #[.nilIface, .slice none 0 0] 83)) w.heap.size w.heap.size 0 (.slice none 0 0) [] :=
  ⟨At.new _ _ _, ⟨rfl, .inl ⟨rfl, rfl⟩⟩, Nat.le_refl _⟩
/-- A number's bytes, by a writer of its own. -/
theorem new_num (n : Nat) (w : World) (hn : n < 18446744073709551616) :
    Calls Tryd.prog 32 #[.pointer (some ⟨w.heap.size, 0, none⟩), .int .u64 (n : Int), .int .i64 8] (w.alloc (.cells #[.nilIface, .slice none 0 0] 83)) fun e w' => e = .returned (.pointer (some ⟨w.heap.size, 0, none⟩)) ∧ (∃ v, WI w' w.heap.size w.heap.size 0 v (toBE 8 n)) ∧ Below w.heap.size w w' := by
  have := num_fit w.heap.size w.heap.size 0 (.slice none 0 0) [] n 8 (Or.inr (Or.inr (Or.inr rfl))) (by omega) (w.alloc (.cells #[.nilIface, .slice none 0 0] 83)) (wi_new w) (by simp) (by simp)
  refine this.mono ?_
  rintro e w' ⟨x, rfl, rfl, v', h1, h2, -⟩
  rw [show wput 0 [] (be n 8) = toBE 8 n by rw [wput, if_pos rfl, List.nil_append]; unfold be toBE; rfl] at h1
  refine ⟨rfl, ⟨v', h1⟩, ?_⟩
  have h3 : Fr (Wt w.heap.size (.slice none 0 0)) w (w.alloc (.cells #[.nilIface, .slice none 0 0] 83)) := (Fr.refl _ _).alloc _
  exact (h3.trans h2).below (fun k hk => by
    rcases hk with rfl | hk
    · exact Nat.le_refl _
    · cases hk) (Nat.le_refl _)
theorem num_done (n : Nat) (b : Nat) (v : Value) (w : World) (hv : WI w b b 0 v (toBE 8 n)) :
    Calls Tryd.prog 34 #[.pointer (some ⟨b, 0, none⟩)] w fun e w' => ∃ A c, e = .returned (.tuple #[.slice A 8 c, .nilIface]) ∧ Rb w' w'.heap.size A (toBE 8 n) ∧ Below w.heap.size w w' := by
  refine (done_good b b v (toBE 8 n) w hv (by rw [toBE_length]; omega)).mono ?_
  rintro e w' ⟨x, rfl, ho, hb⟩
  obtain ⟨A, c, rfl, -⟩ := own_form ho
  refine ⟨A, c, ?_, Rd.of_own ho, hb⟩
  rw [toBE_length, errV_zero]
theorem SsW.begin (w : World) (l : List UInt8) : SsW w l ((w.alloc (.cells (ubs l).toArray 61)).alloc (.cells (ubs n32).toArray 61)) :=
  ⟨(At.new _ _ _).alloc _, At.new_at (by simp), ((Below.refl w.heap.size w).alloc (Nat.le_refl _) _).alloc (by simp) _⟩
end Go.Proofs.YtnaihcoafgigcaaDoor
