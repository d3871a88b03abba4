/-
  The program's layer 6: labels' tags, sessions' keys.
-/
import Derived.Test.YtjfpdbhjbleffaaDoorKb
import Derived.Test.YtjfpdbhjbleffaaDoorHd
import Derived.Test.YtjfpdbhjbleffaaDoorY9
import Derived.Test.YtjfpdbhjbleffaaDoorY1
namespace Go.Proofs.YtjfpdbhjbleffaaDoor
open Go.RowKit

set_option maxRecDepth 100000 in
set_option maxHeartbeats 1000000 in
theorem klabel_any (key l : List UInt8) (w : World) (hk : key.length = 16) (hl : l.length ≤ 1000000) (hT : Tabs w) :
    Calls Tryd.prog 15 #[.agg (ubs key).toArray, .string ⟨l.toArray⟩] w fun e w' => e = .returned (.agg (ubs (macL key l)).toArray) ∧ Below w.heap.size w w' := by
  obtain ⟨W0, hW0⟩ : ∃ W0, W0 = (w.alloc (.cells (ubs key).toArray 23)).alloc (.cells (ubs n32).toArray 27) := ⟨_, rfl⟩
  have hb0 : Below w.heap.size w W0 := by rw [hW0]; exact ((Below.refl _ _).alloc (Nat.le_refl _) _).alloc (by simp) _
  have h0 : At W0 w.heap.size (ubs key).toArray 23 := by rw [hW0]; exact (At.new _ _ _).alloc _
  have h1 : At W0 (w.heap.size + 1) (ubs n32).toArray 27 := by rw [hW0]; exact At.new_at (by simp)
  obtain ⟨W1, cap, k1, r1, b1⟩ := str_bytes l W0
  have b2 : Below W1.heap.size W1 (W1.alloc (.cells #[.slice (some ⟨W0.heap.size, 0, none⟩) l.length cap] 41)) := (Below.refl _ _).alloc (Nat.le_refl _) _
  have b3 := b1.trans (b2.mono b1.size)
  have b4 := hb0.trans (b3.mono hb0.size)
  have cm : Calls Tryd.prog 22 #[.slice (some ⟨w.heap.size, 0, none⟩) 16 16, .slice (some ⟨W1.heap.size, 0, none⟩) 1 1] (W1.alloc (.cells #[.slice (some ⟨W0.heap.size, 0, none⟩) l.length cap] 41)) (fun e w' => e = .returned (.agg (ubs (macL key l)).toArray) ∧ Below (W1.alloc (.cells #[.slice (some ⟨W0.heap.size, 0, none⟩) l.length cap] 41)).heap.size (W1.alloc (.cells #[.slice (some ⟨W0.heap.size, 0, none⟩) l.length cap] 41)) w') := by
    have := mac_any key (some ⟨w.heap.size, 0, none⟩) 16 [⟨some ⟨W0.heap.size, 0, none⟩, l, cap⟩] (some ⟨W1.heap.size, 0, none⟩) 1 (W1.alloc (.cells #[.slice (some ⟨W0.heap.size, 0, none⟩) l.length cap] 41))
      ((rb_at h0).below b3 |>.mono b3.size) (rd_parts W1 [⟨some ⟨W0.heap.size, 0, none⟩, l, cap⟩]) (by intro p hp; simp only [List.mem_cons, List.not_mem_nil, or_false] at hp; subst hp; exact (r1.below b2).mono b2.size) (by omega) (by rw [joined_one]; show l.length ≤ _; omega) (by simp) (hT.below b4)
    rw [joined_one, hk] at this
    exact this
  have HM := hid cm
  have HML := hid (macL_length key l)
  have H1 := hid (h1.new_ b3)
  have HB := hid b4
  have hz := noughts32
  obtain ⟨m, hm⟩ : ∃ m, m = macL key l := ⟨_, rfl⟩
  rw [← hm] at HM HML ⊢
  obtain ⟨x, hx⟩ : ∃ x : ByteArray, x = ⟨l.toArray⟩ := ⟨_, rfl⟩
  rw [← hx] at k1 ⊢
  obtain ⟨n, hn⟩ : ∃ n, n = l.length := ⟨_, rfl⟩
  rw [← hn] at k1 HM H1 HB
  have hsz : W0.heap.size = w.heap.size + 1 + 1 := by rw [hW0]; simp
  rw [hsz] at k1 HM H1 HB
  clear hk hl hT hb0 h0 h1 r1 b1 hm hx hn hsz b2 b3 b4 cm
  subst hW0
  go_enter Tryd.func15, Tryd.ntmps15
  go_wp2_with (first
    | (go_at_call 22; refine HM.out.mono ?_; rintro e w2 ⟨rfl, hb2⟩; have H2 := hid (H1.out.new_ hb2); have B2 := hid (HB.out.trans (hb2.mono HB.out.size)); clear hb2)
    | (refine wpList_store_row rfl _ (.tmp 4) (.tmp 9) rfl (w.heap.size + 1) (ubs m).toArray rfl rfl 27 (ubs n32).toArray H2.out (sizeH_of HML.out) ?e5 (ubs_all _) ?e6; rotate_right))
  case e5 => simp [ubs_length, n32_length, HML.out]
  refine bodyPost_ret (results_cell_row rfl _ _ (w.heap.size + 1) 27 (ubs m).toArray (0, 0) _ rfl (setRow_heap _ _ _ _ _ _ H2.out) Tryd.underlying27 rfl (sizeH_of HML.out)) rfl ?_
  exact ⟨rfl, below_setRow B2.out (by omega) _⟩
/-- A new writer. -/
theorem wi_new (w : World) : WI (w.alloc (.cells #[.nilIface, .slice none 0 0] 52)) w.heap.size w.heap.size 0 (.slice none 0 0) [] :=
  ⟨At.new _ _ _, ⟨rfl, .inl ⟨rfl, rfl⟩⟩, Nat.le_refl _⟩
/-- A number's bytes, by a writer of its own. -/
theorem new_num (n : Nat) (w : World) (hn : n < 18446744073709551616) :
    Calls Tryd.prog 20 #[.pointer (some ⟨w.heap.size, 0, none⟩), .int .u64 (n : Int), .int .i64 8] (w.alloc (.cells #[.nilIface, .slice none 0 0] 52)) fun e w' => e = .returned (.pointer (some ⟨w.heap.size, 0, none⟩)) ∧ (∃ v, WI w' w.heap.size w.heap.size 0 v (toBE 8 n)) ∧ Below w.heap.size w w' := by
  have := num_fit w.heap.size w.heap.size 0 (.slice none 0 0) [] n 8 (Or.inr (Or.inr (Or.inr rfl))) (by omega) (w.alloc (.cells #[.nilIface, .slice none 0 0] 52)) (wi_new w) (by simp) (by simp)
  refine this.mono ?_
  rintro e w' ⟨x, rfl, rfl, v', h1, h2, -⟩
  rw [show wput 0 [] (be n 8) = toBE 8 n by rw [wput, if_pos rfl, List.nil_append]; unfold be toBE; rfl] at h1
  refine ⟨rfl, ⟨v', h1⟩, ?_⟩
  have h3 : Fr (Wt w.heap.size (.slice none 0 0)) w (w.alloc (.cells #[.nilIface, .slice none 0 0] 52)) := (Fr.refl _ _).alloc _
  exact (h3.trans h2).below (fun k hk => by
    rcases hk with rfl | hk
    · exact Nat.le_refl _
    · cases hk) (Nat.le_refl _)
theorem num_done (n : Nat) (b : Nat) (v : Value) (w : World) (hv : WI w b b 0 v (toBE 8 n)) :
    Calls Tryd.prog 21 #[.pointer (some ⟨b, 0, none⟩)] w fun e w' => ∃ A c, e = .returned (.tuple #[.slice A 8 c, .nilIface]) ∧ Rb w' w'.heap.size A (toBE 8 n) ∧ Below w.heap.size w w' := by
  refine (done_good b b v (toBE 8 n) w hv (by rw [toBE_length]; omega)).mono ?_
  rintro e w' ⟨x, rfl, ho, hb⟩
  obtain ⟨A, c, rfl, -⟩ := own_form ho
  refine ⟨A, c, ?_, Rd.of_own ho, hb⟩
  rw [toBE_length, errV_zero]
theorem SsW.begin (w : World) (l : List UInt8) : SsW w l ((w.alloc (.cells (ubs l).toArray 27)).alloc (.cells (ubs n32).toArray 27)) :=
  ⟨(At.new _ _ _).alloc _, At.new_at (by simp), ((Below.refl w.heap.size w).alloc (Nat.le_refl _) _).alloc (by simp) _⟩
set_option maxRecDepth 100000 in
set_option maxHeartbeats 1000000 in
theorem ksession_any (l : List UInt8) (n : Nat) (w : World) (hl : l.length = 32) (hn : n < 18446744073709551616) (hT : Tabs w) :
    Calls Tryd.prog 14 #[.agg (ubs l).toArray, .int .u64 (n : Int)] w fun e w' => e = .returned (.agg (ubs (keySession l n)).toArray) ∧ Below w.heap.size w w' := by
  have H0 := hid (SsW.begin w l)
  have HN := hid (show Calls Tryd.prog 20 #[.pointer (some ⟨w.heap.size + 1 + 1, 0, none⟩), .int .u64 (n : Int), .int .i64 8] (((w.alloc (.cells (ubs l).toArray 27)).alloc (.cells (ubs n32).toArray 27)).alloc (.cells #[.nilIface, .slice none 0 0] 52)) (fun e w' => e = .returned (.pointer (some ⟨w.heap.size + 1 + 1, 0, none⟩)) ∧ (∃ v, WI w' (w.heap.size + 1 + 1) (w.heap.size + 1 + 1) 0 v (toBE 8 n)) ∧ Below ((w.alloc (.cells (ubs l).toArray 27)).alloc (.cells (ubs n32).toArray 27)).heap.size ((w.alloc (.cells (ubs l).toArray 27)).alloc (.cells (ubs n32).toArray 27)) w') by
    have := new_num n ((w.alloc (.cells (ubs l).toArray 27)).alloc (.cells (ubs n32).toArray 27)) hn
    rw [show ((w.alloc (.cells (ubs l).toArray 27)).alloc (.cells (ubs n32).toArray 27)).heap.size = w.heap.size + 1 + 1 by simp] at this ⊢
    exact this)
  have HD := hid (fun (v : Value) (W : World) (h : WI W (w.heap.size + 1 + 1) (w.heap.size + 1 + 1) 0 v (toBE 8 n)) => num_done n (w.heap.size + 1 + 1) v W h)
  have HM := hid (fun (W : World) (A : Option Addr) (c : Nat) (h : SsW w l W) (hA : Rb W W.heap.size A (toBE 8 n)) => show Calls Tryd.prog 22 #[.slice (some ⟨w.heap.size, 0, none⟩) 32 32, .slice (some ⟨W.heap.size, 0, none⟩) 1 1] (W.alloc (.cells #[.slice A 8 c] 41)) (fun e w' => e = .returned (.agg (ubs (keySession l n)).toArray) ∧ SsW w l w') by
    have b2 : Below W.heap.size W (W.alloc (.cells #[.slice A 8 c] 41)) := (Below.refl _ _).alloc (Nat.le_refl _) _
    have e8 : (#[.slice A 8 c] : Array Value) = ([(⟨A, toBE 8 n, c⟩ : Part)].map Part.v).toArray := by
      show _ = #[Value.slice A (toBE 8 n).length c]
      rw [toBE_length]
    have := mac_any l (some ⟨w.heap.size, 0, none⟩) 32 [⟨A, toBE 8 n, c⟩] (some ⟨W.heap.size, 0, none⟩) 1 (W.alloc (.cells #[.slice A 8 c] 41))
      ((rb_at h.a0).below b2 |>.mono b2.size) (by rw [e8]; exact rd_parts W [⟨A, toBE 8 n, c⟩]) (by intro p hp; simp only [List.mem_cons, List.not_mem_nil, or_false] at hp; subst hp; exact (hA.below b2).mono b2.size) (by omega) (by rw [joined_one]; show (toBE 8 n).length ≤ _; rw [toBE_length]; omega) (by simp) (hT.below (h.new b2).below)
    rw [joined_one, hl] at this
    exact this.mono fun e w' ⟨h1, h2⟩ => ⟨h1, (h.new b2).new h2⟩)
  have HML := hid (keySession_length l n)
  have hz := noughts32
  obtain ⟨m, hm⟩ : ∃ m, m = keySession l n := ⟨_, rfl⟩
  rw [← hm] at HM HML ⊢
  clear hl hT hm hn
  go_enter Tryd.func14, Tryd.ntmps14
  go_wp2_with (first
    | (go_at_call 20; refine HN.out.mono ?_; rintro e w1 ⟨rfl, ⟨v1, hv1⟩, hb1⟩; have H1 := hid (H0.out.new hb1); have V1 := hid (HD.out v1 w1 hv1); clear hv1 hb1)
    | (go_at_call 21; refine V1.out.mono ?_; rintro e w2 ⟨A2, c2, rfl, hA, hb2⟩; have H2 := hid (H1.out.new hb2); have M2 := hid (HM.out w2 A2 c2 (H1.out.new hb2) hA); clear hA hb2)
    | (go_at_call 22; refine M2.out.mono ?_; rintro e w3 ⟨rfl, hb3⟩; have H3 := hid hb3; clear hb3)
    | (refine wpList_store_row rfl _ (.tmp 4) (.tmp 17) rfl (w.heap.size + 1) (ubs m).toArray rfl rfl 27 (ubs n32).toArray H3.out.a1 (sizeH_of HML.out) ?e5 (ubs_all _) ?e6; rotate_right))
  case e5 => simp [ubs_length, n32_length, HML.out]
  refine bodyPost_ret (results_cell_row rfl _ _ (w.heap.size + 1) 27 (ubs m).toArray (0, 0) _ rfl (setRow_heap _ _ _ _ _ _ H3.out.a1) Tryd.underlying27 rfl (sizeH_of HML.out)) rfl ?_
  exact ⟨rfl, below_setRow H3.out.below (by omega) _⟩
end Go.Proofs.YtjfpdbhjbleffaaDoor
