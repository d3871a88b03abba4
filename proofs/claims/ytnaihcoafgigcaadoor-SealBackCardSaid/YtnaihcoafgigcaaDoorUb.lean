/-
  The program's layer 7: a writer of the call's own; a place's bytes.
-/
import Derived.Test.YtnaihcoafgigcaaDoorUa
import Derived.Test.YtnaihcoafgigcaaDoorKb
namespace Go.Proofs.YtnaihcoafgigcaaDoor
open Go.RowKit

/-- A writer that lies where the world w ends, and the bytes that it has; nothing else has turned. -/
def WN (w : World) (bs : List UInt8) (W : World) : Prop := (∃ v, WI W w.heap.size w.heap.size 0 v bs) ∧ Below w.heap.size w W
theorem WN.begin (w : World) : WN w [] (w.alloc (.cells #[.nilIface, .slice none 0 0] 83)) :=
  ⟨⟨.slice none 0 0, At.new _ _ _, ⟨rfl, .inl ⟨rfl, rfl⟩⟩, Nat.le_refl _⟩, (Below.refl _ _).alloc (Nat.le_refl _) _⟩
theorem WN.new {w W W' : World} {bs : List UInt8} (h : WN w bs W) (hb : Below W.heap.size W W') : WN w bs W' := by
  obtain ⟨⟨v, h1⟩, h2⟩ := h
  exact ⟨⟨v, h1.keep (Fr.of_new (S := fun _ => False) hb) (fun _ _ => id)⟩, h2.trans (hb.mono h2.size)⟩
theorem WN.drew {w W : World} {bs : List UInt8} (h : WN w bs W) : WN w bs W.drew := by
  obtain ⟨⟨v, h1⟩, h2⟩ := h
  exact ⟨⟨v, h1.at_, h1.own, h1.low⟩, h2.drew⟩
theorem WN.out {w W W' : World} {bs bs' : List UInt8} {v x : Value} (h : WI W w.heap.size w.heap.size 0 v bs) (hb : Below w.heap.size w W) (ho : WOut w.heap.size w.heap.size 0 bs' v W x W') : x = .pointer (some ⟨w.heap.size, 0, none⟩) ∧ WN w bs' W' := by
  obtain ⟨rfl, v', h1, h2, -⟩ := ho
  refine ⟨rfl, ⟨v', h1⟩, ?_⟩
  have h3 : Fr (fun k => w.heap.size ≤ k) w W := Fr.of_below hb (fun _ _ h => h)
  refine (h3.next h2 (fun g hg hw => ?_)).below (fun _ h => h) (Nat.le_refl _)
  rcases hw with rfl | hw
  · exact Nat.le_refl _
  · obtain ⟨A, c, rfl, -, -, -, ho, ha⟩ := own_form h.own
    rcases A with _ | a
    · rw [ho] at hw; cases hw
    · rw [ho] at hw
      obtain rfl : a.block = g := by simpa using hw
      exact (ha a rfl).2.2.1
theorem be_toBE (n s : Nat) : be n s = toBE s n := by unfold be toBE; rfl
theorem wn_num {w W : World} {bs : List UInt8} (h : WN w bs W) (n s : Nat) (hs : Sz s) (hn : n < 256 ^ s) (hl : bs.length ≤ 900000000) :
    Calls Tryd.prog 32 #[.pointer (some ⟨w.heap.size, 0, none⟩), .int .u64 (n : Int), .int .i64 (s : Int)] W fun e w' => e = .returned (.pointer (some ⟨w.heap.size, 0, none⟩)) ∧ WN w (bs ++ toBE s n) w' := by
  obtain ⟨⟨v, h1⟩, h2⟩ := h
  refine (num_fit w.heap.size w.heap.size 0 v bs n s hs hn W h1 h2.size hl).mono ?_
  rintro e w' ⟨x, rfl, ho⟩
  obtain ⟨rfl, h3⟩ := WN.out h1 h2 ho
  rw [wput, if_pos rfl, be_toBE] at h3
  exact ⟨rfl, h3⟩
theorem wn_raw {w W : World} {bs xs : List UInt8} {A : Option Addr} (c : Nat) (h : WN w bs W) (hx : Rb W W.heap.size A xs) (hl : bs.length + xs.length ≤ 1000000000) :
    Calls Tryd.prog 33 #[.pointer (some ⟨w.heap.size, 0, none⟩), .slice A xs.length c] W fun e w' => e = .returned (.pointer (some ⟨w.heap.size, 0, none⟩)) ∧ WN w (bs ++ xs) w' := by
  obtain ⟨⟨v, h1⟩, h2⟩ := h
  refine (raw_any w.heap.size w.heap.size 0 v bs xs A c W h1 hx h2.size hl).mono ?_
  rintro e w' ⟨x, rfl, ho⟩
  obtain ⟨rfl, h3⟩ := WN.out h1 h2 ho
  rw [wput, if_pos rfl] at h3
  exact ⟨rfl, h3⟩
theorem wn_done {w W : World} {bs : List UInt8} (h : WN w bs W) (hl : bs.length ≤ 1000000000) :
    Calls Tryd.prog 34 #[.pointer (some ⟨w.heap.size, 0, none⟩)] W fun e w' => ∃ A c, e = .returned (.tuple #[.slice A bs.length c, .nilIface]) ∧ Ow w' w.heap.size (.slice A bs.length c) bs ∧ Rb w' w'.heap.size A bs ∧ Below w.heap.size w w' := by
  obtain ⟨⟨v, h1⟩, h2⟩ := h
  refine (done_good w.heap.size w.heap.size v bs W h1 hl).mono ?_
  rintro e w' ⟨x, rfl, ho, hb⟩
  obtain ⟨A, c, rfl, -⟩ := own_form ho
  refine ⟨A, c, by rw [errV_zero], own_mono ho (fun k hk => ?_), Rd.of_own ho, h2.trans (hb.mono h2.size)⟩
  obtain ⟨A', c', e, -, -, -, ho', ha⟩ := own_form ho
  rw [ho'] at hk
  rcases A' with _ | a
  · cases hk
  · obtain rfl : a.block = k := by simpa using hk
    exact Nat.le_trans h2.size (ha a rfl).2.2.1
set_option maxRecDepth 100000 in
set_option maxHeartbeats 1000000 in
theorem pplace_any (i e : Nat) (w : World) (hi : i ≤ 4294967295) (he : e < 18446744073709551616) :
    Calls Tryd.prog 24 #[.int .u64 (i : Int), .int .u64 (e : Int)] w fun r w' => ∃ A c, r = .returned (.slice A 12 c) ∧ Rb w' w'.heap.size A (placeL i e) ∧ Below w.heap.size w w' := by
  have H0 := hid (show Calls Tryd.prog 32 #[.pointer (some ⟨w.heap.size, 0, none⟩), .int .u64 (i : Int), .int .i64 4] (w.alloc (.cells #[.nilIface, .slice none 0 0] 83)) (fun e w' => e = .returned (.pointer (some ⟨w.heap.size, 0, none⟩)) ∧ WN w (toBE 4 i) w') from by
    have := wn_num (WN.begin w) i 4 (by unfold Sz; omega) (by omega) (by simp)
    rw [List.nil_append] at this
    exact this)
  have H1 := hid (fun (W : World) (h : WN w (toBE 4 i) W) => show Calls Tryd.prog 32 #[.pointer (some ⟨w.heap.size, 0, none⟩), .int .u64 (e : Int), .int .i64 8] W (fun e' w' => e' = .returned (.pointer (some ⟨w.heap.size, 0, none⟩)) ∧ WN w (placeL i e) w') from
    wn_num h e 8 (by unfold Sz; omega) (by omega) (by rw [toBE_length]; omega))
  have H2 := hid (fun (W : World) (h : WN w (placeL i e) W) => by
    have := wn_done h (by rw [placeL_length]; omega)
    rw [placeL_length] at this
    exact this)
  clear hi he
  go_enter Tryd.func24, Tryd.ntmps24
  go_wp2_with (first
    | (go_at_call 32; (with_reducible refine H0.out.mono ?_); rintro e1 w1 ⟨rfl, h1⟩; have H3 := hid h1; clear h1)
    | (go_at_call 32; (with_reducible refine (H1.out w1 H3.out).mono ?_); rintro e2 w2 ⟨rfl, h2⟩; have H4 := hid h2; clear h2)
    | (go_at_call 34; refine (H2.out w2 H4.out).mono ?_; rintro e3 w3 ⟨A3, c3, rfl, h3⟩; have H5 := hid h3; clear h3))
  go_ret
  exact ⟨_, _, rfl, H5.out.2.1, H5.out.2.2⟩
end Go.Proofs.YtnaihcoafgigcaaDoor
