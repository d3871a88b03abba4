/-
  Reading back what an act has written.
-/
import Derived.Test.YtmgdngpdgjdicaaBk
namespace Go.Proofs.Ytmgdngpdgjdicaa
open Go.RowKit

theorem val_be (n s : Nat) (hs : Sz s) (hn : n < 256 ^ s) : val (be n s) = n := by
  rcases hs with rfl | rfl | rfl | rfl <;> simp [be, val, List.range_succ] <;> omega

/-- Two byte slices are compared by what they read as. -/
theorem nbytes_any (a b : List UInt8) (A B : Option Addr) (c d : Nat) (w : World) (n m : Nat) (ha : Rb w n A a) (hb : Rb w m B b) :
    Calls Try.prog 22 #[.slice A a.length c, .slice B b.length d] w fun e w' => e = .returned (.bool (a == b)) ∧ w = w' := by
  have h1 := convert_any ha c
  have h2 := convert_any hb d
  have he : (a.toArray.toList == b.toArray.toList) = (a == b) := by simp
  clear ha hb
  go_enter Try.func22, Try.ntmps22
  go_wp2
  go_ret
  exact ⟨rfl, rfl⟩
theorem nbytes_same (a : List UInt8) (A B : Option Addr) (c d : Nat) (w : World) (n m : Nat) (ha : Rb w n A a) (hb : Rb w m B a) :
    Calls Try.prog 22 #[.slice A a.length c, .slice B a.length d] w fun e w' => e = .returned (.bool true) ∧ w = w' := by
  have := nbytes_any a a A B c d w n m ha hb
  have he : (a == a) = true := by simp
  rwa [he] at this
section
variable {w : World} {base : Nat → Prop} {p : Nat} {a : Act} {r : List UInt8}
theorem read_num (h : RS w base p 0 (a.enc 5 ++ r)) (hu : a.u % 5 = 0) (hok : a.ok 5) :
    Calls Try.prog 25 #[.pointer (some ⟨p, 0, none⟩), .int .i64 a.size] w fun e w' => e = .returned (.int .u64 a.n) ∧ RS w' base p 0 r ∧ Fr (Only p) w w' := by
  obtain ⟨s, hs, hz, hf⟩ := hok.1 hu
  have he : a.enc 5 = be a.n s := by rw [Act.enc, if_pos hu, hs]; rfl
  rw [hs]
  rw [he] at h
  refine (rnum_good base p 0 _ s hz w h (by simp [be_length])).mono fun e w' ⟨x, hx, hv, h1, h2⟩ => ?_
  rw [List.take_left' (be_length _ _), val_be _ _ hz hf] at hv
  rw [List.drop_left' (be_length _ _)] at h1
  exact ⟨hx.trans (by rw [hv]), h1, h2⟩
def ReadB (base : Nat → Prop) (p : Nat) (bs r : List UInt8) (w : World) (w' : World) (A : Option Addr) : Prop := Rb w' w'.heap.size A bs ∧ RS w' base p 0 r ∧ Fr (Only p) w w'
theorem read_raw' (base : Nat → Prop) (p : Nat) (bs r : List UInt8) (w : World) (h : RS w base p 0 (bs ++ r)) (hl : (bs ++ r).length ≤ 1000000000) :
    Calls Try.prog 29 #[.pointer (some ⟨p, 0, none⟩), .int .i64 bs.length] w fun e w' => ∃ A c, e = .returned (.slice A bs.length c) ∧ ReadB base p bs r w w' A := by
  refine (rraw_good base p 0 _ bs.length w h (by simp) hl).mono fun e w' ⟨x, hx, ho, h1, h2⟩ => ?_
  rw [List.take_left' rfl] at ho
  rw [List.drop_left' rfl] at h1
  obtain ⟨A, c, rfl, -⟩ := own_form ho
  exact ⟨A, c, hx, Rd.of_own ho, h1, h2⟩
theorem read_raw (h : RS w base p 0 (a.enc 5 ++ r)) (hu : a.u % 5 = 2) (hl : (a.enc 5 ++ r).length ≤ 1000000000) :
    Calls Try.prog 29 #[.pointer (some ⟨p, 0, none⟩), .int .i64 a.bs.length] w fun e w' => ∃ A c, e = .returned (.slice A a.bs.length c) ∧ ReadB base p a.bs r w w' A := by
  have he : a.enc 5 = a.bs := by rw [Act.enc, if_neg (by omega), if_neg (by omega), if_pos hu]
  rw [he] at h hl
  exact read_raw' base p a.bs r w h hl
theorem read_bytes (h : RS w base p 0 (a.enc 5 ++ r)) (hu : a.u % 5 = 1) (hok : a.ok 5) (hl : (a.enc 5 ++ r).length ≤ 1000000000) :
    Calls Try.prog 27 #[.pointer (some ⟨p, 0, none⟩), .int .i64 65535] w fun e w' => ∃ A c, e = .returned (.slice A a.bs.length c) ∧ ReadB base p a.bs r w w' A := by
  have hb := hok.2 hu
  have he : a.enc 5 = be a.bs.length 2 ++ a.bs := by rw [Act.enc, if_neg (by omega), if_pos hu]
  rw [he, List.append_assoc] at h hl
  have ht : (be a.bs.length 2 ++ (a.bs ++ r)).take 2 = be a.bs.length 2 := List.take_left' (be_length _ _)
  have hd : (be a.bs.length 2 ++ (a.bs ++ r)).drop 2 = a.bs ++ r := List.drop_left' (be_length _ _)
  have hv : val (be a.bs.length 2) = a.bs.length := val_be _ _ (.inr (.inl rfl)) (by omega)
  have hlen : (be a.bs.length 2 ++ (a.bs ++ r)).length = 2 + (a.bs.length + r.length) := by simp [be_length]
  refine (rbytes_good base p 0 _ 65535 w h (by rw [hlen]; omega) (by rw [ht, hv]; omega) (by rw [ht, hv, hlen]; omega) hl).mono fun e w' ⟨x, hx, ho, h1, h2⟩ => ?_
  rw [ht, hv, hd, List.take_left' rfl] at ho
  rw [ht, hv, hd, List.drop_left' rfl] at h1
  obtain ⟨A, c, rfl, -⟩ := own_form ho
  exact ⟨A, c, hx, Rd.of_own ho, h1, h2⟩
theorem read_hash (h : RS w base p 0 (a.enc 5 ++ r)) (hu : a.u % 5 = 3) :
    Calls Try.prog 31 #[.pointer (some ⟨p, 0, none⟩)] w fun e w' => e = .returned (hv (hashOf a.bs)) ∧ RS w' base p 0 r ∧ Fr (Only p) w w' := by
  have he : a.enc 5 = hashOf a.bs := by rw [Act.enc, if_neg (by omega), if_neg (by omega), if_neg (by omega), if_pos hu]
  rw [he] at h
  refine (rhash_good base p 0 _ w h (by simp [hashOf_length])).mono fun e w' ⟨x, hx, hv, h1, h2⟩ => ?_
  rw [List.take_left' (hashOf_length _)] at hv
  rw [List.drop_left' (hashOf_length _)] at h1
  exact ⟨hx.trans (by rw [hv]), h1, h2⟩
theorem read_flag (h : RS w base p 0 (a.enc 5 ++ r)) (hu : a.u % 5 = 4) :
    Calls Try.prog 33 #[.pointer (some ⟨p, 0, none⟩)] w fun e w' => e = .returned (.bool a.odd) ∧ RS w' base p 0 r ∧ Fr (Only p) w w' := by
  have he : a.enc 5 = flagB a.odd := by rw [Act.enc, if_neg (by omega), if_neg (by omega), if_neg (by omega), if_neg (by omega), if_pos hu]
  rw [he] at h
  obtain ⟨b, hb⟩ : ∃ b, b = a.odd := ⟨_, rfl⟩
  rw [← hb] at h ⊢
  unfold flagB at h
  cases b
  · exact (rflag_good base p 0 0 r w h (by decide)).mono fun e w' ⟨x, hx, hv, h1, h2⟩ => ⟨hx.trans (by rw [hv]; rfl), h1, h2⟩
  · exact (rflag_good base p 0 1 r w h (by decide)).mono fun e w' ⟨x, hx, hv, h1, h2⟩ => ⟨hx.trans (by rw [hv]; rfl), h1, h2⟩
end
end Go.Proofs.Ytmgdngpdgjdicaa
