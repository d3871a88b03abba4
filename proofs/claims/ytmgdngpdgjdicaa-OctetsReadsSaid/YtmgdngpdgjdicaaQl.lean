/-
  The reader and the document's one: the same calls of both.
-/
import Derived.Test.YtmgdngpdgjdicaaQh
namespace Go.Proofs.Ytmgdngpdgjdicaa
open Go.RowKit

/-- The reader behind p and the document's one, in the box q. -/
structure QR (w : World) (B : Nat) (F : Nat → Prop) (p q k : Nat) (bs : List UInt8) (A : Option Addr) (c : Nat) (ms : List UInt8) : Prop where
  rs : RS w F p k bs
  box : At w q #[.slice A ms.length c, .int .i64 k] 57
  rd : Rb w B A ms
  cap : ms.length ≤ c
  out : ¬ F q
  inn : F p
  low : B ≤ q
  lowF : ∀ g, F g → B ≤ g
  base : B ≤ w.heap.size
  bad : k ≠ 0 → bs = []
  good : k = 0 → bs = ms
  len : ms.length ≤ 70000
section
variable {w : World} {B : Nat} {F : Nat → Prop} {p q k c : Nat} {bs ms : List UInt8} {A : Option Addr}
theorem QR.new_ {w' : World} (h : QR w B F p q k bs A c ms) (hb : Below w.heap.size w w') : QR w' B F p q k bs A c ms :=
  ⟨h.rs.new hb, h.box.new_ hb, h.rd.below (hb.mono h.base), h.cap, h.out, h.inn, h.low, h.lowF, Nat.le_trans h.base hb.size, h.bad, h.good, h.len⟩
/-- Behind the document's call, the box filled. -/
structure QHalf (w W : World) (B : Nat) (F : Nat → Prop) (p q k : Nat) (bs : List UInt8) (A2 : Option Addr) (c2 k2 : Nat) (ms2 : List UInt8) : Prop where
  rs : RS W F p k bs
  box : At W q #[.slice A2 ms2.length c2, .int .i64 k2] 57
  rd : Rb W B A2 ms2
  fr : Fr (fun g => g = q) w W
theorem QR.half {V : World} (h : QR w B F p q k bs A c ms) (hb : Below w.heap.size w V) {A2 : Option Addr} (c2 k2 : Nat) {ms2 : List UInt8} (h2 : Rb V B A2 ms2) :
    QHalf w ((V.setCell ⟨q, 0, none⟩ (.slice A2 ms2.length c2)).setCell ⟨q, 1, none⟩ (.int .i64 k2)) B F p q k bs A2 c2 k2 ms2 := by
  have f : Fr (fun g => g = q) V ((V.setCell ⟨q, 0, none⟩ (.slice A2 ms2.length c2)).setCell ⟨q, 1, none⟩ (.int .i64 k2)) := ((Fr.refl (fun g => g = q) V).setCell (p := ⟨q, 0, none⟩) (.inr rfl) _).setCell (p := ⟨q, 1, none⟩) (.inr rfl) _
  exact ⟨(h.rs.new hb).fr f (fun g hg e => h.out (e ▸ hg)), ((h.box.new_ hb).put 0 _).put 1 _, h2.frB f (fun g hg e => by have := h.low; omega), (Fr.of_new hb).trans f⟩
theorem QR.full {W W' : World} (h : QR w B F p q k bs A c ms) {A2 : Option Addr} {c2 k2 : Nat} {bs2 ms2 : List UInt8} (hh : QHalf w W B F p q k bs A2 c2 k2 ms2) (hc : ms2.length ≤ c2) (hr : RS W' F p k2 bs2) (hf : Fr (Only p) W W') (hb : k2 ≠ 0 → bs2 = []) (hg : k2 = 0 → bs2 = ms2) (hl : ms2.length ≤ 70000) :
    QR W' B F p q k2 bs2 A2 c2 ms2 :=
  ⟨hr, hh.box.fr hf (fun e => h.out (show F q from (show q = p from e) ▸ h.inn)), hh.rd.frB hf (fun g hg e => by have := h.lowF _ h.inn; have : g = p := e; omega), hc, h.out, h.inn, h.low, h.lowF, Nat.le_trans h.base (Nat.le_trans hh.fr.size hf.size), hb, hg, hl⟩

/-- A call that gives a value. -/
def VPair (B : Nat) (F : Nat → Prop) (p k : Nat) (bs : List UInt8) (A : Option Addr) (c : Nat) (ms : List UInt8) (f g : FuncId) (xs : List Value) (v : Value) (k2 : Nat) (bs2 ms2 : List UInt8) : Prop :=
  (∀ V, Rb V B A ms → B ≤ V.heap.size → Calls Try.prog g (wv A ms.length c k :: xs).toArray V fun e w' => ∃ x, e = .returned x ∧ QV B k2 v ms2 V x w') ∧
  (∀ V, RS V F p k bs → Calls Try.prog f (.pointer (some ⟨p, 0, none⟩) :: xs).toArray V fun e w' => e = .returned v ∧ RS w' F p k2 bs2 ∧ Fr (Only p) V w') ∧
  (k2 ≠ 0 → bs2 = []) ∧ (k2 = 0 → bs2 = ms2) ∧ ms2.length ≤ 70000
/-- A call that gives bytes. -/
def XPair (B : Nat) (F : Nat → Prop) (p k : Nat) (bs : List UInt8) (A : Option Addr) (c : Nat) (ms : List UInt8) (f g : FuncId) (xs : List Value) (v : List UInt8) (k2 : Nat) (bs2 ms2 : List UInt8) : Prop :=
  (∀ V, Rb V B A ms → B ≤ V.heap.size → Calls Try.prog g (wv A ms.length c k :: xs).toArray V fun e w' => ∃ x, e = .returned x ∧ QOut B k2 v ms2 V x w') ∧
  (∀ V, RS V F p k bs → Calls Try.prog f (.pointer (some ⟨p, 0, none⟩) :: xs).toArray V fun e w' => ∃ x, e = .returned x ∧ RawOut F p k2 v bs2 V x w') ∧
  (k2 ≠ 0 → bs2 = []) ∧ (k2 = 0 → bs2 = ms2) ∧ ms2.length ≤ 70000
theorem werr_id {k : Nat} (hk : k ≠ 0) (m : Nat) : werr k m = k := if_neg hk
theorem drop_le (ms : List UInt8) (n : Nat) (h : ms.length ≤ 70000) : (ms.drop n).length ≤ 70000 := by rw [List.length_drop]; omega
theorem rpair_num (h : QR w B F p q k bs A c ms) (n : Int) : ∃ v k2 bs2 ms2, VPair B F p k bs A c ms 25 24 [.int .i64 n] (.int .u64 (v : Nat)) k2 bs2 ms2 := by
  by_cases hk : k = 0
  · subst hk
    obtain rfl := h.good rfl
    by_cases hz : ∃ j : Nat, Sz j ∧ n = j
    · obtain ⟨j, hj, rfl⟩ := hz
      have h8 : j ≤ 8 := by rcases hj with rfl | rfl | rfl | rfl <;> omega
      by_cases hl : j ≤ bs.length
      · refine ⟨val (bs.take j), 0, bs.drop j, bs.drop j, fun V hR hB => qread_of B 0 bs (bs.take j) (bs.drop j) A c j hj (by rw [List.length_take]; omega) V hB (fun W hb => qtake_good B bs A c j hl W (hR.below (hb.mono hB)) h.cap), fun V hr => (rnum_good F p 0 bs j hj V hr hl).mono fun e w' ⟨x, hx, h1, h2⟩ => ⟨h1 ▸ hx, h2⟩, fun h => absurd rfl h, fun _ => rfl, drop_le _ _ h.len⟩
      · exact ⟨val [], 2, [], bs, fun V hR hB => qread_of B 2 bs [] bs A c j hj (by simp) V hB (fun W hb => qtake_bad B bs A c j (.inr (by omega)) W (hR.below (hb.mono hB)) h.cap), fun V hr => (rnum_bad F p 0 bs j V hr (.inl (by omega))).mono fun e w' ⟨x, hx, h1, h2⟩ => ⟨h1 ▸ hx, h2⟩, fun _ => rfl, fun h => (by cases h), h.len⟩
    · have hn : ∀ j : Nat, Sz j → n ≠ j := fun j hj e => hz ⟨j, hj, e⟩
      exact ⟨0, 2, [], bs, fun V hR hB => qread_off B bs A c n hn V hR h.cap, fun V hr => (rnum_bad F p 0 bs n V hr (.inr hn)).mono fun e w' ⟨x, hx, h1, h2⟩ => ⟨h1 ▸ hx, h2⟩, fun _ => rfl, fun h => (by cases h), h.len⟩
  · obtain rfl := h.bad hk
    have hn : (([] : List UInt8).length : Int) < n ∨ ∀ j : Nat, Sz j → n ≠ j := by
      by_cases h0 : 0 < n
      · exact .inl (by simpa using h0)
      · exact .inr (fun j hj e => by rcases hj with rfl | rfl | rfl | rfl <;> omega)
    exact ⟨0, k, [], ms, fun V hR hB => qread_done B k ms A c n hk V hR h.cap, fun V hr => (rnum_bad F p k [] n V hr hn).mono fun e w' ⟨x, hx, h1, h2⟩ => ⟨h1 ▸ hx, werr_id hk 2 ▸ h2⟩, fun _ => rfl, fun h => absurd h hk, h.len⟩
theorem rpair_raw (h : QR w B F p q k bs A c ms) (n : Int) : ∃ v k2 bs2 ms2, XPair B F p k bs A c ms 29 28 [.int .i64 n] v k2 bs2 ms2 := by
  by_cases hk : k = 0
  · subst hk
    obtain rfl := h.good rfl
    by_cases hn : n < 0 ∨ (bs.length : Int) < n
    · exact ⟨[], 2, [], bs, fun V hR hB => qtake_bad B bs A c n hn V hR h.cap, fun V hr => rraw_bad F p 0 bs n V hr hn, fun _ => rfl, fun h => (by cases h), h.len⟩
    · obtain ⟨j, rfl⟩ : ∃ j : Nat, n = j := ⟨n.toNat, by omega⟩
      exact ⟨bs.take j, 0, bs.drop j, bs.drop j, fun V hR hB => qtake_good B bs A c j (by omega) V hR h.cap, fun V hr => rraw_good F p 0 bs j V hr (by omega) (by have := h.len; omega), fun h => absurd rfl h, fun _ => rfl, drop_le _ _ h.len⟩
  · obtain rfl := h.bad hk
    refine ⟨[], k, [], ms, fun V hR hB => qtake_done B k ms A c n hk V hR h.cap, fun V hr => ?_, fun _ => rfl, fun h => absurd h hk, h.len⟩
    by_cases h0 : n = 0
    · subst h0
      exact rraw_good F p k [] 0 V hr (by simp) (by simp)
    · have := rraw_bad F p k [] n V hr (by simp; omega)
      rwa [werr_id hk 2] at this
theorem rpair_bytes (h : QR w B F p q k bs A c ms) (n : Int) : ∃ v k2 bs2 ms2, XPair B F p k bs A c ms 27 26 [.int .i64 n] v k2 bs2 ms2 := by
  by_cases hk : k = 0
  · subst hk
    obtain rfl := h.good rfl
    have hl9 : bs.length ≤ 1000000000 := by have := h.len; omega
    by_cases h2 : bs.length < 2
    · exact ⟨[], 2, [], bs, fun V hR hB => qfield_short B bs A c n h2 V hR h.cap, fun V hr => rbytes_short F p 0 bs n V hr h2, fun _ => rfl, fun h => (by cases h), h.len⟩
    · by_cases hm : n < val (bs.take 2)
      · exact ⟨[], 2, [], bs, fun V hR hB => qfield_bad B bs A c n (by omega) hl9 (.inl hm) V hR h.cap, fun V hr => rbytes_most F p 0 bs n V hr (by omega) hm, fun _ => rfl, fun h => (by cases h), h.len⟩
      · by_cases hv : bs.length < 2 + val (bs.take 2)
        · exact ⟨[], 2, [], bs, fun V hR hB => qfield_bad B bs A c n (by omega) hl9 (.inr hv) V hR h.cap, fun V hr => rbytes_left F p 0 bs n V hr (by omega) hm hv, fun _ => rfl, fun h => (by cases h), h.len⟩
        · exact ⟨(bs.drop 2).take (val (bs.take 2)), 0, (bs.drop 2).drop (val (bs.take 2)), bs.drop (2 + val (bs.take 2)), fun V hR hB => qfield_good B bs A c n (by omega) hl9 _ rfl (by omega) (by omega) V hR h.cap, fun V hr => rbytes_good F p 0 bs n V hr (by omega) hm (by omega) hl9, fun h => absurd rfl h, fun _ => by rw [List.drop_drop], drop_le _ _ h.len⟩
  · obtain rfl := h.bad hk
    refine ⟨[], k, [], ms, fun V hR hB => qfield_done B k ms A c n hk V hR h.cap, fun V hr => ?_, fun _ => rfl, fun h => absurd h hk, h.len⟩
    have := rbytes_short F p k [] n V hr (by simp)
    rwa [werr_id hk 2] at this
theorem rpair_hash (h : QR w B F p q k bs A c ms) : ∃ v k2 bs2 ms2, v.length = 32 ∧ VPair B F p k bs A c ms 31 30 [] (hv v) k2 bs2 ms2 := by
  by_cases hk : k = 0
  · subst hk
    obtain rfl := h.good rfl
    by_cases hl : bs.length < 32
    · exact ⟨z32, 2, [], bs, z32_length, fun V hR hB => qhash_of B 0 2 bs [] bs z32 A c (.inl ⟨rfl, rfl⟩) V hB (fun W hb => qtake_bad B bs A c 32 (.inr (by omega)) W (hR.below (hb.mono hB)) h.cap), fun V hr => (rhash_bad F p 0 bs V hr hl).mono fun e w' ⟨x, hx, h1, h2⟩ => ⟨h1 ▸ hx, h2⟩, fun _ => rfl, fun h => (by cases h), h.len⟩
    · have h32 : (bs.take 32).length = 32 := by rw [List.length_take]; omega
      exact ⟨bs.take 32, 0, bs.drop 32, bs.drop 32, h32, fun V hR hB => qhash_of B 0 0 bs (bs.take 32) (bs.drop 32) (bs.take 32) A c (.inr ⟨h32, rfl⟩) V hB (fun W hb => qtake_good B bs A c 32 (by omega) W (hR.below (hb.mono hB)) h.cap), fun V hr => (rhash_good F p 0 bs V hr (by omega)).mono fun e w' ⟨x, hx, h1, h2⟩ => ⟨h1 ▸ hx, h2⟩, fun h => absurd rfl h, fun _ => rfl, drop_le _ _ h.len⟩
  · obtain rfl := h.bad hk
    exact ⟨z32, k, [], ms, z32_length, fun V hR hB => qhash_of B k k ms [] ms z32 A c (.inl ⟨rfl, rfl⟩) V hB (fun W hb => qtake_done B k ms A c 32 hk W (hR.below (hb.mono hB)) h.cap), fun V hr => (rhash_bad F p k [] V hr (by simp)).mono fun e w' ⟨x, hx, h1, h2⟩ => ⟨h1 ▸ hx, werr_id hk 2 ▸ h2⟩, fun _ => rfl, fun h => absurd h hk, h.len⟩
theorem one_eq (b : UInt8) : ((b.toNat : Int) == 1) = (b == 1) := by
  rw [Bool.eq_iff_iff]
  simp only [beq_iff_eq]
  constructor
  · intro h
    apply UInt8.toNat.inj
    have : (1 : UInt8).toNat = 1 := rfl
    omega
  · rintro rfl
    rfl
theorem rpair_flag (h : QR w B F p q k bs A c ms) : ∃ v k2 bs2 ms2, VPair B F p k bs A c ms 33 32 [] (.bool v) k2 bs2 ms2 := by
  by_cases hk : k = 0
  · subst hk
    obtain rfl := h.good rfl
    rcases bs with _ | ⟨b, bs⟩
    · exact ⟨false, 2, [], [], fun V hR hB => qbool_none B A c V, fun V hr => (rflag_bad F p 0 V hr).mono fun e w' ⟨x, hx, h1, h2⟩ => ⟨h1 ▸ hx, h2⟩, fun _ => rfl, fun h => (by cases h), h.len⟩
    · by_cases hb : 1 < b.toNat
      · exact ⟨false, 2, [], b :: bs, fun V hR hB => qbool_bad B (b :: bs) A c V (by simp) hR h.cap hb, fun V hr => (rflag_off F p 0 b bs V hr hb).mono fun e w' ⟨x, hx, h1, h2⟩ => ⟨h1 ▸ hx, h2⟩, fun _ => rfl, fun h => (by cases h), h.len⟩
      · refine ⟨b == 1, 0, bs, bs, fun V hR hB => ?_, fun V hr => (rflag_good F p 0 b bs V hr (by omega)).mono fun e w' ⟨x, hx, h1, h2⟩ => ⟨h1 ▸ hx, h2⟩, fun h => absurd rfl h, fun _ => rfl, by have := h.len; simp at this; omega⟩
        have := qbool_good B (b :: bs) A c V (by simp) hR h.cap (show b.toNat ≤ 1 by omega)
        rw [show ((b :: bs)[0] : UInt8) = b from rfl, one_eq] at this
        exact this
  · obtain rfl := h.bad hk
    exact ⟨false, k, [], ms, fun V hR hB => qbool_done B k ms A c hk V hR h.cap, fun V hr => (rflag_bad F p k V hr).mono fun e w' ⟨x, hx, h1, h2⟩ => ⟨h1 ▸ hx, werr_id hk 2 ▸ h2⟩, fun _ => rfl, fun h => absurd h hk, h.len⟩
end
end Go.Proofs.Ytmgdngpdgjdicaa
